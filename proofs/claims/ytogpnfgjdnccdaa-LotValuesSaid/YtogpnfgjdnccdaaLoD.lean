/- lot: the code's contracts: code_WinsL, code_LeastL (XLoDe, XLoDf), code_ValueL, code_NonceL (XLoDn). -/
import Derived.Test.YtogpnfgjdnccdaaLoDf
import Derived.Test.YtogpnfgjdnccdaaLoDn
