/- The code's own: what stands behind a text's whole blocks; the tables. -/
import Derived.Test.YtogpnfgjdnccdaaM2
import Derived.Test.YtogpnfgjdnccdaaM3
import Derived.Lib.QuietBelow
import Derived.Stop.BytesEq
import Derived.Test.YtogpnfgjdnccdaaShelf
import Derived.Lib.Builder
import Derived.Lib.AppendStr
import Derived.Lib.UnsafeStr
import Derived.Laws.Externs
import Derived.Lib.Walk
import Derived.Lib.Hide
import Derived.Handy
import Derived.Test.YtogpnfgjdnccdaaM1
import Derived.Deep.Draws
namespace Go.Proofs.Ytogpnfgjdnccdaa.Sha
open Go.RowKit

theorem eightL_nats (n : Nat) : (Digit.eightL n).map UInt8.toNat = eightN n := by
  simp only [Digit.eightL, Digit.eightF, eightN, List.nil_append, List.cons_append, List.map_cons, List.map_nil, UInt8.toNat_ofNat', Nat.div_div_eq_div_mul]

theorem repeat_nought (n : Nat) : Lib.repeatL [0] n = List.replicate n 0 := by
  induction n with
  | zero => rfl
  | succ n ih => rw [Lib.repeatL, ih, List.replicate_succ]; rfl

/-- What stands behind a text's whole blocks, of a text of so many bytes. -/
def endL (l : List UInt8) (size : Nat) : List UInt8 := l ++ [128] ++ List.replicate ((64 - (l.length + 9) % 64) % 64) 0 ++ Digit.eightL (8 * size)

set_option maxRecDepth 100000 in
set_option maxHeartbeats 800000 in
theorem code_ending (s : ByteArray) (size : Nat) (hs : s.size ≤ 64) (hz : size ≤ 140737488355328) (w : World) :
    Calls Try.prog 61 #[.string s, .int .i64 size] w fun e w' => e = .returned (.string ⟨(endL s.data.toList size).toArray⟩) ∧ Below w.heap.size w w' := by
  obtain ⟨c, hc⟩ : ∃ c : Nat, (64 - (s.size + 9) % 64) % 64 = c := ⟨_, rfl⟩
  obtain ⟨o, ho⟩ : ∃ o : Nat, (s.size + 9) % 64 = o := ⟨_, rfl⟩
  have h1 : ((s.size : Int) + 9) % 64 = (o : Int) := by omega
  have h2 : (64 - (o : Int)) % 64 = (c : Int) := by omega
  have ho0 : (0 : Int) ≤ (o : Int) := by omega
  have ho64 : (o : Int) ≤ 63 := by omega
  have hcc : c ≤ 63 := by omega
  have HR := Lib.hid (fun w => Try.strings_Repeat ⟨#[0]⟩ c w (by omega) (by show 1 * c ≤ _; omega))
  have HE := Lib.hid (fun w => Digit.eight_any (8 * size) w (by omega))
  have HC := Lib.hid hc
  have HEL := Lib.hid (Digit.eightL_len (8 * size))
  obtain ⟨E, hE⟩ : ∃ E, Digit.eightL (8 * size) = E := ⟨_, rfl⟩
  rw [hE] at HE HEL
  have HEE := Lib.hid hE
  have hEl : E.length ≤ 8 := Nat.le_of_eq HEL.out
  clear hc ho hE
  go_enter Try.func61, Try.ntmps61
  go_wp2_with fail
  refine (HR.out _).mono ?_
  rintro e w1 ⟨rfl, hb1⟩
  obtain ⟨R, hR⟩ : ∃ R : List UInt8, Lib.repeatL [0] c = R := ⟨_, rfl⟩
  rw [hR]
  have hRl : R.length ≤ 63 := by rw [← hR, repeat_nought, List.length_replicate]; exact hcc
  have HRR := Lib.hid hR
  clear hR
  go_wp2_with fail
  rw [show (8 : Int) * (size : Int) = ((8 * size : Nat) : Int) by omega]
  refine (HE.out _).mono ?_
  rintro e w2 ⟨rfl, hb2⟩
  go_wp2_with fail
  go_ret
  refine ⟨Digit.ret_str (Digit.bytes_eq ?_), hb1.trans (hb2.mono hb1.size)⟩
  have hl : s.data.toList.length = s.size := by rw [Array.length_toList]; rfl
  simp only [endL, hl, HC.out, ByteArray.data_append, Array.toList_append, ← repeat_nought, HRR.out, HEE.out]

theorem wpList_build_as {P : Program} {ops : Array Oper} {rest : List Oper} {o : Oper} {a : Act} {w : World} {Q : Exit → Act → World → Prop} (hg : o.guard = none) (t : TypeId) (parts : Array (Nat × Operand)) (ho : o.op = .build t parts) (C : Array Value)
    (hf : P.built t (parts.map fun (i, x) => (i, a.eval x)).toList = some C) (h : wpList P ops Q rest (a.put o.dst (.agg C)) w) : wpList P ops Q (o :: rest) a w := by
  refine wpList_build hg t parts ho (by rw [hf]; rfl) ?_
  rw [hf]
  exact h

set_option maxRecDepth 100000 in
set_option maxHeartbeats 1600000 in
theorem code_cube (w : World) : Calls Try.prog 59 #[] w fun e w' => e = .returned (.agg (vals32 kL).toArray) ∧ Below w.heap.size w w' := by
  go_enter Try.func59, Try.ntmps59
  have hone : (vals32 kL).toArray.all (·.oneCell') = true := by simp only [vals32, List.all_toArray, List.all_map]; decide
  have HINF := Lib.hid (show (Try.prog.info? 87).map (·.size) = some (vals32 kL).toArray.size from info_a64)
  have hsz : 64 = (vals32 kL).toArray.size := rfl
  obtain ⟨C, hC⟩ : ∃ C, (vals32 kL).toArray = C := ⟨_, rfl⟩
  have HCC := Lib.hid hC
  rw [hC] at hone HINF hsz
  rw [hC]
  clear hC
  go_wp2_with (first | (refine wpList_build_as rfl 87 _ rfl C (by rw [← HCC.out]; kernel_rfl) ?_) | (refine wpList_store_row rfl 87 (.tmp 0) (.tmp 1) rfl w.heap.size C rfl rfl 87 _ (heap_alloc_new _ _) HINF.out hsz hone ?_; rw [World.setRow_alloc_new]))
  refine bodyPost_ret (results_cell_row (p := 0) (ty := 87) Try.results59 _ _ w.heap.size 87 C (0, 0) _ rfl (heap_alloc_new _ _) Try.underlying87 rfl HINF.out) rfl ⟨rfl, (Below.refl _ _).alloc (Nat.le_refl _) _⟩

end Go.Proofs.Ytogpnfgjdnccdaa.Sha

namespace Go.Proofs.Ytogpnfgjdnccdaa.Sha
open Go.RowKit

def h0 : EightW := ⟨1779033703, 3144134277, 1013904242, 2773480762, 1359893119, 2600822924, 528734635, 1541459225⟩
theorem h0_low : LowE h0 := ⟨by decide, by decide, by decide, by decide, by decide, by decide, by decide, by decide⟩
/-- A text's sum, as bytes. -/
def shaS (s : ByteArray) : List UInt8 := (shaL (natsOf s)).map UInt8.ofNat
theorem shaS_eq (s : ByteArray) : shaS s = hashB (blocks ((padL (natsOf s)).length / 64) h0 (padL (natsOf s))) := rfl
theorem shaS_length (s : ByteArray) : (shaS s).length = 32 := rfl

theorem blocks_append (m n : Nat) : ∀ (v : EightW) (a b : List Nat), a.length = 64 * m → blocks (m + n) v (a ++ b) = blocks n (blocks m v a) b := by
  induction m with
  | zero =>
    intro v a b h
    obtain rfl : a = [] := List.eq_nil_of_length_eq_zero (by omega)
    rw [Nat.zero_add]
    rfl
  | succ m ih =>
    intro v a b h
    rw [show m + 1 + n = (m + n) + 1 by omega, blocks, blocks, List.take_append_of_le_length (by omega), List.drop_append_of_le_length (by omega)]
    exact ih _ _ _ (by rw [List.length_drop]; omega)

theorem natsOf_mk (l : List UInt8) : natsOf ⟨l.toArray⟩ = l.map UInt8.toNat := by simp [natsOf]

theorem end_nats (s : ByteArray) (a : Nat) (ha : a = s.size - s.size % 64) :
    (natsOf s).take a ++ natsOf ⟨(endL (s.extract a s.size).data.toList s.size).toArray⟩ = padL (natsOf s) := by
  have hl := natsOf_length s
  have hx : natsOf (s.extract a s.size) = (natsOf s).drop a := by
    rw [natsOf_extract, List.take_of_length_le (by rw [List.length_drop, hl]; exact Nat.le_refl _)]
  have hxl : (s.extract a s.size).data.toList.length = s.size % 64 := by
    rw [Array.length_toList]
    show (s.extract a s.size).size = _
    simp
    omega
  rw [natsOf_mk (endL _ _), endL, hxl, padL, hl]
  simp only [List.map_append, List.map_replicate, eightL_nats, List.map_cons, List.map_nil]
  rw [show (s.extract a s.size).data.toList.map UInt8.toNat = natsOf (s.extract a s.size) from rfl, hx]
  rw [show (64 - (s.size % 64 + 9) % 64) % 64 = (119 - s.size % 64) % 64 by omega, Nat.mul_comm 8]
  simp only [← List.append_assoc, List.take_append_drop]
  rfl

theorem blocks_low (n : Nat) : ∀ (v : EightW) (l : List Nat), LowE v → LowE (blocks n v l) := by
  induction n with
  | zero => intro v l h; exact h
  | succ n ih => intro v l _; exact ih _ _ (addE_low _ _)

set_option maxRecDepth 100000 in
set_option maxHeartbeats 1600000 in
theorem code_sum (s : ByteArray) (hs : s.size ≤ 140737488355232) (w : World) :
    Calls Try.prog 49 #[.string s] w fun e w' => e = .returned (.agg (valsB (shaS s)).toArray) ∧ Below w.heap.size w w' := by
  obtain ⟨r, hr⟩ : ∃ r : Nat, s.size % 64 = r := ⟨_, rfl⟩
  obtain ⟨a, ha⟩ : ∃ a : Nat, s.size - r = a := ⟨_, rfl⟩
  have hrs : r ≤ s.size := by omega
  have hr64 : r ≤ 63 := by omega
  have has : a ≤ s.size := by omega
  have h1 : (s.size : Int) % 64 = (r : Int) := by omega
  have h2 : (s.size : Int) - (r : Int) = (a : Int) := by omega
  have HEND := Lib.hid (end_nats s a (by omega))
  have HR := Lib.hid hr
  have HA := Lib.hid ha
  clear hr ha
  go_enter Try.func49, Try.ntmps49
  go_wp2_with fail
  refine (code_square _).mono ?_
  rintro e w1 ⟨rfl, hb1⟩
  go_wp2_with fail
  refine (code_cube _).mono ?_
  rintro e w2 ⟨rfl, hb2⟩
  obtain ⟨Z, hZ⟩ : ∃ Z, (List.replicate 32 (Value.int .u8 0)).toArray = Z := ⟨_, rfl⟩
  have HZS := Lib.hid (show Z.size = 32 by rw [← hZ]; rfl)
  have hb1' : Below (w.alloc (.cells Z 32)).heap.size (w.alloc (.cells Z 32)) w1 := by rw [← hZ]; exact hb1
  have hs1 : w.heap.size + 1 ≤ w1.heap.size := by
    have := hb1'.size
    simp at this
    exact this
  have hs2 : w.heap.size + 1 ≤ w2.heap.size := Nat.le_trans hs1 hb2.size
  have HB := Lib.hid (((Below.refl w.heap.size w).alloc (Nat.le_refl _) (.cells Z 32)).trans ((hb1'.mono (by simp)).trans (hb2.mono (Nat.le_trans (Nat.le_succ _) hs1))))
  have HZ := Lib.hid ((hb2.block w.heap.size hs1).trans ((hb1'.block w.heap.size (by simp)).trans (heap_alloc_new w (.cells Z 32))))
  clear hb1 hb1' hb2 hs1 hZ
  go_upto_region 2 with (first | (refine wpList_store_row rfl 85 (.tmp 3) (.tmp 6) rfl w2.heap.size (vals32 hL).toArray rfl rfl 85 _ (heap_alloc2_old _ _ _) info_a8 rfl (rowE_one h0) ?_) | (refine wpList_store_row rfl 87 (.tmp 4) (.tmp 7) rfl (w2.heap.size + 1) (vals32 kL).toArray rfl rfl 87 _ ((setRow_other _ _ _ _ (by omega)).trans (heap_alloc2_new _ _ _)) info_a64 rfl (by simp only [vals32, List.all_toArray, List.all_map]; decide) ?_))
  generalize hW : (World.setRow (World.setRow _ _ _) _ _) = W
  have HG1 := Lib.hid (show W.heap[w2.heap.size]? = some (.cells (rowE h0) 85 (0, 0)) by
    rw [← hW]
    exact (setRow_other _ _ _ _ (by omega)).trans (setRow_heap _ _ _ _ _ _ (heap_alloc2_old _ _ _)))
  have HG2 := Lib.hid (show W.heap[w2.heap.size + 1]? = some (.cells (vals32 kL).toArray 87 (0, 0)) by
    rw [← hW]
    exact setRow_heap _ _ _ _ _ _ ((setRow_other _ _ _ _ (by omega)).trans (heap_alloc2_new _ _ _)))
  have HGZ := Lib.hid (show W.heap[w.heap.size]? = some (.cells Z 32 (0, 0)) by
    rw [← hW]
    exact (setRow_other _ _ _ _ (by omega)).trans ((setRow_other _ _ _ _ (by omega)).trans ((Below.heap_alloc _ _ _ (by simp; omega)).trans ((Below.heap_alloc _ _ _ (by omega)).trans HZ.out))))
  have HBW := Lib.hid (show Below w.heap.size w W by
    rw [← hW]
    exact below_setRow (below_setRow ((HB.out.alloc (by omega) _).alloc (by simp; omega) _) (by omega) _) (by omega) _)
  clear hW
  have hlx : (s.extract 0 a).size = a := by simp; omega
  have hlt : ((s.extract a s.size)).size = r := by simp; have := HA.out; omega
  have ham : a = 64 * (a / 64) := by have := HA.out; have := HR.out; omega
  have HGO := Lib.hid (code_goOn (s.extract 0 a) (a / 64) (by rw [hlx]; exact ham) (by rw [hlx]; omega) w2.heap.size (w2.heap.size + 1) h0 h0_low W (by omega) HG1.out HG2.out)
  have HEN := Lib.hid (fun w => code_ending (s.extract a s.size) s.size (by rw [hlt]; omega) (by omega) w)
  have HLT := Lib.hid hlt
  have HLX := Lib.hid hlx
  have HAM := Lib.hid ham
  clear hlx hlt ham
  go_wp2_with fail
  refine HGO.out.mono ?_
  rintro e w3 ⟨rfl, hg3, hbut3⟩
  have HG3 := Lib.hid hg3
  have HBUT3 := Lib.hid hbut3
  clear hg3 hbut3
  go_wp2_with fail
  refine (HEN.out _).mono ?_
  rintro e w4 ⟨rfl, hb4⟩
  have HB4 := Lib.hid hb4
  clear hb4
  have HND := HEND.out
  obtain ⟨T, hT⟩ : ∃ T : ByteArray, (⟨(endL (s.extract a s.size).data.toList s.size).toArray⟩ : ByteArray) = T := ⟨_, rfl⟩
  rw [hT] at HND
  rw [hT]
  clear hT
  have hpw := pad_whole (natsOf s)
  have hpl : a + T.size = (padL (natsOf s)).length := by
    rw [← HND, List.length_append, natsOf_length, List.length_take, natsOf_length]
    omega
  have hpm : (padL (natsOf s)).length ≤ s.size + 136 := by
    simp only [padL, List.length_append, List.length_replicate, natsOf_length, List.length_cons, List.length_nil, show ∀ n, (eightN n).length = 8 from fun _ => rfl]
    omega
  have ham := HAM.out
  obtain ⟨m, hm⟩ : ∃ m, (padL (natsOf s)).length / 64 = a / 64 + m := ⟨(padL (natsOf s)).length / 64 - a / 64, by omega⟩
  have hTm : T.size = 64 * m := by omega
  have hA : natsOf (s.extract 0 a) = (natsOf s).take a := by rw [natsOf_extract]; rfl
  have HV := Lib.hid (show blocks m (blocks (a / 64) h0 (natsOf (s.extract 0 a))) (natsOf T) = blocks ((padL (natsOf s)).length / 64) h0 (padL (natsOf s)) by
    rw [hm, ← HND, blocks_append _ _ _ _ _ (by rw [List.length_take, natsOf_length]; omega), hA])
  have hl1 : w2.heap.size < w3.heap.size := (Array.getElem?_eq_some_iff.1 HG3.out).1
  have hl2 : w2.heap.size + 1 < W.heap.size := (Array.getElem?_eq_some_iff.1 HG2.out).1
  have hl3 : w2.heap.size + 1 < w3.heap.size := Nat.lt_of_lt_of_le hl2 HBUT3.out.size
  have HGO2 := Lib.hid (code_goOn T m hTm (by omega) w2.heap.size (w2.heap.size + 1) _ (blocks_low (a / 64) h0 (natsOf (s.extract 0 a)) h0_low) w4 (by omega) ((HB4.out.block _ hl1).trans HG3.out) ((HB4.out.block _ hl3).trans ((HBUT3.out.block _ hl2 (by omega)).trans HG2.out)))
  clear hpw hpl hpm ham hm hTm hA HND hl1 hl2 hl3
  go_wp2_with fail
  refine HGO2.out.mono ?_
  rintro e w5 ⟨rfl, hg5, hbut5⟩
  rw [HV.out] at hg5
  obtain ⟨V, hV⟩ : ∃ V, blocks ((padL (natsOf s)).length / 64) h0 (padL (natsOf s)) = V := ⟨_, rfl⟩
  have HVL := Lib.hid (show LowE V by rw [← hV]; exact blocks_low _ _ _ h0_low)
  have HVS := Lib.hid (show shaS s = hashB V by rw [← hV]; rfl)
  rw [hV] at hg5
  have HG5 := Lib.hid hg5
  have HBUT5 := Lib.hid hbut5
  clear hg5 hbut5 hV
  go_wp2_with (refine wpList_load_row rfl 85 (.tmp 3) rfl w2.heap.size rfl 85 (rowE V) (0, 0) _ HG5.out Try.underlying85 rfl info_a8 ?_)
  refine (code_hashOf V HVL.out _).mono ?_
  rintro e w6 ⟨rfl, hb6⟩
  have HB6 := Lib.hid hb6
  clear hb6
  have hsz : (valsB (hashB V)).toArray.size = 32 := rfl
  have hone : (valsB (hashB V)).toArray.all (·.oneCell') = true := by simp [valsB, Value.oneCell']
  obtain ⟨C, hC⟩ : ∃ C, (valsB (hashB V)).toArray = C := ⟨_, rfl⟩
  have HCC := Lib.hid hC
  rw [hC] at hsz hone
  rw [hC]
  clear hC
  have HINF := Lib.hid (show (Try.prog.info? 32).map (·.size) = some C.size by rw [hsz]; exact info_hash)
  have HF := Lib.hid (show w6.heap[w.heap.size]? = some (.cells Z 32 (0, 0)) ∧ Below w.heap.size w w6 by
    have z0 : w.heap.size < w2.heap.size := (Array.getElem?_eq_some_iff.1 HZ.out).1
    have zW : w.heap.size < W.heap.size := (Array.getElem?_eq_some_iff.1 HGZ.out).1
    have z3 : w.heap.size < w3.heap.size := Nat.lt_of_lt_of_le zW HBUT3.out.size
    have z4 : w.heap.size < w4.heap.size := Nat.lt_of_lt_of_le z3 HB4.out.size
    have z5 : w.heap.size < w5.heap.size := Nat.lt_of_lt_of_le z4 HBUT5.out.size
    have b3 : Below w.heap.size W w3 := ⟨HBUT3.out.os, HBUT3.out.tape, HBUT3.out.output, HBUT3.out.size, fun k hk => HBUT3.out.block k (by omega) (by omega)⟩
    have b5 : Below w.heap.size w4 w5 := ⟨HBUT5.out.os, HBUT5.out.tape, HBUT5.out.output, HBUT5.out.size, fun k hk => HBUT5.out.block k (by omega) (by omega)⟩
    exact ⟨(HB6.out.block _ z5).trans ((HBUT5.out.block _ z4 (by omega)).trans ((HB4.out.block _ z3).trans ((HBUT3.out.block _ zW (by omega)).trans HGZ.out))),
      (((HBW.out.trans b3).trans (HB4.out.mono (Nat.le_of_lt z3))).trans b5).trans (HB6.out.mono (Nat.le_of_lt z5))⟩)
  have hzs : Z.size = C.size := by rw [HZS.out, hsz]
  go_wp2_with (refine wpList_store_row rfl 32 (.tmp 2) (.tmp 26) rfl w.heap.size C rfl rfl 32 Z HF.out.1 HINF.out hzs hone ?_)
  refine bodyPost_ret (results_cell_row (p := 2) (ty := 32) Try.results49 _ _ w.heap.size 32 C (0, 0) _ rfl (setRow_heap _ _ _ _ _ _ HF.out.1) Try.underlying32 rfl HINF.out) rfl ⟨by rw [← HCC.out, HVS.out], below_setRow HF.out.2 (Nat.le_refl _) _⟩

end Go.Proofs.Ytogpnfgjdnccdaa.Sha

namespace Go.Proofs.Ytogpnfgjdnccdaa.Sha
open Go.RowKit

def hexS : List UInt8 := [48, 49, 50, 51, 52, 53, 54, 55, 56, 57, 97, 98, 99, 100, 101, 102]
/-- A digit's value; of what is no digit -1. -/
def valD (c : UInt8) : Int := Lib.indexByte hexS c
theorem valD_all : ∀ n : Fin 256, -1 ≤ valD (UInt8.ofNat n.val) ∧ valD (UInt8.ofNat n.val) ≤ 15 ∧ (0 ≤ valD (UInt8.ofNat n.val) → hexD (valD (UInt8.ofNat n.val)).toNat = UInt8.ofNat n.val) ∧
    ((0 ≤ valD (UInt8.ofNat n.val)) ↔ ((48 ≤ n.val ∧ n.val ≤ 57) ∨ (97 ≤ n.val ∧ n.val ≤ 102))) := by decide +kernel
theorem valD_of (c : UInt8) : -1 ≤ valD c ∧ valD c ≤ 15 ∧ (0 ≤ valD c → hexD (valD c).toNat = c) ∧ ((0 ≤ valD c) ↔ ((48 ≤ c.toNat ∧ c.toNat ≤ 57) ∨ (97 ≤ c.toNat ∧ c.toNat ≤ 102))) := by
  have h := valD_all ⟨c.toNat, c.toNat_lt⟩
  simpa using h
theorem valD_hexD : ∀ n : Fin 16, valD (hexD n.val) = n.val := by decide +kernel

/-- What digits tell: bytes; a last one that stands alone is a byte of its own. -/
def unhex : List UInt8 → List UInt8
  | a :: b :: r => UInt8.ofNat ((valD a).toNat * 16 + (valD b).toNat) :: unhex r
  | [a] => [UInt8.ofNat (valD a).toNat]
  | [] => []
theorem unhex_even (n : Nat) : ∀ (l : List UInt8) (c : UInt8), l.length = 2 * n → unhex (l ++ [c]) = unhex l ++ [UInt8.ofNat (valD c).toNat] ∧ (unhex l).length = n := by
  induction n with
  | zero =>
    intro l c h
    obtain rfl : l = [] := List.eq_nil_of_length_eq_zero (by omega)
    exact ⟨rfl, rfl⟩
  | succ n ih =>
    intro l c h
    match l, h with
    | a :: b :: r, h =>
      have h' := ih r c (by simp at h; omega)
      simp only [List.cons_append, unhex, h'.1, List.length_cons, h'.2, and_self]
theorem unhex_odd (n : Nat) (l : List UInt8) (a c : UInt8) (h : l.length = 2 * n) : unhex (l ++ [a] ++ [c]) = unhex l ++ [UInt8.ofNat ((valD a).toNat * 16 + (valD c).toNat)] := by
  induction n generalizing l with
  | zero =>
    obtain rfl : l = [] := List.eq_nil_of_length_eq_zero (by omega)
    rfl
  | succ n ih =>
    match l, h with
    | x :: y :: r, h =>
      have h' := ih r (by simp at h; omega)
      simp only [List.append_assoc, List.cons_append, List.nil_append] at h' ⊢
      simp only [unhex, h', List.cons_append]

def isHex (c : UInt8) : Bool := decide (0 ≤ valD c)
/-- What Read tells: a hash and an error. -/
def readF (l : List UInt8) : List UInt8 × Nat := if l.length = 64 ∧ l.all isHex = true then (unhex l, 0) else (List.replicate 32 0, 2)
theorem readF_long (l : List UInt8) (h : l.length ≠ 64) : readF l = (List.replicate 32 0, 2) := by
  unfold readF
  rw [if_neg (fun k => h k.1)]
theorem readF_not (l : List UInt8) (i : Nat) (c : UInt8) (h : l[i]? = some c) (hd : valD c < 0) : readF l = (List.replicate 32 0, 2) := by
  unfold readF
  rw [if_neg]
  rintro ⟨_, k⟩
  have := List.all_eq_true.1 k c (List.mem_of_getElem? h)
  simp [isHex] at this
  omega

theorem or_nibble (x d : Nat) (hx : x < 16) (hd : d < 16) : bits .or .u8 ((x : Int) * 16) (d : Int) = ((x * 16 + d : Nat) : Int) := by
  have h := u8_or_nat (x * 16) d (by omega) (by omega)
  rw [nat_join 4 (x * 16) d (by omega) (by omega)] at h
  rw [← h, Int.natCast_mul]
  rfl

theorem results_cell_tmp {P : Program} {fn : Func} {p t : Tmp} {ty : TypeId} (h : fn.results = #[.cell p ty, .tmp t]) (tmps : Array Value) (w : World) (g : Nat) (e : TypeId) (cs : Array Value) (fr : Nat × Nat) (d : TypeDesc) (v : Value)
    (hp : tmps.getD p undef = .pointer (some ⟨g, 0, none⟩)) (hv : tmps.getD t undef = v) (hg : w.heap[g]? = some (.cells cs e fr))
    (hu : P.underlying ty = some d) (hd : (match d with | .struct _ | .array _ _ => true | _ => false) = true) (hi : (P.info? ty).map (·.size) = some cs.size) :
    (results fn tmps).run P w = .ok (.tuple #[.agg cs, v]) w := by
  have hp' : tmps[p]?.getD undef = .pointer (some ⟨g, 0, none⟩) := by simpa using hp
  have hv' : tmps[t]?.getD undef = v := by simpa using hv
  simp [results, h, hp', hv', asAddr, run_loadVar_row w g e ty cs fr d hg hu hd hi]

def zeroB : Array Value := (valsB (List.replicate 32 0)).toArray
theorem zeroB_one : zeroB.all (·.oneCell') = true := by simp only [zeroB, valsB, List.all_toArray, List.all_map]; decide
theorem zeroB_info : (Try.prog.info? 32).map (·.size) = some zeroB.size := info_hash

theorem valD_hex (c : UInt8) : ∃ d : Int, valD c = d ∧ -1 ≤ d ∧ d ≤ 15 := ⟨_, rfl, (valD_of c).1, (valD_of c).2.1⟩

theorem row8_reset (xs : List UInt8) (n : Nat) (x : UInt8) (z : UInt8) : (row8 (xs ++ [x]) n).setIfInBounds xs.length (.int .u8 (z.toNat : Int)) = row8 (xs ++ [z]) n := by
  apply Array.toList_inj.1
  rw [Array.toList_setIfInBounds]
  simp only [row8, valsB, List.length_append, List.length_cons, List.length_nil, List.map_append, List.append_assoc, List.map_cons, List.map_nil, List.cons_append, List.nil_append]
  rw [List.set_append_right _ _ (by simp)]
  simp

theorem cell_of_digit (l : List UInt8) (c : UInt8) (k : Nat) (hl : l.length = k) (hk : k < 64) (hhex : l.all isHex = true) (hc : 0 ≤ valD c) :
    ∃ x : Nat, (row8 (unhex l) 32)[k / 2]? = some (.int .u8 x) ∧ x < 16 ∧ (row8 (unhex l) 32).setIfInBounds (k / 2) (.int .u8 ((x : Int) * 16 + ((valD c).toNat : Int))) = row8 (unhex (l ++ [c])) 32 := by
  have hb := (valD_of c).2.1
  obtain ⟨m, hm⟩ : ∃ m, k / 2 = m := ⟨_, rfl⟩
  rw [hm]
  have hr : k % 2 = 0 ∨ k % 2 = 1 := by omega
  rcases hr with hr | hr
  · have he := unhex_even m l c (by omega)
    refine ⟨0, ?_, by omega, ?_⟩
    · simp only [row8, List.getElem?_toArray]
      rw [List.getElem?_append_right (by simp [valsB, he.2])]
      simp only [valsB, List.length_map, he.2, Nat.sub_self, List.getElem?_replicate]
      rw [if_pos (by omega)]
      rfl
    · rw [he.1, ← row8_set (unhex l) 32 m _ he.2 (by omega)]
      congr 2
      rw [UInt8.toNat_ofNat', Nat.mod_eq_of_lt (by omega)]
      omega
  · obtain ⟨l', a, rfl⟩ : ∃ l' a, l = l' ++ [a] := by
      refine ⟨l.dropLast, l.getLast (by intro h; rw [h] at hl; simp at hl; omega), ?_⟩
      exact (List.dropLast_concat_getLast _).symm
    have hl' : l'.length = 2 * m := by simp at hl; omega
    have he := unhex_even m l' a hl'
    have ho := unhex_odd m l' a c hl'
    have ha : 0 ≤ valD a := by
      have := List.all_eq_true.1 hhex a (by simp)
      simpa [isHex] using this
    have hab := (valD_of a).2.1
    refine ⟨(valD a).toNat, ?_, by omega, ?_⟩
    · rw [he.1]
      simp only [row8, List.getElem?_toArray]
      rw [List.getElem?_append_left (by simp [valsB, he.2])]
      simp only [valsB, List.map_append, List.map_cons, List.map_nil]
      rw [List.getElem?_append_right (by simp [he.2])]
      simp only [List.length_map, he.2, Nat.sub_self, List.getElem?_cons_zero, UInt8.toNat_ofNat']
      rw [Nat.mod_eq_of_lt (by omega)]
    · have e : (((valD a).toNat : Nat) : Int) * 16 + ((valD c).toNat : Int) = ((UInt8.ofNat ((valD a).toNat * 16 + (valD c).toNat)).toNat : Int) := by
        rw [UInt8.toNat_ofNat', Nat.mod_eq_of_lt (by omega)]
        omega
      have hset := row8_reset (unhex l') 32 (UInt8.ofNat (valD a).toNat) (UInt8.ofNat ((valD a).toNat * 16 + (valD c).toNat))
      rw [he.2] at hset
      rw [he.1, ho, e, hset]

end Go.Proofs.Ytogpnfgjdnccdaa.Sha

namespace Go.Proofs.Ytogpnfgjdnccdaa.Sha
open Go.RowKit

theorem valsB_cell (h : List UInt8) : valsB h = h.map Extern.Stop.cell := rfl

theorem eqIn_hash (a b : List UInt8) (ha : a.length = 32) (hb : b.length = 32) (w : World) :
    (Op.equalIn 10000 32 (.agg (valsB a).toArray) (.agg (valsB b).toArray)).run Try.prog w = .ok (a == b) w := by
  rw [valsB_cell, valsB_cell]
  exact run_equalIn_bytes w 9998 32 5 32 Try.underlying32 Try.underlying5 Try.sizeOf5 a b ha hb

theorem loadFrom_row (w : World) (g n : Nat) (t : TypeId) (cs : Array Value) (fr : Nat × Nat) (hg : w.heap[g]? = some (.cells cs t fr)) (hn : cs.size = n) :
    (loadCellsFrom ⟨g, 0, none⟩ 0 n #[]).run Try.prog w = .ok cs w := by
  subst hn
  have := run_loadCells_list (P := Try.prog) w ⟨g, 0, none⟩ cs.toList (fun j v hv => by
    have hadd : (⟨g, 0, none⟩ : Addr).add j = ⟨g, j, none⟩ := by unfold Addr.add; split <;> simp_all
    rw [hadd, cell_of_row w g j cs t fr hg]
    simpa using hv)
  simpa [loadCells] using this

theorem heap_regrown {W : World} {g : Nat} {o : Obj} (h : W.heap[g]? = some o) (d : Nat) (os : Array Obj) : (Sort.grow (redrawn W d) os).heap[g]? = some o := by
  rw [(below_regrown W d os).block g (Array.getElem?_eq_some_iff.1 h).1]
  exact h

/-- A whole array's load, in a region that draws and whose callees make memory. -/
theorem quiet_load_row {P : Program} {o : Oper} {a : Act} {W : World} {K : Act → Prop} (ty : TypeId) (x : Operand) (ho : o.op = .load ty x) (g : Nat) (hx : a.eval x = .pointer (some ⟨g, 0, none⟩)) (t : TypeId) (cs : Array Value) (fr : Nat × Nat) (d : TypeDesc)
    (hW : W.heap[g]? = some (.cells cs t fr)) (hu : P.underlying ty = some d) (hd : (match d with | .struct _ | .array _ _ => true | _ => false) = true) (hi : (P.info? ty).map (·.size) = some cs.size)
    (h : K (a.put o.dst (.agg cs))) : o.quiet P a (fun w' => ∃ p : Regrown, w' = Sort.grow (redrawn W p.d) p.os) K := by
  refine ⟨.agg cs, ?_, h⟩
  rintro w' ⟨p, rfl⟩
  unfold Oper.quietAt execOp
  simp only [ho, hx, Instr.loadAt, Instr.sureAddr, Sem.run_bind, Sem.run_pure, Result.andThen_ok, run_loadVar_row _ g t ty cs fr d (heap_regrown hW p.d p.os) hu hd hi]
  exact ⟨rfl, rfl⟩

/-- A whole array's load under a guard that holds, in a region that draws nothing. -/
theorem wpList_load_row_g {P : Program} {ops : Array Oper} {rest : List Oper} {o : Oper} {a : Act} {w : World} {Q : Exit → Act → World → Prop} (hw : Region.wanted o (yielded ops a.tmps) = true) (ty : TypeId) (x : Operand) (ho : o.op = .load ty x)
    (g : Nat) (hx : a.eval x = .pointer (some ⟨g, 0, none⟩)) (t : TypeId) (cs : Array Value) (fr : Nat × Nat) (d : TypeDesc) (hg : w.heap[g]? = some (.cells cs t fr))
    (hu : P.underlying ty = some d) (hd : (match d with | .struct _ | .array _ _ => true | _ => false) = true) (hi : (P.info? ty).map (·.size) = some cs.size)
    (h : wpList P ops Q rest (a.put o.dst (.agg cs)) w) : wpList P ops Q (o :: rest) a w :=
  wpList_step fun K hK => by
    rw [if_pos hw]
    exact wp_load_row ty x ho g hx t cs fr d hg hu hd hi (hK _ _ h)
/-- .. and an array that is built of constants. -/
theorem wpList_build_g {P : Program} {ops : Array Oper} {rest : List Oper} {o : Oper} {a : Act} {w : World} {Q : Exit → Act → World → Prop} (hw : Region.wanted o (yielded ops a.tmps) = true) (t : TypeId) (parts : Array (Nat × Operand)) (ho : o.op = .build t parts) (C : Array Value)
    (hf : P.built t (parts.map fun (i, x) => (i, a.eval x)).toList = some C) (h : wpList P ops Q rest (a.put o.dst (.agg C)) w) : wpList P ops Q (o :: rest) a w :=
  wpList_step fun K hK => by
    rw [if_pos hw]
    refine wp_build t parts ho (by rw [hf]; rfl) ?_
    rw [hf]
    exact hK _ _ h

theorem unhex_hex (h : List UInt8) : unhex (hexL h) = h := by
  induction h with
  | nil => rfl
  | cons b h ih =>
    rw [hexL, unhex, ih]
    have h1 := valD_hexD ⟨b.toNat / 16, by have := b.toNat_lt; omega⟩
    have h2 := valD_hexD ⟨b.toNat % 16, by omega⟩
    simp only at h1 h2
    rw [h1, h2]
    congr 1
    apply UInt8.toNat_inj.1
    rw [UInt8.toNat_ofNat']
    have := b.toNat_lt
    omega
theorem hex_all (h : List UInt8) : (hexL h).all isHex = true := by
  induction h with
  | nil => rfl
  | cons b h ih =>
    have h1 := valD_hexD ⟨b.toNat / 16, by have := b.toNat_lt; omega⟩
    have h2 := valD_hexD ⟨b.toNat % 16, by omega⟩
    simp only at h1 h2
    simp [hexL, isHex, h1, h2, ih]
    omega
theorem read_hex (h : List UInt8) (hl : h.length = 32) : readF (hexL h) = (h, 0) := by
  unfold readF
  rw [if_pos ⟨by rw [hexL_length, hl], hex_all h⟩, unhex_hex]
theorem hexL_inj {a b : List UInt8} (h : hexL a = hexL b) : a = b := by rw [← unhex_hex a, h, unhex_hex]

end Go.Proofs.Ytogpnfgjdnccdaa.Sha

namespace Go.Proofs.Ytogpnfgjdnccdaa.Bld
open Go.RowKit

theorem infoB : (Try.prog.info? 72).map (·.size) = some 2 := by kernel_rfl
theorem liesB : liesAt Try.prog Try.prog.depth 72 (2 / Try.prog.cellsOf 72) 0 72 1 = true := by kernel_rfl
theorem info8 : (Try.prog.info? 5).map (fun i => (i.zero, i.size, i.bytes)) = some (some (.int .u8 0), 1, 1) := by kernel_rfl

set_option maxRecDepth 100000 in
set_option maxHeartbeats 1000000 in
theorem check_used (b : Nat) (w : World) (h0 : w.cell? ⟨b, 0, none⟩ = some (.pointer (some ⟨b, 0, none⟩))) :
    Calls Try.prog 56 #[.pointer (some ⟨b, 0, none⟩)] w fun e w' => e = .returned (.tuple #[]) ∧ w' = w := by
  obtain ⟨j, hj, _⟩ := Option.map_eq_some_iff.1 infoB
  go_enter Try.func56, Try.ntmps56
  go_wp2
  rw [Lib.run_neq_ptr_same w _ Try.underlying69 hj]
  go_wp2
  go_returns
  exact ⟨rfl, rfl⟩

set_option maxRecDepth 100000 in
set_option maxHeartbeats 1000000 in
theorem check_fresh (b : Nat) (w : World) (h0 : w.cell? ⟨b, 0, none⟩ = some (.pointer none)) (hsh : w.shape? b = some (72, 2)) (hfz : w.frozen? ⟨b, 0, none⟩ = false) :
    Calls Try.prog 56 #[.pointer (some ⟨b, 0, none⟩)] w fun e w' => e = .returned (.tuple #[]) ∧ w' = w.setCell ⟨b, 0, none⟩ (.pointer (some ⟨b, 0, none⟩)) := by
  obtain ⟨j, hj, hjs⟩ := Option.map_eq_some_iff.1 infoB
  go_enter Try.func56, Try.ntmps56
  go_wp2
  rw [Lib.run_to_unsafe w ⟨b, 0, none⟩ Try.underlying69 Try.underlying96 hj (by rw [hjs]; decide) hsh (Nat.zero_lt_succ 1)]
  simp only [Result.andThen]
  rw [Oper.upon_value]
  go_wp2
  rw [run_callFunc_extern Try.func64 (by kernel_rfl) (by kernel_rfl) (by kernel_rfl) (e := Extern.AbiNoEscape.same) (by kernel_rfl)]
  rw [Lib.run_noEscape]
  simp only [Result.andThen]
  rw [Oper.upon_value]
  go_wp2
  rw [Lib.run_from_unsafe w ⟨b, 0, none⟩ Try.underlying96 Try.underlying69 hj hsh liesB]
  simp only [Result.andThen]
  rw [Oper.upon_value]
  go_wp2
  go_returns
  exact ⟨rfl, rfl⟩

theorem check_any (B b : Nat) (bs : List Value) (w : World) (h : Lib.IsBuilder 72 5 B b bs w) :
    Calls Try.prog 56 #[.pointer (some ⟨b, 0, none⟩)] w fun e w' => e = .returned (.tuple #[]) ∧ (Lib.BuilderAt 72 5 B b (.pointer (some ⟨b, 0, none⟩)) bs w' ∧ Below B w w') := by
  rcases h with h | h
  · refine (check_fresh b w h.cell0 h.shape h.frozen0).mono ?_
    rintro e w' ⟨rfl, rfl⟩
    exact ⟨rfl, h.used _, (Below.refl B w).setCell (p := ⟨b, 0, none⟩) h.1 _⟩
  · refine (check_used b w h.cell0).mono ?_
    rintro e w' ⟨rfl, rfl⟩
    exact ⟨rfl, h, Below.refl B _⟩

set_option maxRecDepth 100000 in
set_option maxHeartbeats 2000000 in
theorem write_any (B b : Nat) (bs : List Value) (s : ByteArray) (w : World) (h : Lib.IsBuilder 72 5 B b bs w) (hlen : bs.length + s.size ≤ 140737488355328) (hBw : B ≤ w.heap.size) :
    Calls Try.prog 47 #[.pointer (some ⟨b, 0, none⟩), .string s] w fun e w' => e = .returned (.tuple #[.int .i64 s.size, .nilIface]) ∧ (Lib.BuilderAt 72 5 B b (.pointer (some ⟨b, 0, none⟩)) (bs ++ Lib.strCells s) w' ∧ Below B w w') := by
  obtain ⟨i0, hi, hz0, hz1, hz2⟩ := info_parts info8
  go_enter Try.func47, Try.ntmps47
  go_wp2_with (go_at_call 56; refine (check_any B b bs _ h).mono ?_)
  rintro e w1 ⟨rfl, h1, hb1⟩
  obtain ⟨hB, v, hbk, hown, hne⟩ := h1
  have c0 : w1.cell? ⟨b, 0, none⟩ = some (.pointer (some ⟨b, 0, none⟩)) := by rw [Lib.cell_of_heap hbk]; rfl
  have c1 : w1.cell? ⟨b, 1, none⟩ = some v := by rw [Lib.cell_of_heap hbk]; rfl
  go_wp2_with (at_builtin; refine Lib.wpList_append_own_string _ rfl _ _ 70 9 rfl B 5 i0 Try.underlying70 Try.underlying9 hi hz0 hz1 hz2 _ _ _ rfl hown s rfl ?c3 ?c4 ?c5 ?_)
  case c3 => unfold maxLen; omega
  case c4 => omega
  case c5 => have := hb1.size; omega
  intro v' w2 hown' hgrow _
  have hlt : b < w1.heap.size := by
    rcases Nat.lt_or_ge b w1.heap.size with h' | h'
    · exact h'
    · simp [Array.getElem?_eq_none h'] at hbk
  have hb2 : w2.heap[b]? = some (.cells #[.pointer (some ⟨b, 0, none⟩), v] 72 (0, 0)) := by
    rw [hgrow.block b hlt (fun e => hne e.symm)]
    exact hbk
  have d0 : w2.cell? ⟨b, 0, none⟩ = some (.pointer (some ⟨b, 0, none⟩)) := by rw [Lib.cell_of_heap hb2]; rfl
  have d1 : w2.cell? ⟨b, 1, none⟩ = some v := by rw [Lib.cell_of_heap hb2]; rfl
  have f1 : w2.frozen? ⟨b, 1, none⟩ = false := Lib.frozen_of_heap hb2 1
  obtain ⟨ao, n', cap, rfl⟩ : ∃ ao n' cap, v' = .slice ao n' cap := by
    rcases hown'.2 with ⟨hv, _⟩ | ⟨g, cap, cur, hv, _⟩
    · exact ⟨_, _, _, hv⟩
    · exact ⟨_, _, _, hv⟩
  go_wp2
  go_ret2
  refine ⟨rfl, ?_, ?_⟩
  · exact Lib.BuilderAt.put (T := 72) (e := 5) hB hb2 (bs' := bs ++ Lib.strCells s) (by simpa [Lib.strCells_length] using hown') (by decide)
  · exact (hb1.grown hgrow (by have := hb1.size; omega) (fun k hk => (hown.lt k hk).1)).setCell (p := ⟨b, 1, none⟩) hB _

end Go.Proofs.Ytogpnfgjdnccdaa.Bld

namespace Go.Proofs.Ytogpnfgjdnccdaa.Sha
open Go.RowKit

/-- A slice that holds these texts. -/
def Texts (w : World) (v : Value) (P : List ByteArray) : Prop :=
  (∃ a cap, v = .slice a 0 cap ∧ P = []) ∨ ∃ g o cap, v = .slice (some ⟨g, o, none⟩) P.length cap ∧ 0 < P.length ∧ ∀ (i : Nat) (s : ByteArray), P[i]? = some s → w.cell? ⟨g, o + i, none⟩ = some (.string s)
theorem Texts.kept {w w' : World} {v : Value} {P : List ByteArray} (h : Texts w v P) (hb : Below w.heap.size w w') : Texts w' v P := by
  rcases h with h | ⟨g, o, cap, hv, h0, hc⟩
  · exact Or.inl h
  · refine Or.inr ⟨g, o, cap, hv, h0, fun i s hs => ?_⟩
    rw [hb.cell (World.block_lt_of_cell? _ _ (hc i s hs))]
    exact hc i s hs

/-- The told texts of the tag and the parts. -/
def rowL (tag : ByteArray) (P : List ByteArray) : List UInt8 := Digit.putTextL tag.data.toList ++ P.flatMap fun s => Digit.putTextL s.data.toList
theorem rowL_snoc (tag : ByteArray) (P : List ByteArray) (s : ByteArray) : rowL tag (P ++ [s]) = rowL tag P ++ Digit.putTextL s.data.toList := by
  simp [rowL]
theorem rowL_le (tag : ByteArray) (P : List ByteArray) (k : Nat) : (rowL tag (P.take k)).length ≤ (rowL tag P).length := by
  have e : rowL tag P = rowL tag (P.take k) ++ (P.drop k).flatMap fun s => Digit.putTextL s.data.toList := by
    unfold rowL
    rw [List.append_assoc, ← List.flatMap_append, List.take_append_drop]
  rw [e, List.length_append]
  omega

theorem builder_kept {T e : TypeId} {B b : Nat} {bs : List Value} {w w' : World} (h : Lib.IsBuilder T e B b bs w) (hb : Below w.heap.size w w') : Lib.IsBuilder T e B b bs w' := by
  have one : ∀ p, Lib.BuilderAt T e B b p bs w → Lib.BuilderAt T e B b p bs w' := by
    intro p hp
    have hlt := hp.lt
    obtain ⟨hB, v, hbk, hown, hne⟩ := hp
    refine ⟨hB, v, (hb.block b hlt).trans hbk, ?_, hne⟩
    exact hown.kept (row := none) ⟨hb.os, hb.tape, hb.output, hb.size, fun k hk _ => hb.block k hk⟩ (by cases hv : v.ownBlock <;> simp)
  rcases h with h | h
  · exact Or.inl (one _ h)
  · exact Or.inr (one _ h)

theorem strCells_mk (l : List UInt8) : Lib.strCells ⟨l.toArray⟩ = Lib.byteCells l := by rw [Lib.strCells_eq]
theorem size_mk (l : List UInt8) : (ByteArray.mk l.toArray).size = l.length := by simp [ByteArray.size]

set_option maxRecDepth 100000 in
set_option maxHeartbeats 1600000 in
theorem code_of (tag : ByteArray) (v : Value) (P : List ByteArray) (w : World) (hT : Texts w v P) (ht : tag.size ≤ 70368744177664) (hm : ∀ s ∈ P, s.size ≤ 70368744177664) (hsum : (rowL tag P).length ≤ 140737488355232) (hlen : P.length ≤ 140737488355328) :
    Calls Try.prog 33 #[.string tag, v] w fun e w' => e = .returned (.agg (valsB (shaS ⟨(rowL tag P).toArray⟩)).toArray) ∧ Below w.heap.size w w' := by
  obtain ⟨a, n, cap, hv, hn, hcells⟩ : ∃ a n cap, v = .slice a n cap ∧ P.length = n ∧ ∀ (i : Nat) (s : ByteArray), P[i]? = some s → ∃ g o, a = some ⟨g, o, none⟩ ∧ w.cell? ⟨g, o + i, none⟩ = some (.string s) := by
    rcases hT with ⟨a, cap, rfl, rfl⟩ | ⟨g, o, cap, rfl, _, hc⟩
    · exact ⟨a, 0, cap, rfl, rfl, fun i s h => by simp at h⟩
    · exact ⟨_, _, cap, rfl, rfl, fun i s h => ⟨g, o, rfl, hc i s h⟩⟩
  subst hv
  have HSUM := Lib.hid hsum
  have HM := Lib.hid hm
  have HC := Lib.hid hcells
  have HN := Lib.hid hn
  have hn0 : n ≤ 140737488355328 := by omega
  clear hsum hm hT hcells hn hlen
  go_enter Try.func33, Try.ntmps33
  go_wp2_with fail
  obtain ⟨Z, hZ⟩ : ∃ Z, (List.replicate 32 (Value.int .u8 0)).toArray = Z := ⟨_, rfl⟩
  have HZS := Lib.hid (show Z.size = 32 by rw [← hZ]; rfl)
  rw [show #[Value.int .u8 0, .int .u8 0, .int .u8 0, .int .u8 0, .int .u8 0, .int .u8 0, .int .u8 0, .int .u8 0, .int .u8 0, .int .u8 0, .int .u8 0, .int .u8 0, .int .u8 0, .int .u8 0, .int .u8 0, .int .u8 0,
    .int .u8 0, .int .u8 0, .int .u8 0, .int .u8 0, .int .u8 0, .int .u8 0, .int .u8 0, .int .u8 0, .int .u8 0, .int .u8 0, .int .u8 0, .int .u8 0, .int .u8 0, .int .u8 0, .int .u8 0, .int .u8 0] = (List.replicate 32 (Value.int .u8 0)).toArray from rfl, hZ]
  clear hZ
  refine (Digit.putText_any tag _ ht).mono ?_
  rintro e w1 ⟨rfl, hb1⟩
  have hB0 : w.heap.size + 1 = (w.alloc (.cells Z 32)).heap.size := by simp
  have hfr := Lib.fresh_isBuilder 72 5 (w.alloc (.cells Z 32))
  rw [← hB0] at hfr
  have hbl1 := builder_kept hfr hb1
  have hbz1 : Below (w.heap.size + 1) (w.alloc (.cells Z 32)) w1 := (((Below.refl _ _).alloc (by simp) _).trans (hb1.mono (by simp)))
  have hs1 : w.heap.size + 1 ≤ w1.heap.size := by
    have := hbz1.size
    simp at this
    omega
  have hrow0 : (Digit.putTextL tag.data.toList).length ≤ (rowL tag P).length := by
    unfold rowL
    rw [List.length_append]
    omega
  have HWR := Lib.hid (Bld.write_any (w.heap.size + 1) (w.heap.size + 1) [] ⟨(Digit.putTextL tag.data.toList).toArray⟩ w1 hbl1 (by
    have := HSUM.out
    rw [size_mk, List.length_nil]
    omega) hs1)
  have HBZ1 := Lib.hid hbz1
  clear hfr hbl1 hbz1 hb1 hrow0 hB0
  go_wp2_with fail
  refine HWR.out.mono ?_
  rintro e w2 ⟨rfl, hat, hb2⟩
  have HAT := Lib.hid hat
  have HB2 := Lib.hid hb2
  clear hat hb2
  go_wp2_with fail
  go_loopw [13] (fun i wr => ∃ k : Nat, k ≤ n ∧ i = .int .i64 k ∧ Lib.IsBuilder 72 5 (w.heap.size + 1) (w.heap.size + 1) (Lib.byteCells (rowL tag (P.take k))) wr ∧ Below (w.heap.size + 1) (w.alloc (.cells Z 32)) wr) (fun i _ => n - (intOf i).toNat)
  case atStart => exact ⟨0, by omega, rfl, Or.inr (by
    have h := HAT.out
    rw [List.nil_append, strCells_mk] at h
    have e : rowL tag (P.take 0) = Digit.putTextL tag.data.toList := by simp [rowL]
    rw [e]
    exact h), HBZ1.out.trans HB2.out⟩
  case round =>
    obtain ⟨k, hk, rfl, hbld, hbel⟩ := hrel
    have HBLD := Lib.hid hbld
    have HBEL := Lib.hid hbel
    clear hbld hbel
    by_cases hlt : k < n
    · obtain ⟨s, hs⟩ : ∃ s, P[k]? = some s := ⟨P[k]'(by rw [HN.out]; exact hlt), List.getElem?_eq_getElem _⟩
      obtain ⟨g, o, rfl, hcell⟩ := HC.out k s hs
      have hsz := HM.out s (List.mem_of_getElem? hs)
      have hcs : wr.cell? ⟨g, o + k, none⟩ = some (.string s) := by
        have hg := World.block_lt_of_cell? _ _ hcell
        simp only at hg
        rw [HBEL.out.cell (show g < w.heap.size + 1 by omega)]
        have hc2 := ((Below.refl w.heap.size w).alloc (Nat.le_refl _) (.cells Z 32)).cell (p := ⟨g, o + k, none⟩) hg
        rw [hc2]
        exact hcell
      have HTK := Lib.hid (show rowL tag (P.take (k + 1)) = rowL tag (P.take k) ++ Digit.putTextL s.data.toList by
        rw [List.take_add_one, hs]
        exact rowL_snoc tag _ s)
      have hrl := rowL_le tag P (k + 1)
      have HPT := Lib.hid (fun w => Digit.putText_any s w hsz)
      have HRL := Lib.hid hrl
      have hk0 : (0 : Int) ≤ (k : Int) := by omega
      have hkn : (k : Int) < (n : Int) := by omega
      clear hs hcell hsz hrl
      go_wp2_with fail
      refine (HPT.out _).mono ?_
      rintro e w3 ⟨rfl, hb3⟩
      have hsw : w.heap.size + 1 ≤ wr.heap.size := by
        have := HBEL.out.size
        simp at this
        omega
      have HWR3 := Lib.hid (Bld.write_any (w.heap.size + 1) (w.heap.size + 1) (Lib.byteCells (rowL tag (P.take k))) ⟨(Digit.putTextL s.data.toList).toArray⟩ w3 (builder_kept HBLD.out hb3) (by
        have h1 := HSUM.out
        have h2 := HRL.out
        rw [HTK.out, List.length_append] at h2
        rw [size_mk, Lib.byteCells_length]
        omega) (Nat.le_trans hsw hb3.size))
      have HB3 := Lib.hid (hb3.mono hsw)
      clear hb3
      go_wp2_with fail
      refine HWR3.out.mono ?_
      rintro e w4 ⟨rfl, hat4, hb4⟩
      have HAT4 := Lib.hid hat4
      have HB4 := Lib.hid hb4
      clear hat4 hb4
      go_wp2_with fail
      go_roundw
      case rel => exact ⟨k + 1, by omega, by go_num, Or.inr (by
        have h := HAT4.out
        rw [strCells_mk, ← Lib.byteCells_append, ← HTK.out] at h
        exact h), (HBEL.out.trans HB3.out).trans HB4.out⟩
      case measure => simp [intOf]; omega
    · have hkn : k = n := by omega
      subst hkn
      have HB := HBLD.out
      rw [List.take_of_length_le (Nat.le_of_eq HN.out)] at HB
      have hsw : w.heap.size + 1 ≤ wr.heap.size := by
        have := HBEL.out.size
        simp at this
        omega
      have HST := Lib.hid (Try.Builder_String_any (w.heap.size + 1) (w.heap.size + 1) (rowL tag P) wr HB hsw)
      have HSM := Lib.hid (fun w => code_sum ⟨(rowL tag P).toArray⟩ (by rw [size_mk]; exact HSUM.out) w)
      obtain ⟨T, hT⟩ : ∃ T : ByteArray, (⟨(rowL tag P).toArray⟩ : ByteArray) = T := ⟨_, rfl⟩
      rw [hT] at HST HSM
      have HTT := Lib.hid hT
      clear HB hT
      go_wp2_with fail
      refine HST.out.mono ?_
      rintro e w3 ⟨rfl, hb3⟩
      have HB3 := Lib.hid hb3
      clear hb3
      go_wp2_with fail
      refine (HSM.out _).mono ?_
      rintro e w4 ⟨rfl, hb4⟩
      have HB4 := Lib.hid hb4
      clear hb4
      have hz : w4.heap[w.heap.size]? = some (.cells Z 32 (0, 0)) := by
        rw [HB4.out.block _ (Nat.lt_of_lt_of_le (Nat.lt_of_lt_of_le (Nat.lt_succ_self _) hsw) HB3.out.size), HB3.out.block _ (Nat.lt_succ_self _), HBEL.out.block _ (Nat.lt_succ_self _)]
        exact heap_alloc_new w _
      have hbw : Below w.heap.size w w4 := ((((Below.refl _ _).alloc (Nat.le_refl _) _).trans (HBEL.out.mono (Nat.le_succ _))).trans (HB3.out.mono (Nat.le_succ _))).trans (HB4.out.mono (Nat.le_trans (Nat.le_succ _) (Nat.le_trans hsw HB3.out.size)))
      have hsz : (valsB (shaS T)).toArray.size = 32 := by rw [valsB_size]; rfl
      have hone : (valsB (shaS T)).toArray.all (·.oneCell') = true := by simp [valsB, Value.oneCell']
      obtain ⟨C, hC⟩ : ∃ C, (valsB (shaS T)).toArray = C := ⟨_, rfl⟩
      rw [hC] at hsz hone
      rw [hC]
      have HCC := Lib.hid hC
      have HINF := Lib.hid (show (Try.prog.info? 32).map (·.size) = some C.size by rw [hsz]; exact info_hash)
      have hzs : Z.size = C.size := by rw [HZS.out, hsz]
      have HZ := Lib.hid hz
      have HBW := Lib.hid hbw
      clear hC hz hbw
      go_wp2_with (refine wpList_store_row rfl 32 (.tmp 4) (.tmp 22) rfl w.heap.size C rfl rfl 32 Z HZ.out HINF.out hzs hone ?_)
      refine bodyPost_ret (results_cell_row (p := 4) (ty := 32) Try.results33 _ _ w.heap.size 32 C (0, 0) _ rfl (setRow_heap _ _ _ _ _ _ HZ.out) Try.underlying32 rfl HINF.out) rfl ⟨by rw [HTT.out, HCC.out], below_setRow HBW.out (Nat.le_refl _) _⟩

end Go.Proofs.Ytogpnfgjdnccdaa.Sha

namespace Go.Proofs.Ytogpnfgjdnccdaa.Sha
open Go.RowKit

def abcS : List UInt8 := [186, 120, 22, 191, 143, 1, 207, 234, 65, 65, 64, 222, 93, 174, 34, 35, 176, 3, 97, 163, 150, 23, 122, 156, 180, 16, 255, 97, 242, 0, 21, 173]
def noneS : List UInt8 := [227, 176, 196, 66, 152, 252, 28, 20, 154, 251, 244, 200, 153, 111, 185, 36, 39, 174, 65, 228, 100, 155, 147, 76, 164, 149, 153, 27, 120, 82, 184, 85]
theorem shaS_abc : shaS ⟨#[97, 98, 99]⟩ = abcS := by
  have h : natsOf ⟨#[97, 98, 99]⟩ = [97, 98, 99] := rfl
  unfold shaS
  rw [h, sha_abc]
  rfl
theorem shaS_none : shaS ⟨#[]⟩ = noneS := by
  have h : natsOf ⟨#[]⟩ = [] := rfl
  unfold shaS
  rw [h, sha_none]
  rfl
theorem hex_abc : ByteArray.mk (hexL abcS).toArray = ⟨#[98, 97, 55, 56, 49, 54, 98, 102, 56, 102, 48, 49, 99, 102, 101, 97, 52, 49, 52, 49, 52, 48, 100, 101, 53, 100, 97, 101, 50, 50, 50, 51, 98, 48, 48, 51, 54, 49, 97, 51, 57, 54, 49, 55, 55, 97, 57, 99, 98, 52, 49, 48, 102, 102, 54, 49, 102, 50, 48, 48, 49, 53, 97, 100]⟩ := by rfl
theorem hex_none : ByteArray.mk (hexL noneS).toArray = ⟨#[101, 51, 98, 48, 99, 52, 52, 50, 57, 56, 102, 99, 49, 99, 49, 52, 57, 97, 102, 98, 102, 52, 99, 56, 57, 57, 54, 102, 98, 57, 50, 52, 50, 55, 97, 101, 52, 49, 101, 52, 54, 52, 57, 98, 57, 51, 52, 99, 97, 52, 57, 53, 57, 57, 49, 98, 55, 56, 53, 50, 98, 56, 53, 53]⟩ := by rfl

theorem sum_abc (w : World) : Calls Try.prog 49 #[.string ⟨#[97, 98, 99]⟩] w fun e w' => e = .returned (.agg (valsB abcS).toArray) ∧ Below w.heap.size w w' := by
  have h := code_sum ⟨#[97, 98, 99]⟩ (by decide) w
  rw [shaS_abc] at h
  exact h
theorem sum_none (w : World) : Calls Try.prog 49 #[.string ⟨#[]⟩] w fun e w' => e = .returned (.agg (valsB noneS).toArray) ∧ Below w.heap.size w w' := by
  have h := code_sum ⟨#[]⟩ (by decide) w
  rw [shaS_none] at h
  exact h
def nought63 : ByteArray := ⟨(Lib.repeatL [48] 63).toArray⟩
theorem rep63 (w : World) : Calls Try.prog 68 #[.string ⟨#[48]⟩, .int .i64 63] w fun e w' => e = .returned (.string nought63) ∧ Below w.heap.size w w' :=
  Try.strings_Repeat ⟨#[48]⟩ 63 w (by decide) (by decide)
theorem size63 : nought63.size = 63 := by decide
theorem row_t : rowL ⟨#[116]⟩ [⟨#[97, 98]⟩] = [1, 116, 2, 97, 98] := by decide
theorem of_t (w : World) : Calls Try.prog 33 #[.string ⟨#[116]⟩, .slice (some ⟨w.heap.size, 0, none⟩) 1 1] (w.alloc (.cells #[.string ⟨#[97, 98]⟩] 9))
    fun e w' => e = .returned (.agg (valsB (shaS ⟨#[1, 116, 2, 97, 98]⟩)).toArray) ∧ Below w.heap.size w w' := by
  have h := code_of ⟨#[116]⟩ (.slice (some ⟨w.heap.size, 0, none⟩) 1 1) [⟨#[97, 98]⟩] (w.alloc (.cells #[.string ⟨#[97, 98]⟩] 9))
    (Or.inr ⟨w.heap.size, 0, 1, rfl, by decide, fun i s hs => by
      match i, hs with
      | 0, hs =>
        simp at hs
        subst hs
        rw [World.cell?_alloc_mark]
        rfl⟩) (by decide) (fun s hs => by simp at hs; subst hs; decide) (by rw [row_t]; decide) (by decide)
  rw [row_t] at h
  refine h.mono ?_
  rintro e w' ⟨he, hb⟩
  exact ⟨he, ((Below.refl _ _).alloc (Nat.le_refl _) _).trans (hb.mono (by simp))⟩

end Go.Proofs.Ytogpnfgjdnccdaa.Sha

namespace Go.Proofs.Ytogpnfgjdnccdaa.Sha
open Go.RowKit

/-- The blocks of the state apart from one another. -/
structure Apart (gb gv gk gw : Nat) : Prop where
  vw : gv ≠ gw
  bv : gb ≠ gv
  bw : gb ≠ gw
  kv : gk ≠ gv
  kw : gk ≠ gw

/-- The state: the bytes made whole, the eight words, the roots' words, a block's words. -/
structure RS (w0 : World) (B gb gv gk gw : Nat) (D : List UInt8) (vs X : List Nat) (w : World) : Prop where
  bytes : ∀ (i : Nat) (b : UInt8), D[i]? = some b → w.cell? ⟨gb, i, none⟩ = some (.int .u8 (b.toNat : Int))
  v : w.heap[gv]? = some (.cells (vals32 vs).toArray 25 (0, 0))
  k : Dig32 w gk kL
  x : w.heap[gw]? = some (.cells (vals32 X).toArray 25 (0, 0))
  below : Below B w0 w
  vl : vs.length = 8
  xl : X.length = 64
  vb : B ≤ gv
  xb : B ≤ gw

section
variable {w0 : World} {B gb gv gk gw : Nat} {D : List UInt8} {vs X : List Nat} {w : World}

theorem RS.drew (h : RS w0 B gb gv gk gw D vs X w) : RS w0 B gb gv gk gw D vs X w.drew := ⟨h.bytes, h.v, h.k, h.x, h.below.drew, h.vl, h.xl, h.vb, h.xb⟩
theorem RS.drewN (h : RS w0 B gb gv gk gw D vs X w) (n : Nat) : RS w0 B gb gv gk gw D vs X (w.drewN n) := ⟨h.bytes, h.v, h.k, h.x, bdrewN h.below n, h.vl, h.xl, h.vb, h.xb⟩
theorem RS.kept (h : RS w0 B gb gv gk gw D vs X w) {w' : World} (hb : Below w.heap.size w w') (hB : B ≤ w.heap.size) : RS w0 B gb gv gk gw D vs X w' :=
  ⟨fun i b hi => Sha.kept hb (h.bytes i b hi), (hb.block gv (Array.getElem?_eq_some_iff.1 h.v).1).trans h.v, fun i x hx => Sha.kept hb (h.k i x hx), (hb.block gw (Array.getElem?_eq_some_iff.1 h.x).1).trans h.x, h.below.trans (hb.mono hB), h.vl, h.xl, h.vb, h.xb⟩
theorem RS.cellV (h : RS w0 B gb gv gk gw D vs X w) (i x : Nat) (hx : vs[i]? = some x) : w.cell? ⟨gv, i, none⟩ = some (.int .u32 x) := by
  rw [cell_of_row w gv i _ _ _ h.v]
  simp [vals32, hx]
theorem RS.cellX (h : RS w0 B gb gv gk gw D vs X w) (i x : Nat) (hx : X[i]? = some x) : w.cell? ⟨gw, i, none⟩ = some (.int .u32 x) := by
  rw [cell_of_row w gw i _ _ _ h.x]
  simp [vals32, hx]
theorem RS.frozV (h : RS w0 B gb gv gk gw D vs X w) (i : Nat) : w.frozen? ⟨gv, i, none⟩ = false := frozen_of_row w gv i _ _ h.v
theorem RS.frozX (h : RS w0 B gb gv gk gw D vs X w) (i : Nat) : w.frozen? ⟨gw, i, none⟩ = false := frozen_of_row w gw i _ _ h.x
theorem vals_set (vs : List Nat) (i x : Nat) : (vals32 vs).toArray.setIfInBounds i (.int .u32 (x : Int)) = (vals32 (vs.set i x)).toArray := by
  simp [vals32, List.map_set]
theorem cell_setCell_far (w : World) (a b : Addr) (u : Value) (h : b.block ≠ a.block) : (w.setCell a u).cell? b = w.cell? b := by
  have := heap_setCell_other w a b.block u h
  simp only [World.cell?, this]
theorem RS.setV (h : RS w0 B gb gv gk gw D vs X w) (A : Apart gb gv gk gw) (i x : Nat) : RS w0 B gb gv gk gw D (vs.set i x) X (w.setCell ⟨gv, i, none⟩ (.int .u32 x)) :=
  ⟨fun j b hj => (cell_setCell_far w _ _ _ A.bv).trans (h.bytes j b hj), by rw [heap_setCell_same w gv i _ _ _ h.v, vals_set], fun j y hy => (cell_setCell_far w _ _ _ A.kv).trans (h.k j y hy),
    (heap_setCell_other w _ gw _ A.vw.symm).trans h.x, h.below.setCell (p := ⟨gv, i, none⟩) h.vb _, by simp [h.vl], h.xl, h.vb, h.xb⟩
theorem RS.setX (h : RS w0 B gb gv gk gw D vs X w) (A : Apart gb gv gk gw) (i x : Nat) : RS w0 B gb gv gk gw D vs (X.set i x) (w.setCell ⟨gw, i, none⟩ (.int .u32 x)) :=
  ⟨fun j b hj => (cell_setCell_far w _ _ _ A.bw).trans (h.bytes j b hj), (heap_setCell_other w _ gv _ A.vw).trans h.v, fun j y hy => (cell_setCell_far w _ _ _ A.kw).trans (h.k j y hy),
    by rw [heap_setCell_same w gw i _ _ _ h.x, vals_set], h.below.setCell (p := ⟨gw, i, none⟩) h.xb _, h.vl, by simp [h.xl], h.vb, h.xb⟩
end

theorem growW_add (n m : Nat) : ∀ W : List Nat, growW (n + m) W = growW m (growW n W) := by
  induction n with
  | zero => intro W; rw [Nat.zero_add]; rfl
  | succ n ih => intro W; rw [show n + 1 + m = (n + m) + 1 by omega, growW, ih, growW]
theorem growW_pre (m : Nat) : ∀ (W : List Nat) (i : Nat), i < W.length → (growW m W)[i]? = W[i]? := by
  induction m with
  | zero => intro W i _; rfl
  | succ m ih =>
    intro W i hi
    rw [growW, ih _ _ (by simp; omega), List.getElem?_append_left hi]

/-- A block's 64 words. -/
def wsL (l : List Nat) : List Nat := growW 48 (wordsL l)
theorem wsL_first (l : List Nat) (hl : l.length = 64) (t : Nat) (ht : t < 16) : (wsL l)[t]? = some (l.getD (4 * t) 0 * 16777216 + l.getD (4 * t + 1) 0 * 65536 + l.getD (4 * t + 2) 0 * 256 + l.getD (4 * t + 3) 0) := by
  unfold wsL
  rw [growW_pre 48 _ t (by rw [wordsL_length 16 l (by omega)]; exact ht)]
  exact wordsL_get l t (by omega)
theorem wsL_length (l : List Nat) (hl : l.length = 64) : (wsL l).length = 64 := by
  unfold wsL
  rw [growW_length, wordsL_length 16 l (by omega)]
theorem wsL_low (l : List Nat) (h : ∀ x ∈ l, x < 256) : Low (wsL l) := growW_low 48 _ (wordsL_low l h)
theorem wsL_next (l : List Nat) (hl : l.length = 64) (t x2 x7 x15 x16 : Nat) (h16 : 16 ≤ t) (ht : t < 64) (h2 : (wsL l)[t - 2]? = some x2) (h7 : (wsL l)[t - 7]? = some x7) (h15 : (wsL l)[t - 15]? = some x15) (hx16 : (wsL l)[t - 16]? = some x16) :
    (wsL l)[t]? = some ((s1 x2 + x7 + s0 x15 + x16) % 4294967296) := by
  obtain ⟨n, rfl⟩ : ∃ n, t = 16 + n := ⟨t - 16, by omega⟩
  have hw : (wordsL l).length = 16 := wordsL_length 16 l (by omega)
  have hg : (growW n (wordsL l)).length = 16 + n := by rw [growW_length, hw]
  have hall : wsL l = growW (48 - (n + 1)) (growW (n + 1) (wordsL l)) := by
    unfold wsL
    rw [← growW_add, show n + 1 + (48 - (n + 1)) = 48 by omega]
  have hpre : ∀ i, i < 16 + n + 1 → (wsL l)[i]? = (growW (n + 1) (wordsL l))[i]? := fun i hi => by
    rw [hall, growW_pre _ _ i (by rw [growW_length, hw]; omega)]
  have hlow : ∀ i, i < 16 + n → (wsL l)[i]? = (growW n (wordsL l))[i]? := fun i hi => by
    rw [hpre i (by omega), growW_succ, List.getElem?_append_left (by omega)]
  rw [hpre _ (by omega), growW_succ, List.getElem?_append_right (by omega), hg, Nat.sub_self, List.getElem?_cons_zero]
  rw [hlow _ (by omega)] at h2 h7 h15 hx16
  simp only [nextW, List.getD, h2, h7, h15, hx16, Option.getD_some]

/-- A word turned, the world told exactly. -/
theorem turn_drew (x n : Nat) (z : Int) (w : World) (hz : z = (n : Int)) (hx : x < 4294967296) (hn : n ≤ 31) :
    Calls Try.prog 53 #[.int .u32 x, .int .i64 z] w fun e w' => e = .returned (.int .u32 (turnN x n)) ∧ w' = w.drew := by
  subst hz
  have ho := turn_or x n hx hn
  have hs : IntKind.i64.wrap (32 - (n : Int)) = ((32 - n : Nat) : Int) := by rw [IntWalk.i64_in _ ⟨by omega, by omega⟩]; omega
  obtain ⟨m, hm⟩ : ∃ m, 32 - n = m := ⟨_, rfl⟩
  rw [hm] at ho hs
  have hn0 : (0 : Int) ≤ (n : Int) := by omega
  have hm0 : (0 : Int) ≤ (m : Int) := by omega
  have hm32 : m ≤ 32 := by omega
  have hn32 : n ≤ 32 := by omega
  clear hm
  go_enter Try.func53, Try.ntmps53
  go_wp2
  go_region
  all_goals
    go_wp2
    go_ret
    exact ⟨rfl, rfl⟩

end Go.Proofs.Ytogpnfgjdnccdaa.Sha
