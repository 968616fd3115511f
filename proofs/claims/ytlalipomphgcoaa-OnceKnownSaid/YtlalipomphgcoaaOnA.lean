/- once: the code's sum, mark, bit. -/
import Derived.Test.YtlalipomphgcoaaOnM
import Derived.Test.YtlalipomphgcoaaQFt
namespace Go.Proofs.Ytlalipomphgcoaa.Once
open Go.RowKit Go.Proofs.Ytlalipomphgcoaa.Sha Go.Proofs.Ytlalipomphgcoaa.Tree

set_option maxRecDepth 100000 in
set_option maxHeartbeats 1600000 in
theorem code_sum1 (tag : ByteArray) (a : Option Addr) (n cap : Nat) (P : List ByteArray) (w : World) (hT : Texts w (.slice a n cap) P) (ht : tag.size ≤ 100) (hP : P.length ≤ 2) (hs : ∀ s ∈ P, s.size ≤ 100) :
    Calls Try.prog 75 #[.string tag, .slice a n cap] w fun e w' => e = .returned (.string ⟨(ofT tag P).toArray⟩) ∧ Below w.heap.size w w' := by
  have HO := Lib.hid (code_ofT tag _ P w hT ht hP hs)
  have HBY := Lib.hid (fun w => code_bytes (ofT tag P) rfl w)
  obtain ⟨C, hC⟩ : ∃ C, (valsB (ofT tag P)).toArray = C := ⟨_, rfl⟩
  rw [hC] at HO HBY
  obtain ⟨S, hS⟩ : ∃ S : ByteArray, (⟨(ofT tag P).toArray⟩ : ByteArray) = S := ⟨_, rfl⟩
  rw [hS] at HBY
  rw [hS]
  clear hC hS hT
  go_enter Try.func75, Try.ntmps75
  go_wp2_with fail
  refine HO.out.mono ?_
  rintro e w1 ⟨rfl, hb1⟩
  have HB1 := Lib.hid hb1
  clear hb1
  go_wp2_with fail
  refine (HBY.out _).mono ?_
  rintro e w2 ⟨rfl, hb2⟩
  have HB2 := Lib.hid (HB1.out.trans (hb2.mono HB1.out.size))
  clear hb2
  go_wp2_with fail
  go_ret
  exact ⟨rfl, HB2.out⟩

set_option maxRecDepth 100000 in
set_option maxHeartbeats 1600000 in
theorem code_mark (s : List UInt8) (hs : s.length = 32) (w : World) :
    Calls Try.prog 55 #[.string ⟨s.toArray⟩] w fun e w' => e = .returned (.string ⟨(markF s).toArray⟩) ∧ Below w.heap.size w w' := by
  have HO := Lib.hid (fun (w : World) => code_sum1 markT (some ⟨w.heap.size, 0, none⟩) 1 1 [⟨s.toArray⟩] _ (texts_one w ⟨s.toArray⟩) (by decide) (by simp) (by simp [size_of s 32 hs]))
  obtain ⟨S, hS⟩ : ∃ S : ByteArray, (⟨s.toArray⟩ : ByteArray) = S := ⟨_, rfl⟩
  obtain ⟨R, hR⟩ : ∃ R : ByteArray, (⟨(markF s).toArray⟩ : ByteArray) = R := ⟨_, rfl⟩
  simp only [hS] at HO
  rw [show (⟨(ofT markT [S]).toArray⟩ : ByteArray) = R by rw [← hR, ← hS]; rfl] at HO
  rw [hS, hR]
  clear hS hR hs
  go_enter Try.func55, Try.ntmps55
  go_wp2_with fail
  refine (HO.out _).mono ?_
  rintro e w1 ⟨rfl, hb1⟩
  have HB1 := Lib.hid ((((Below.refl _ _).alloc (Nat.le_refl _) _).trans (hb1.mono (by simp)) : Below w.heap.size w w1))
  clear hb1
  go_wp2_with fail
  go_ret
  exact ⟨rfl, HB1.out⟩

set_option maxRecDepth 100000 in
set_option maxHeartbeats 1600000 in
theorem code_bit (m : List UInt8) (hm : m.length = 32) (i : Nat) (hi : i < 16) (w : World) :
    Calls Try.prog 54 #[.agg (valsB m).toArray, .int .i64 i] w fun e w' => e = .returned (.int .i64 (bitF m i)) ∧ Below w.heap.size w w' := by
  have hb := bitF_byte m i hi
  obtain ⟨q, hq⟩ : ∃ q, i / 8 = q := ⟨_, rfl⟩
  obtain ⟨r, hr⟩ : ∃ r, i % 8 = r := ⟨_, rfl⟩
  obtain ⟨s, hs⟩ : ∃ s, 7 - r = s := ⟨_, rfl⟩
  rw [hq, hr, hs] at hb
  have hg : m[q]? = some (m.getD q 0) := by
    rw [List.getD_eq_getElem?_getD, List.getElem?_eq_getElem (by omega)]
    rfl
  have hc := valsB_get m q _ hg
  obtain ⟨b, hbb⟩ : ∃ b, (m.getD q 0).toNat = b := ⟨_, rfl⟩
  have hb8 : b < 256 := by rw [← hbb]; exact UInt8.toNat_lt _
  rw [hbb] at hb hc
  obtain ⟨x, hx⟩ : ∃ x, bitF m i = x := ⟨_, rfl⟩
  rw [hx] at hb
  rw [hx]
  obtain ⟨C, hC⟩ : ∃ C, (valsB m).toArray = C := ⟨_, rfl⟩
  rw [hC] at hc
  rw [hC]
  have hqi : (i : Int) / 8 = (q : Int) := by omega
  have hri : (i : Int) % 8 = (r : Int) := by omega
  have hsi : (7 : Int) - (r : Int) = (s : Int) := by omega
  have hq0 : (0 : Int) ≤ (q : Int) := by omega
  have hq32 : (q : Int) < 32 := by omega
  have hs8 : s < 8 := by omega
  have hs0 : (0 : Int) ≤ (s : Int) := by omega
  have HI := Lib.hid hi
  clear hg hC hx hbb hq hr hs hi
  go_enter Try.func54, Try.ntmps54
  go_wp2_with fail
  have hv : wrap64 (bits BinOp.and IntKind.u8 ((b : Int) / 2 ^ s) 1) = (x : Int) := by
    have h1 : ((b : Int) / 2 ^ s) = ((b / 2 ^ s : Nat) : Int) := by simp
    have h2 : b / 2 ^ s ≤ b := Nat.div_le_self _ _
    have h3 := u8_and_nat (b / 2 ^ s) 1 (by omega) (by omega)
    rw [nat_mask1, ← hb] at h3
    rw [h1]
    have hx2 : x < 2 := by rw [hb]; exact Nat.mod_lt _ (by decide)
    rw [show ((1 : Nat) : Int) = 1 from rfl] at h3
    rw [h3]
    unfold wrap64
    omega
  go_ret
  exact ⟨congrArg (fun z => Ending.returned (Value.int .i64 z)) hv, (Below.refl _ _).alloc (Nat.le_refl _) _⟩

end Go.Proofs.Ytlalipomphgcoaa.Once
