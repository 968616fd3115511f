/- ShaTold's own: told, untold. -/
import Derived.Test.YtnfoegiogldidaaShaI
import Derived.Test.YtnfoegiogldidaaShaL2
namespace Go.Proofs.Ytnfoegiogldidaa.Sha
open Go.RowKit

theorem ownsRow_empty (w : World) (e : TypeId) (B : Nat) (hB : B ≤ w.heap.size) : (w.alloc (.cells #[] e)).ownsRow B e 1 (.slice (some ⟨w.heap.size, 0, none⟩) 0 0) 0 [] :=
  ⟨rfl, Or.inr ⟨w.heap.size, 0, #[], rfl, hB, heap_alloc_new w _, Nat.le_refl _, Nat.zero_le _, rfl, rfl⟩⟩

theorem put_high (m N : Nat) (ys : List UInt8) (hm : 128 ≤ m) (h10 : m < 128 ^ 10) (h : ys ++ Digit.putL m = Digit.putL N) : (ys ++ [UInt8.ofNat (m % 128 + 128)]) ++ Digit.putL (m / 128) = Digit.putL N := by
  rw [← h, Digit.putL_eq m h10, if_neg (by omega)]
  simp
theorem put_low (m N : Nat) (ys : List UInt8) (hm : m < 128) (h : ys ++ Digit.putL m = Digit.putL N) : ys ++ [UInt8.ofNat m] = Digit.putL N := by
  rw [← h, Digit.putL_eq m (by omega), if_pos hm]

set_option maxRecDepth 100000 in
set_option maxHeartbeats 1600000 in
theorem told_any (s : ByteArray) (hs : s.size ≤ 70368744177664) (w : World) :
    Calls Try.prog 23 #[.string s] w fun e w' => e = .returned (.string ⟨(Digit.putTextL s.data.toList).toArray⟩) ∧ Below w.heap.size w w' := by
  obtain ⟨i0, hi, hz0, hz1, hz2⟩ := info_parts info8
  have hlen : s.data.toList.length = s.size := by rw [Array.length_toList]; rfl
  have HLEN := Lib.hid hlen
  have HPL := Lib.hid (Digit.putL_len s.size)
  clear hlen
  go_enter Try.func23, Try.ntmps23
  go_wp2_with fail
  go_loopw [3, 4] (fun v n wr => ∃ (m : Nat) (ys : List UInt8), m ≤ s.size ∧ n = .int .i64 m ∧ ys ++ Digit.putL m = Digit.putL s.size ∧ wr.ownsRow w.heap.size 5 1 v ys.length (valsB ys) ∧ Below w.heap.size w wr) (fun _ n _ => (intOf n).toNat)
  case atStart => exact ⟨s.size, [], Nat.le_refl _, rfl, rfl, ownsRow_empty w _ _ (Nat.le_refl _), (Below.refl _ _).alloc (Nat.le_refl _) _⟩
  case round =>
    obtain ⟨m, ys, hm, rfl, hput, hown, hbel⟩ := hrel
    have HO := Lib.hid hown
    have HB := Lib.hid hbel
    have HP := Lib.hid hput
    have hyl : ys.length ≤ 10 := by
      have h1 := congrArg List.length hput
      have h2 := HPL.out
      rw [List.length_append] at h1
      omega
    have hbase := hbel.size
    clear hown hbel hput
    by_cases hlt : 128 ≤ m
    · have z1 : (m : Int) % 128 + 128 = ((m % 128 + 128 : Nat) : Int) := by omega
      have z2 : (m : Int) / 128 = ((m / 128 : Nat) : Int) := by omega
      obtain ⟨b, hb⟩ : ∃ b : UInt8, UInt8.ofNat (m % 128 + 128) = b := ⟨_, rfl⟩
      have hbv : ((m % 128 + 128 : Nat) : Int) = (b.toNat : Int) := by
        rw [← hb, UInt8.toNat_ofNat']
        omega
      have z3 : (m : Int) % 128 + 128 = (b.toNat : Int) := z1.trans hbv
      have hb8 := b.toNat_lt
      have HN := Lib.hid (show (ys ++ [b]) ++ Digit.putL (m / 128) = Digit.putL s.size by
        rw [← hb]
        exact put_high m s.size ys hlt (by omega) HP.out)
      obtain ⟨q, hq⟩ : ∃ q, m / 128 = q := ⟨_, rfl⟩
      rw [hq] at z2 HN
      have HQ := Lib.hid hq
      clear z1 hb hbv hq
      go_wp2_with (at_builtin; refine wpList_append_lies _ rfl (.tmp 12) (.tmp 17) 38 rfl w.heap.size 5 i0 (.int .u8 0) 1 1 Try.underlying38 hi hz0 hz1 hz2 rfl (by decide) _ ys.length (valsB ys) rfl (HO.out.alloc _) ⟨wr.heap.size, 0, none⟩ 1 1 [.int .u8 (b.toNat : Int)] rfl rfl (news_one _ _ _) (news_oneCell8 b) (by decide) (by unfold maxLen; omega) (by omega) (Nat.le_trans hbase (by simp)) _ rfl ?_; intro g1 cap1 w1 hown1 hgrow1 hat hlt1)
      have hb1 := ((Below.refl w.heap.size wr).alloc hbase (.cells #[.int .u8 (b.toNat : Int)] 5)).grown hgrow1 (Nat.le_trans hbase (by simp)) (own_base HO.out)
      rw [valsB_snoc] at hown1
      have HO1 := Lib.hid hown1
      have HB1 := Lib.hid hb1
      clear hown1 hgrow1 hat hb1
      go_wp2
      go_roundw
      case rel => exact ⟨q, ys ++ [b], by have := HQ.out; omega, rfl, HN.out, by rw [List.length_append]; exact HO1.out, HB.out.trans HB1.out⟩
      case measure => have := HQ.out; simp [intOf]; omega
    · obtain ⟨b, hb⟩ : ∃ b : UInt8, UInt8.ofNat m = b := ⟨_, rfl⟩
      have hbv : (m : Int) = (b.toNat : Int) := by
        rw [← hb, UInt8.toNat_ofNat', Nat.mod_eq_of_lt (by omega)]
      have hb8 := b.toNat_lt
      have HN := Lib.hid (show ys ++ [b] = Digit.putL s.size by
        rw [← hb]
        exact put_low m s.size ys (by omega) HP.out)
      have HBV := Lib.hid hbv
      clear hb
      go_wp2_with (at_builtin; refine wpList_append_lies _ rfl (.tmp 19) (.tmp 22) 38 rfl w.heap.size 5 i0 (.int .u8 0) 1 1 Try.underlying38 hi hz0 hz1 hz2 rfl (by decide) _ ys.length (valsB ys) rfl (HO.out.alloc _) ⟨wr.heap.size, 0, none⟩ 1 1 [.int .u8 (b.toNat : Int)] rfl rfl (news_one _ _ _) (news_oneCell8 b) (by decide) (by unfold maxLen; omega) (by omega) (Nat.le_trans hbase (by simp)) _ rfl ?_; intro g1 cap1 w1 hown1 hgrow1 hat hlt1)
      have hb1 := ((Below.refl w.heap.size wr).alloc hbase (.cells #[.int .u8 (b.toNat : Int)] 5)).grown hgrow1 (Nat.le_trans hbase (by simp)) (own_base HO.out)
      rw [valsB_snoc] at hown1
      have hconv := conv_own w1 w.heap.size g1 (ys.length + 1) cap1 (ys ++ [b]) (by simp) hown1
      have HB1 := Lib.hid (HB.out.trans hb1)
      clear hown1 hgrow1 hat hb1
      rw [HN.out] at hconv
      obtain ⟨T, hT⟩ : ∃ T : ByteArray, (⟨(Digit.putL s.size).toArray⟩ : ByteArray) = T := ⟨_, rfl⟩
      have hTs : T.size ≤ 10 := by rw [← hT, size_mk]; exact HPL.out
      rw [hT] at hconv
      have HT := Lib.hid hT
      clear hT
      go_wp2
      rw [hconv]
      simp only [Result.andThen]
      rw [Oper.upon_value]
      go_wp2
      go_ret
      exact ⟨Digit.ret_str (Digit.bytes_eq (by rw [← HT.out]; simp [Digit.putTextL, HLEN.out])), HB1.out⟩

end Go.Proofs.Ytnfoegiogldidaa.Sha
