/- ShaTold's own: untold. -/
import Derived.Test.YtnfoegiogldidaaShaTd
namespace Go.Proofs.Ytnfoegiogldidaa.Sha
open Go.RowKit

theorem byte_at (S : ByteArray) (N j : Nat) (q : List UInt8) (h : S.data.toList = Digit.putL N ++ q) (hj : j < (Digit.putL N).length) (hs : j < S.size) (b : UInt8) (hb : (Digit.putL N)[j]? = some b) : S[j] = b := by
  have h1 : S.data.toList[j]? = some b := by rw [h, List.getElem?_append_left hj]; exact hb
  obtain ⟨_, h2⟩ := List.getElem?_eq_some_iff.1 h1
  rw [Array.getElem_toList] at h2
  exact h2

theorem rest_texts (S : ByteArray) (t r : List UInt8) (L : Nat) (h : S.data.toList = Digit.putTextL t ++ r) (hL : (Digit.putL t.length).length = L) :
    (S.extract L S.size).extract 0 t.length = ⟨t.toArray⟩ ∧ (S.extract L S.size).extract t.length (S.size - L) = ⟨r.toArray⟩ := by
  have hd : (S.extract L S.size).data.toList = t ++ r := by
    rw [Lib.extract_data, h, Digit.putTextL, List.append_assoc, List.drop_append_of_le_length (by omega), List.drop_of_length_le (by omega), List.nil_append, List.take_of_length_le]
    have : S.data.toList.length = S.size := by rw [Array.length_toList]; rfl
    rw [h, Digit.putTextL] at this
    simp at this
    simp
    omega
  have hsz : S.size - L = t.length + r.length := by
    have : S.data.toList.length = S.size := by rw [Array.length_toList]; rfl
    rw [h, Digit.putTextL] at this
    simp at this
    omega
  constructor
  · apply Digit.bytes_eq
    rw [Lib.extract_data, hd]
    simp
  · apply Digit.bytes_eq
    rw [Lib.extract_data, hd, hsz]
    simp

set_option maxRecDepth 100000 in
set_option maxHeartbeats 1600000 in
theorem untold1 (S : ByteArray) (t r : List UInt8) (hS : S.data.toList = Digit.putTextL t ++ r) (hsz : S.size ≤ 1000000000) (hL : (Digit.putL t.length).length = 1) (w : World) :
    Calls Try.prog 24 #[.string S] w fun e w' => e = .returned (.tuple #[.string ⟨t.toArray⟩, .string ⟨r.toArray⟩, .bool true]) ∧ Below w.heap.size w w' := by
  have hlen : S.data.toList.length = S.size := by rw [Array.length_toList]; rfl
  have hs1 : S.size = 1 + (t.length + r.length) := by rw [← hlen, hS, Digit.putTextL]; simp [hL]
  have hp1 : 0 < S.size := by omega
  have hN : t.length < 128 := (Digit.putL_one_byte _).2 hL
  have hb0 := byte_at S t.length 0 (t ++ r) (by rw [hS, Digit.putTextL, List.append_assoc]) (by omega) hp1 _ (Digit.putF_last 10 t.length 0 (by omega) (by unfold Digit.putL at hL; omega)).1
  have HR := Lib.hid (rest_texts S t r 1 hS hL)
  have hx0 : (S[0]'hp1).toNat = t.length := by
    rw [hb0, UInt8.toNat_ofNat']
    omega
  obtain ⟨N, hNN⟩ : ∃ N, t.length = N := ⟨_, rfl⟩
  rw [hNN] at hN hx0 HR hs1
  have hp2 : N ≤ S.size - 1 := by omega
  have hp3 : 1 ≤ S.size := by omega
  have hm0 : (N : Int) % 128 = (N : Int) := by omega
  clear hb0 hlen hS hL hNN hs1
  go_enter Try.func24, Try.ntmps24
  go_wp2
  go_rounds 1
  go_region
  all_goals
    go_wp2
    go_ret3
    refine ⟨?_, (Below.refl _ _).drew⟩
    show Ending.returned (.tuple #[.string ((S.extract 1 S.size).extract 0 N), .string ((S.extract 1 S.size).extract N (S.size - 1)), .bool true]) = _
    rw [HR.out.1, HR.out.2]

set_option maxRecDepth 100000 in
set_option maxHeartbeats 3200000 in
theorem untold2 (S : ByteArray) (t r : List UInt8) (hS : S.data.toList = Digit.putTextL t ++ r) (hsz : S.size ≤ 1000000000) (hL : (Digit.putL t.length).length = 2) (hN : t.length < 16384) (w : World) :
    Calls Try.prog 24 #[.string S] w fun e w' => e = .returned (.tuple #[.string ⟨t.toArray⟩, .string ⟨r.toArray⟩, .bool true]) ∧ Below w.heap.size w w' := by
  have hlen : S.data.toList.length = S.size := by rw [Array.length_toList]; rfl
  have hs1 : S.size = 2 + (t.length + r.length) := by rw [← hlen, hS, Digit.putTextL]; simp [hL]
  have hp1 : 0 < S.size := by omega
  have hq1 : 1 < S.size := by omega
  have hSS : S.data.toList = Digit.putL t.length ++ (t ++ r) := by rw [hS, Digit.putTextL, List.append_assoc]
  have hb0 := byte_at S t.length 0 (t ++ r) hSS (by omega) hp1 _ (Digit.putF_get 10 t.length 0 (by unfold Digit.putL at hL; omega))
  have hb1 := byte_at S t.length 1 (t ++ r) hSS (by omega) hq1 _ (Digit.putF_last 10 t.length 1 (by omega) (by unfold Digit.putL at hL; omega)).1
  have hl1 := (Digit.putF_last 10 t.length 1 (by omega) (by unfold Digit.putL at hL; omega)).2
  have HR := Lib.hid (rest_texts S t r 2 hS hL)
  obtain ⟨x0, hx0⟩ : ∃ x, (S[0]'hp1).toNat = x := ⟨_, rfl⟩
  obtain ⟨x1, hx1⟩ : ∃ x, (S[1]'hq1).toNat = x := ⟨_, rfl⟩
  have e0 : x0 = t.length % 128 + 128 := by
    rw [← hx0, hb0, UInt8.toNat_ofNat']
    omega
  have e1 : x1 = t.length / 128 := by
    rw [← hx1, hb1, UInt8.toNat_ofNat']
    omega
  obtain ⟨N, hNN⟩ : ∃ N, t.length = N := ⟨_, rfl⟩
  rw [hNN] at hN e0 e1 HR hs1
  obtain ⟨a0, ha0⟩ : ∃ a, N % 128 = a := ⟨_, rfl⟩
  have hm0 : (x0 : Int) % 128 = (a0 : Int) := by omega
  have hm1 : (x1 : Int) % 128 = (x1 : Int) := by omega
  have hsum : (a0 : Int) + (x1 : Int) * 128 = (N : Int) := by omega
  have h128 : 128 ≤ x0 := by omega
  have h256 : x0 < 256 := by omega
  have hx1l : x1 < 128 := by omega
  have ha0l : a0 < 128 := by omega
  have hp2 : N ≤ S.size - 2 := by omega
  have hp3 : 2 ≤ S.size := by omega
  clear hb0 hb1 hl1 hlen hS hSS hL hNN hs1 e0 e1 ha0
  go_enter Try.func24, Try.ntmps24
  go_wp2
  go_rounds 2
  go_region
  all_goals
    go_wp2
    go_ret3
    refine ⟨?_, (Below.refl _ _).drew⟩
    show Ending.returned (.tuple #[.string ((S.extract 2 S.size).extract 0 N), .string ((S.extract 2 S.size).extract N (S.size - 2)), .bool true]) = _
    rw [HR.out.1, HR.out.2]

set_option maxRecDepth 100000 in
set_option maxHeartbeats 3200000 in
theorem untold3 (S : ByteArray) (t r : List UInt8) (hS : S.data.toList = Digit.putTextL t ++ r) (hsz : S.size ≤ 1000000000) (hL : (Digit.putL t.length).length = 3) (hN : t.length < 2097152) (w : World) :
    Calls Try.prog 24 #[.string S] w fun e w' => e = .returned (.tuple #[.string ⟨t.toArray⟩, .string ⟨r.toArray⟩, .bool true]) ∧ Below w.heap.size w w' := by
  have hlen : S.data.toList.length = S.size := by rw [Array.length_toList]; rfl
  have hs1 : S.size = 3 + (t.length + r.length) := by rw [← hlen, hS, Digit.putTextL]; simp [hL]
  have hp1 : 0 < S.size := by omega
  have hq1 : 1 < S.size := by omega
  have hq2 : 2 < S.size := by omega
  have hSS : S.data.toList = Digit.putL t.length ++ (t ++ r) := by rw [hS, Digit.putTextL, List.append_assoc]
  have hb0 := byte_at S t.length 0 (t ++ r) hSS (by omega) hp1 _ (Digit.putF_get 10 t.length 0 (by unfold Digit.putL at hL; omega))
  have hb1 := byte_at S t.length 1 (t ++ r) hSS (by omega) hq1 _ (Digit.putF_get 10 t.length 1 (by unfold Digit.putL at hL; omega))
  have hb2 := byte_at S t.length 2 (t ++ r) hSS (by omega) hq2 _ (Digit.putF_last 10 t.length 2 (by omega) (by unfold Digit.putL at hL; omega)).1
  have hl1 := (Digit.putF_last 10 t.length 2 (by omega) (by unfold Digit.putL at hL; omega)).2
  have HR := Lib.hid (rest_texts S t r 3 hS hL)
  obtain ⟨x0, hx0⟩ : ∃ x, (S[0]'hp1).toNat = x := ⟨_, rfl⟩
  obtain ⟨x1, hx1⟩ : ∃ x, (S[1]'hq1).toNat = x := ⟨_, rfl⟩
  obtain ⟨x2, hx2⟩ : ∃ x, (S[2]'hq2).toNat = x := ⟨_, rfl⟩
  have e0 : x0 = t.length % 128 + 128 := by
    rw [← hx0, hb0, UInt8.toNat_ofNat']
    omega
  have e1 : x1 = t.length / 128 % 128 + 128 := by
    rw [← hx1, hb1, UInt8.toNat_ofNat']
    omega
  have e2 : x2 = t.length / 16384 := by
    rw [← hx2, hb2, UInt8.toNat_ofNat']
    omega
  obtain ⟨N, hNN⟩ : ∃ N, t.length = N := ⟨_, rfl⟩
  rw [hNN] at hN e0 e1 e2 HR hs1
  obtain ⟨a0, ha0⟩ : ∃ a, N % 128 = a := ⟨_, rfl⟩
  obtain ⟨a1, ha1⟩ : ∃ a, N / 128 % 128 = a := ⟨_, rfl⟩
  obtain ⟨a2, ha2⟩ : ∃ a, N % 16384 = a := ⟨_, rfl⟩
  have hm0 : (x0 : Int) % 128 = (a0 : Int) := by omega
  have hm1 : (x1 : Int) % 128 = (a1 : Int) := by omega
  have hm2 : (x2 : Int) % 128 = (x2 : Int) := by omega
  have hsum : (a0 : Int) + (a1 : Int) * 128 = (a2 : Int) := by omega
  have hsum2 : (a2 : Int) + (x2 : Int) * 16384 = (N : Int) := by omega
  have h128 : 128 ≤ x0 := by omega
  have h256 : x0 < 256 := by omega
  have h128' : 128 ≤ x1 := by omega
  have h256' : x1 < 256 := by omega
  have hx1l : x2 < 128 := by omega
  have ha0l : a0 < 128 := by omega
  have ha1l : a1 < 128 := by omega
  have ha2l : a2 < 16384 := by omega
  have hp2 : N ≤ S.size - 3 := by omega
  have hp3 : 3 ≤ S.size := by omega
  clear hb0 hb1 hb2 hl1 hlen hS hSS hL hNN hs1 e0 e1 e2 ha0 ha1 ha2
  go_enter Try.func24, Try.ntmps24
  go_wp2
  go_rounds 3
  go_region
  all_goals
    go_wp2
    go_ret3
    refine ⟨?_, (Below.refl _ _).drew⟩
    show Ending.returned (.tuple #[.string ((S.extract 3 S.size).extract 0 N), .string ((S.extract 3 S.size).extract N (S.size - 3)), .bool true]) = _
    rw [HR.out.1, HR.out.2]

theorem untold_any (S : ByteArray) (t r : List UInt8) (hS : S.data.toList = Digit.putTextL t ++ r) (hsz : S.size ≤ 1000000000) (hN : t.length ≤ 16384) (w : World) :
    Calls Try.prog 24 #[.string S] w fun e w' => e = .returned (.tuple #[.string ⟨t.toArray⟩, .string ⟨r.toArray⟩, .bool true]) ∧ Below w.heap.size w w' := by
  have h1 := Digit.putL_pos t.length
  have h3 := Digit.putL_len_lt t.length 2 (by omega) (by omega)
  have hL : (Digit.putL t.length).length = 1 ∨ (Digit.putL t.length).length = 2 ∨ (Digit.putL t.length).length = 3 := by omega
  rcases hL with hL | hL | hL
  · exact untold1 S t r hS hsz hL w
  · refine untold2 S t r hS hsz hL ?_ w
    have := (Digit.putF_last 10 t.length 1 (by omega) (by unfold Digit.putL at hL; omega)).2
    omega
  · exact untold3 S t r hS hsz hL (by omega) w

end Go.Proofs.Ytnfoegiogldidaa.Sha
