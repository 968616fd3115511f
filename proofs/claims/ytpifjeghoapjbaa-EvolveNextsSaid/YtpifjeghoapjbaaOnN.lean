/- once: the document's answers. -/
import Derived.Test.YtpifjeghoapjbaaOnJ
namespace Go.Proofs.Ytpifjeghoapjbaa.Once
open Go.RowKit Go.Proofs.Ytpifjeghoapjbaa.Sha Go.Proofs.Ytpifjeghoapjbaa.Tree

set_option maxRecDepth 100000 in
set_option maxHeartbeats 1600000 in
theorem ref_mark (p : ByteArray) (hp : p.size = 32) (w : World) :
    Calls Try.prog 59 #[.string p] w fun e w' => e = .returned (.string ⟨(markF p.data.toList).toArray⟩) ∧ Below w.heap.size w w' := by
  have HO := Lib.hid (fun w => ref_one markT p (by decide) (by omega) w)
  have e0 : ofT markT [p] = markF p.data.toList := by
    unfold markF
    rw [mk_data]
  rw [e0] at HO
  have HBY := Lib.hid (fun w => bytes_any (markF p.data.toList) rfl w)
  obtain ⟨C, hC⟩ : ∃ C, (valsB (markF p.data.toList)).toArray = C := ⟨_, rfl⟩
  rw [hC] at HO HBY
  obtain ⟨R, hR⟩ : ∃ R : ByteArray, (⟨(markF p.data.toList).toArray⟩ : ByteArray) = R := ⟨_, rfl⟩
  rw [hR] at HBY
  rw [hR]
  clear hC hR e0
  go_enter Try.func59, Try.ntmps59
  go_wp2_with fail
  refine (HO.out _).mono ?_
  rintro e w1 ⟨rfl, hb1⟩
  have HB1 := Lib.hid hb1
  clear hb1
  go_wp2_with fail
  refine (HBY.out _).mono ?_
  rintro e w2 ⟨rfl, hb2⟩
  have HB2 := Lib.hid (HB1.out.trans (hb2.mono HB1.out.size))
  clear hb2
  go_wp2_with fail
  go_ret
  exact ⟨rfl, HB2.out⟩

set_option maxRecDepth 100000 in
set_option maxHeartbeats 3200000 in
theorem ref_secret (seed : List UInt8) (hs : seed.length = 32) (i k : Nat) (hi : i < 16) (hk : k < 2) (w : World) :
    Calls Try.prog 60 #[.agg (valsB seed).toArray, .int .i64 i, .int .i64 k] w fun e w' => e = .returned (.string ⟨(secF seed (2 * i + k)).toArray⟩) ∧ Below w.heap.size w w' := by
  have HBY := Lib.hid (fun w => bytes_any seed hs w)
  obtain ⟨i2, hi2⟩ : ∃ x, 2 * i = x := ⟨_, rfl⟩
  obtain ⟨j, hj⟩ : ∃ x, i2 + k = x := ⟨_, rfl⟩
  rw [hi2, hj]
  have hj32 : j < 32 := by omega
  have HTW := Lib.hid (fun w => ref_two secretT ⟨seed.toArray⟩ ⟨[UInt8.ofNat j].toArray⟩ (by decide) (by simp [size_of seed 32 hs]) (by simp [size_of [UInt8.ofNat j] 1 rfl]) w)
  rw [show ofT secretT [⟨seed.toArray⟩, ⟨[UInt8.ofNat j].toArray⟩] = secF seed j from rfl] at HTW
  have HBR := Lib.hid (fun w => bytes_any (secF seed j) rfl w)
  have HCV := Lib.hid (fun w g h => conv_one w g j (by omega) h)
  have HRC := Lib.hid (row32 seed hs)
  obtain ⟨C, hC⟩ : ∃ C, (valsB seed).toArray = C := ⟨_, rfl⟩
  rw [hC] at HBY HRC
  rw [hC]
  obtain ⟨S, hS⟩ : ∃ S : ByteArray, (⟨seed.toArray⟩ : ByteArray) = S := ⟨_, rfl⟩
  rw [hS] at HBY HTW
  obtain ⟨J, hJ⟩ : ∃ J : ByteArray, (⟨[UInt8.ofNat j].toArray⟩ : ByteArray) = J := ⟨_, rfl⟩
  rw [hJ] at HTW
  simp only [hJ] at HCV
  obtain ⟨D, hD⟩ : ∃ C, (valsB (secF seed j)).toArray = C := ⟨_, rfl⟩
  rw [hD] at HTW HBR
  obtain ⟨R, hR⟩ : ∃ R : ByteArray, (⟨(secF seed j).toArray⟩ : ByteArray) = R := ⟨_, rfl⟩
  rw [hR] at HBR
  rw [hR]
  have hi2i : (2 : Int) * (i : Int) = (i2 : Int) := by omega
  have hij : (i2 : Int) + (k : Int) = (j : Int) := by omega
  have hw2 : IntKind.i64.wrap (i2 : Int) = (i2 : Int) := by unfold IntKind.wrap; simp [IntKind.bits, IntKind.signed]; omega
  have hwj : IntKind.i64.wrap (j : Int) = (j : Int) := by unfold IntKind.wrap; simp [IntKind.bits, IntKind.signed]; omega
  have hw8 : IntKind.u8.wrap (j : Int) = (j : Int) := by unfold IntKind.wrap; simp [IntKind.bits, IntKind.signed]; omega
  clear hC hS hJ hD hR hi2 hj
  go_enter Try.func60, Try.ntmps60
  go_upto_region 1 with (fail)
  have HBW := Lib.hid (show Below w.heap.size w (w.alloc (.cells C 23)) from (Below.refl _ _).alloc (Nat.le_refl _) _)
  have H0 := Lib.hid (heap_alloc_new w (.cells C 23))
  obtain ⟨g0, hg0⟩ : ∃ x, w.heap.size = x := ⟨_, rfl⟩
  rw [hg0] at H0 HBW
  rw [hg0]
  have HG := Lib.hid hg0
  generalize w.alloc (.cells C 23) = W at H0 HBW ⊢
  have HL0 := Lib.hid ((Array.getElem?_eq_some_iff.1 H0.out).1)
  clear hg0
  refine QT.wp_region_facts (by kernel_rfl) (fun w' => Below W.heap.size W w') (fun n v w' => (([.val (.agg C), .val (.string S), .val (.int .i64 i), .val (.int .i64 i2), .val (.int .i64 k), .val (.int .i64 j), .val (.int .u8 j), .cell (.int .u8 j), .val (.string J), .val (.agg D), .val (.string R), .val (.string R)] : List Fact).getD n (.val undef) : Fact).holds v w') (by kernel_rfl) (by kernel_rfl) (Below.refl _ _).drew (fun w1 w2 h1 hb => h1.trans (hb.mono h1.size)) (fun n v w1 w2 h hb => Fact.kept _ v w1 w2 h hb) (fun n o ho a wz hI hag hdep => ?_) (fun a wz hI hag hf => ?_)
  · have t1 : a.eval (.tmp 1) = .int .i64 i := hag.old 1 _ (by kernel_rfl) rfl
    have t2 : a.eval (.tmp 2) = .int .i64 k := hag.old 2 _ (by kernel_rfl) rfl
    have t3 : a.eval (.tmp 3) = .pointer (some ⟨g0, 0, none⟩) := hag.old 3 _ (by kernel_rfl) rfl
    match n, ho with
    | 0, ho =>
      obtain rfl := (Option.some.inj ho).symm
      exact ⟨rfl, wp_load_row 23 (.tmp 3) rfl g0 t3 23 C (0, 0) _ ((hI.block g0 HL0.out).trans H0.out) Try.underlying23 rfl HRC.out.info ⟨_, rfl, rfl, Below.refl _ _⟩⟩
    | 1, ho =>
      obtain rfl := (Option.some.inj ho).symm
      have d7 : a.eval (.tmp 7) = .agg C := hdep _ (Array.mem_of_getElem? (i := 0) rfl) rfl _ _ rfl rfl
      exact ⟨rfl, QT.wp_enter (f := 33) (args := #[.agg C]) (by simp [go_sem, QT.nf d7]) (HBY.out wz) fun w' hb => ⟨_, rfl, rfl, hb⟩⟩
    | 2, ho =>
      obtain rfl := (Option.some.inj ho).symm
      exact ⟨rfl, QT.wp_value (BigFrame.run_move (.tmp 1) rfl wz) ⟨_, rfl, t1, Below.refl _ _⟩⟩
    | 3, ho =>
      obtain rfl := (Option.some.inj ho).symm
      have d9 : a.eval (.tmp 9) = .int .i64 i := hdep _ (Array.mem_of_getElem? (i := 0) rfl) rfl _ _ rfl rfl
      exact ⟨rfl, QT.wp_value (v := .int .i64 i2) (by simp [go_sem, QT.nf d9, hi2i, hw2]) ⟨_, rfl, rfl, Below.refl _ _⟩⟩
    | 4, ho =>
      obtain rfl := (Option.some.inj ho).symm
      exact ⟨rfl, QT.wp_value (BigFrame.run_move (.tmp 2) rfl wz) ⟨_, rfl, t2, Below.refl _ _⟩⟩
    | 5, ho =>
      obtain rfl := (Option.some.inj ho).symm
      have d10 : a.eval (.tmp 10) = .int .i64 i2 := hdep _ (Array.mem_of_getElem? (i := 0) rfl) rfl _ _ rfl rfl
      have d11 : a.eval (.tmp 11) = .int .i64 k := hdep _ (Array.mem_of_getElem? (i := 1) rfl) rfl _ _ rfl rfl
      exact ⟨rfl, QT.wp_value (v := .int .i64 j) (by simp [go_sem, QT.nf d10, QT.nf d11, hij, hwj]) ⟨_, rfl, rfl, Below.refl _ _⟩⟩
    | 6, ho =>
      obtain rfl := (Option.some.inj ho).symm
      have d12 : a.eval (.tmp 12) = .int .i64 j := hdep _ (Array.mem_of_getElem? (i := 0) rfl) rfl _ _ rfl rfl
      exact ⟨rfl, QT.wp_value (v := .int .u8 j) (by simp [go_sem, QT.nf d12, hw8]) ⟨_, rfl, rfl, Below.refl _ _⟩⟩
    | 7, ho =>
      obtain rfl := (Option.some.inj ho).symm
      have d13 : a.eval (.tmp 13) = .int .u8 j := hdep _ (Array.mem_of_getElem? (i := 0) rfl) rfl _ _ rfl rfl
      exact ⟨rfl, wp_slice1 56 5 (.tmp 13) rfl _ Try.underlying56 infoU _ d13 rfl ⟨_, rfl, ⟨_, rfl, by simp⟩, (Below.refl _ _).alloc (Nat.le_refl _) _⟩⟩
    | 8, ho =>
      obtain rfl := (Option.some.inj ho).symm
      have d14 : ((.cell (.int .u8 j)) : Fact).holds (a.eval (.tmp 14)) wz := hdep _ (Array.mem_of_getElem? (i := 0) rfl) rfl _ _ rfl rfl
      obtain ⟨g, d, hc⟩ := d14
      exact ⟨rfl, QT.wp_value (v := .string J) (by have := HCV.out wz g hc; simp [go_sem, QT.nf d, this]) ⟨_, rfl, rfl, Below.refl _ _⟩⟩
    | 9, ho =>
      obtain rfl := (Option.some.inj ho).symm
      have d8 : a.eval (.tmp 8) = .string S := hdep _ (Array.mem_of_getElem? (i := 0) rfl) rfl _ _ rfl rfl
      have d15 : a.eval (.tmp 15) = .string J := hdep _ (Array.mem_of_getElem? (i := 1) rfl) rfl _ _ rfl rfl
      exact ⟨rfl, QT.wp_enter (f := 71) (args := #[.string secretT, .string S, .string J]) (by simp [go_sem, QT.nf d8, QT.nf d15]) (HTW.out wz) fun w' hb => ⟨_, rfl, rfl, hb⟩⟩
    | 10, ho =>
      obtain rfl := (Option.some.inj ho).symm
      have d16 : a.eval (.tmp 16) = .agg D := hdep _ (Array.mem_of_getElem? (i := 0) rfl) rfl _ _ rfl rfl
      exact ⟨rfl, QT.wp_enter (f := 33) (args := #[.agg D]) (by simp [go_sem, QT.nf d16]) (HBR.out wz) fun w' hb => ⟨_, rfl, rfl, hb⟩⟩
    | 11, ho =>
      obtain rfl := (Option.some.inj ho).symm
      have d17 : a.eval (.tmp 17) = .string R := hdep _ (Array.mem_of_getElem? (i := 0) rfl) rfl _ _ rfl rfl
      exact ⟨rfl, QT.wp_value (BigFrame.run_assign (.tmp 17) rfl wz) ⟨_, rfl, d17, Below.refl _ _⟩⟩
    | n + 12, ho => simp at ho
  · have f0 : a.eval (.tmp 7) = .agg C := hf 0 _ _ rfl rfl
    have f1 : a.eval (.tmp 8) = .string S := hf 1 _ _ rfl rfl
    have f2 : a.eval (.tmp 9) = .int .i64 i := hf 2 _ _ rfl rfl
    have f3 : a.eval (.tmp 10) = .int .i64 i2 := hf 3 _ _ rfl rfl
    have f4 : a.eval (.tmp 11) = .int .i64 k := hf 4 _ _ rfl rfl
    have f5 : a.eval (.tmp 12) = .int .i64 j := hf 5 _ _ rfl rfl
    have f6 : a.eval (.tmp 13) = .int .u8 j := hf 6 _ _ rfl rfl
    have f7' : ((.cell (.int .u8 j)) : Fact).holds (a.eval (.tmp 14)) wz := hf 7 _ _ rfl rfl
    obtain ⟨q7, f7, _⟩ := f7'
    have f8 : a.eval (.tmp 15) = .string J := hf 8 _ _ rfl rfl
    have f9 : a.eval (.tmp 16) = .agg D := hf 9 _ _ rfl rfl
    have f10 : a.eval (.tmp 17) = .string R := hf 10 _ _ rfl rfl
    have f11 : a.eval (.tmp 6) = .string R := hf 11 _ _ rfl rfl
    have ha := hag.puts [(7, .agg C), (8, .string S), (9, .int .i64 i), (10, .int .i64 i2), (11, .int .i64 k), (12, .int .i64 j), (13, .int .u8 j), (14, .slice (some ⟨q7, 0, none⟩) 1 1), (15, .string J), (16, .agg D), (17, .string R), (6, .string R)] rfl (by simp) (by simp only [List.forall_mem_cons, List.not_mem_nil, false_implies, implies_true, and_true]; exact ⟨f0, f1, f2, f3, f4, f5, f6, f7, f8, f9, f10, f11⟩)
    subst ha
    clear hag hf f0 f1 f2 f3 f4 f5 f6 f7 f8 f9 f10 f11
    simp only [List.foldl_cons, List.foldl_nil, Act.put, List.setIfInBounds_toArray, List.set_cons_succ, List.set_cons_zero]
    go_wp2_with fail
    go_ret
    exact ⟨rfl, HG.out ▸ HBW.out.trans (hI.mono (Nat.le_of_lt HL0.out))⟩

set_option maxRecDepth 100000 in
set_option maxHeartbeats 1600000 in
theorem ref_bit (m : List UInt8) (hm : m.length = 32) (i : Nat) (hi : i < 16) (w : World) :
    Calls Try.prog 61 #[.agg (valsB m).toArray, .int .i64 i] w fun e w' => e = .returned (.int .i64 (bitF m i)) ∧ Below w.heap.size w w' := by
  have hg0 : m[0]? = some (m.getD 0 0) := by
    rw [List.getD_eq_getElem?_getD, List.getElem?_eq_getElem (by omega)]
    rfl
  have hg1 : m[1]? = some (m.getD 1 0) := by
    rw [List.getD_eq_getElem?_getD, List.getElem?_eq_getElem (by omega)]
    rfl
  have hc0 := valsB_get m 0 _ hg0
  have hc1 := valsB_get m 1 _ hg1
  have hb0 := (m.getD 0 0).toNat_lt
  have hb1 := (m.getD 1 0).toNat_lt
  have hbf : bitF m i = ((m.getD 0 0).toNat * 256 + (m.getD 1 0).toNat) / 2 ^ (15 - i) % 2 := rfl
  obtain ⟨x, hx⟩ : ∃ x, bitF m i = x := ⟨_, rfl⟩
  rw [hx] at hbf
  rw [hx]
  obtain ⟨p, hp⟩ : ∃ b, (m.getD 0 0).toNat = b := ⟨_, rfl⟩
  obtain ⟨q, hq⟩ : ∃ b, (m.getD 1 0).toNat = b := ⟨_, rfl⟩
  rw [hp] at hc0 hb0 hbf
  rw [hq] at hc1 hb1 hbf
  obtain ⟨C, hC⟩ : ∃ C, (valsB m).toArray = C := ⟨_, rfl⟩
  rw [hC] at hc0 hc1
  rw [hC]
  obtain ⟨N, hN⟩ : ∃ N, p * 256 + q = N := ⟨_, rfl⟩
  rw [hN] at hbf
  have hNi : (p : Int) * 256 + (q : Int) = (N : Int) := by omega
  have hN16 : N < 65536 := by omega
  have HBF := Lib.hid hbf
  clear hg0 hg1 hx hp hq hC hN hbf
  go_enter Try.func61, Try.ntmps61
  go_wp2_with fail
  go_loopw [5, 6] (fun nv iv wr => ∃ k : Nat, i ≤ k ∧ k ≤ 15 ∧ iv = .int .i64 k ∧ nv = .int .i64 ((N / 2 ^ (15 - k) : Nat) : Int) ∧ Below w.heap.size w wr) (fun _ iv _ => (intOf iv).toNat)
  case atStart => exact ⟨15, by omega, by omega, rfl, by simp, (Below.refl _ _).alloc (Nat.le_refl _) _⟩
  case round =>
    obtain ⟨k, hik, hk, rfl, rfl, hbel⟩ := hrel
    have HBEL := Lib.hid hbel
    clear hbel
    have hle : N / 2 ^ (15 - k) ≤ N := Nat.div_le_self _ _
    by_cases hlt : i < k
    · have hst : N / 2 ^ (15 - k) / 2 = N / 2 ^ (15 - (k - 1)) := by
        rw [Nat.div_div_eq_div_mul, show 15 - (k - 1) = (15 - k) + 1 by omega, Nat.pow_succ]
      obtain ⟨v, hv⟩ : ∃ v, N / 2 ^ (15 - k) = v := ⟨_, rfl⟩
      rw [hv] at hst hle
      rw [hv]
      have HST := Lib.hid hst
      have hki : (i : Int) < (k : Int) := by omega
      clear hst hv
      go_wp2_with fail
      go_roundw
      case rel => exact ⟨k - 1, by omega, by omega, by congr 1; omega, by rw [← HST.out]; congr 1, HBEL.out⟩
      case measure => simp [intOf]; omega
    · obtain rfl : k = i := by omega
      obtain ⟨v, hv⟩ : ∃ v, N / 2 ^ (15 - k) = v := ⟨_, rfl⟩
      rw [hv] at hle
      rw [hv]
      have HV := Lib.hid (show x = v % 2 by rw [HBF.out, hv])
      have hvi : (v : Int) % 2 = (x : Int) := by have := HV.out; omega
      clear hv
      go_wp2_with fail
      go_ret
      exact ⟨congrArg (fun z => Ending.returned (Value.int .i64 z)) hvi, HBEL.out⟩

end Go.Proofs.Ytpifjeghoapjbaa.Once

namespace Go.Proofs.Ytpifjeghoapjbaa.Once
open Go.RowKit Go.Proofs.Ytpifjeghoapjbaa.Sha Go.Proofs.Ytpifjeghoapjbaa.Tree

theorem mk_append (a b : List UInt8) : (⟨a.toArray⟩ : ByteArray) ++ ⟨b.toArray⟩ = ⟨(a ++ b).toArray⟩ := by
  apply ByteArray.ext
  simp
theorem keyA_mk (f : Nat → List UInt8 × List UInt8) (k : Nat) : (⟨(keyA f k).toArray⟩ : ByteArray) ++ ⟨(f k).1.toArray⟩ ++ ⟨(f k).2.toArray⟩ = ⟨(keyA f (k + 1)).toArray⟩ := by
  rw [mk_append, mk_append]
  show _ = (⟨(keyA f k ++ ((f k).1 ++ (f k).2)).toArray⟩ : ByteArray)
  rw [List.append_assoc]
theorem ref_mark_l (l : List UInt8) (hl : l.length = 32) (w : World) :
    Calls Try.prog 59 #[.string ⟨l.toArray⟩] w fun e w' => e = .returned (.string ⟨(markF l).toArray⟩) ∧ Below w.heap.size w w' :=
  ref_mark ⟨l.toArray⟩ (text_len l hl) w

set_option maxRecDepth 100000 in
set_option maxHeartbeats 1600000 in
theorem ref_once (K : List UInt8) (hK : K.length ≤ 5000) (w : World) :
    Calls Try.prog 32 #[.string onceT, .string ⟨K.toArray⟩] w fun e w' => e = .returned (.agg (valsB (onceF K)).toArray) ∧ Below w.heap.size w w' := by
  have hz : (⟨K.toArray⟩ : ByteArray).size ≤ 5000 := by rw [size_mk]; exact hK
  have hrl := rowL_one onceT ⟨K.toArray⟩ (by decide) hz
  have HO := Lib.hid (fun (w : World) => refOf_any onceT (.slice (some ⟨w.heap.size, 0, none⟩) 1 1) [⟨K.toArray⟩] _ (texts_one w ⟨K.toArray⟩) (by decide) (fun s h => by simp at h; subst h; omega) (by omega) (by simp))
  rw [show shaS ⟨(rowL onceT [⟨K.toArray⟩]).toArray⟩ = onceF K from rfl] at HO
  obtain ⟨A, hA⟩ : ∃ A : ByteArray, (⟨K.toArray⟩ : ByteArray) = A := ⟨_, rfl⟩
  simp only [hA] at HO
  rw [hA]
  clear hA hz hrl hK
  go_enter Try.func32, Try.ntmps32
  go_upto_region 1 with (fail)
  rw [zero32]
  obtain ⟨Z, hZ⟩ : ∃ Z, (List.replicate 32 (Value.int .u8 0)).toArray = Z := ⟨_, rfl⟩
  have HZS := Lib.hid (show Z.size = 32 by rw [← hZ]; rfl)
  rw [hZ]
  clear hZ
  have hz0 : w.heap.size < (w.alloc (.cells Z 23)).heap.size := by simp
  have HZ := Lib.hid (heap_alloc_new w (.cells Z 23))
  have HBW := Lib.hid (show Below w.heap.size w (w.alloc (.cells Z 23)) from (Below.refl _ _).alloc (Nat.le_refl _) _)
  generalize w.alloc (.cells Z 23) = W at hz0 HZ HBW ⊢
  go_wp2_with fail
  refine (HO.out W).mono ?_
  rintro e w2 ⟨rfl, hb2⟩
  have hb : Below W.heap.size W w2 := ((Below.refl _ _).alloc (Nat.le_refl _) _).trans (hb2.mono (by simp))
  have HZ2 := Lib.hid ((hb.block _ hz0).trans HZ.out)
  have HB2 := Lib.hid (HBW.out.trans (hb.mono (Nat.le_of_lt hz0)))
  clear hb hb2
  obtain ⟨D, hD⟩ : ∃ D, (valsB (onceF K)).toArray = D := ⟨_, rfl⟩
  have HD := Lib.hid hD
  have HRD := Lib.hid (show Row32 D by rw [← hD]; exact row32 _ rfl)
  have HZD := Lib.hid (show Z.size = D.size by rw [HZS.out, HRD.out.size])
  rw [hD]
  clear hD
  go_wp2_with (refine wpList_store_row rfl 23 (.tmp 4) (.tmp 8) rfl w.heap.size D rfl rfl 23 Z HZ2.out HRD.out.info HZD.out HRD.out.one ?_)
  refine bodyPost_ret (results_cell_row (p := 4) (ty := 23) Try.results32 _ _ w.heap.size 23 D (0, 0) _ rfl (setRow_heap _ _ _ _ _ _ HZ2.out) Try.underlying23 rfl HRD.out.info) rfl ⟨by rw [HD.out], below_setRow HB2.out (by omega) _⟩

set_option maxRecDepth 100000 in
set_option maxHeartbeats 3200000 in
theorem ref_Public (seed : List UInt8) (hs : seed.length = 32) (w : World) :
    Calls Try.prog 43 #[.agg (valsB seed).toArray] w fun e w' => e = .returned (.agg (valsB (pubK seed)).toArray) ∧ Below w.heap.size w w' := by
  have HSEC := Lib.hid (fun i k hi hk w => ref_secret seed hs i k hi hk w)
  have HMK := Lib.hid (fun j w => ref_mark_l (secF seed j) rfl w)
  have HON := Lib.hid (fun w => ref_once (keyA (pubF seed) 16) (by rw [keyA_len _ (pubF_len seed)]; decide) w)
  rw [show onceF (keyA (pubF seed) 16) = pubK seed from rfl] at HON
  have HRC := Lib.hid (row32 seed hs)
  have HRD := Lib.hid (row32 (pubK seed) rfl)
  have HKM := Lib.hid (fun k => keyA_mk (pubF seed) k)
  obtain ⟨C, hC⟩ : ∃ C, (valsB seed).toArray = C := ⟨_, rfl⟩
  rw [hC] at HSEC HRC
  rw [hC]
  obtain ⟨D, hD⟩ : ∃ C, (valsB (pubK seed)).toArray = C := ⟨_, rfl⟩
  rw [hD] at HON HRD
  rw [hD]
  clear hC hD
  go_enter Try.func43, Try.ntmps43
  go_upto_region 1 with (fail)
  rw [zero32]
  obtain ⟨Z, hZ⟩ : ∃ Z, (List.replicate 32 (Value.int .u8 0)).toArray = Z := ⟨_, rfl⟩
  have HZD := Lib.hid (show Z.size = D.size by rw [← hZ, HRD.out.size]; rfl)
  rw [hZ]
  clear hZ
  have hs0 : ((w.alloc (.cells C 23)).alloc (.cells Z 23)).heap.size = w.heap.size + 2 := by simp
  have HC := Lib.hid (heap_alloc2_old w (.cells C 23) (.cells Z 23))
  have HZ := Lib.hid (heap_alloc2_new w (.cells C 23) (.cells Z 23))
  have HBW := Lib.hid (show Below w.heap.size w ((w.alloc (.cells C 23)).alloc (.cells Z 23)) from ((Below.refl _ _).alloc (Nat.le_refl _) _).alloc (by simp) _)
  generalize (w.alloc (.cells C 23)).alloc (.cells Z 23) = W at hs0 HC HZ HBW ⊢
  obtain ⟨g0, hg0⟩ : ∃ x, w.heap.size = x := ⟨_, rfl⟩
  obtain ⟨g1, hg1⟩ : ∃ x, g0 + 1 = x := ⟨_, rfl⟩
  rw [hg0] at hs0 HC HZ HBW
  rw [hg1] at HZ
  rw [hg0, hg1]
  have HG := Lib.hid hg0
  have HS := Lib.hid (show g0 < W.heap.size ∧ g1 < W.heap.size ∧ g0 ≤ g1 by omega)
  clear hg0 hg1 hs0
  go_wp2_with fail
  go_loopw [3, 4] (fun sv iv wr => ∃ k : Nat, k ≤ 16 ∧ iv = .int .i64 k ∧ sv = .string ⟨(keyA (pubF seed) k).toArray⟩ ∧ Below W.heap.size W wr) (fun _ iv _ => 16 - (intOf iv).toNat)
  case atStart => exact ⟨0, by omega, rfl, rfl, Below.refl _ _⟩
  case round =>
    obtain ⟨k, hk, rfl, rfl, hbel⟩ := hrel
    have HBEL := Lib.hid hbel
    have H0 := Lib.hid ((hbel.block g0 HS.out.1).trans HC.out)
    have HL0 := Lib.hid (Nat.lt_of_lt_of_le HS.out.1 hbel.size)
    clear hbel
    by_cases hlt : k < 16
    · have HS0 := Lib.hid (fun w => HSEC.out k 0 hlt (by omega) w)
      have HS1 := Lib.hid (fun w => HSEC.out k 1 hlt (by omega) w)
      have HM0 := Lib.hid (fun w => HMK.out (2 * k) w)
      have HM1 := Lib.hid (fun w => HMK.out (2 * k + 1) w)
      have HKK := HKM.out k
      rw [show pubF seed k = (markF (secF seed (2 * k)), markF (secF seed (2 * k + 1))) from rfl] at HKK
      rw [Nat.add_zero] at HS0
      obtain ⟨S0, hS0⟩ : ∃ S : ByteArray, (⟨(secF seed (2 * k)).toArray⟩ : ByteArray) = S := ⟨_, rfl⟩
      obtain ⟨S1, hS1⟩ : ∃ S : ByteArray, (⟨(secF seed (2 * k + 1)).toArray⟩ : ByteArray) = S := ⟨_, rfl⟩
      obtain ⟨M0, hM0⟩ : ∃ S : ByteArray, (⟨(markF (secF seed (2 * k))).toArray⟩ : ByteArray) = S := ⟨_, rfl⟩
      obtain ⟨M1, hM1⟩ : ∃ S : ByteArray, (⟨(markF (secF seed (2 * k + 1))).toArray⟩ : ByteArray) = S := ⟨_, rfl⟩
      obtain ⟨K, hK⟩ : ∃ S : ByteArray, (⟨(keyA (pubF seed) k).toArray⟩ : ByteArray) = S := ⟨_, rfl⟩
      dsimp only at HKK
      have hzk : K.size = 64 * k := by rw [← hK, size_mk, keyA_len _ (pubF_len seed)]
      have hzm : M0.size = 32 := by rw [← hM0]; exact text_len _ rfl
      have hzn : M1.size = 32 := by rw [← hM1]; exact text_len _ rfl
      have hz1 : K.size + M0.size ≤ 9223372036854775807 := by omega
      have hz2 : K.size + M0.size + M1.size ≤ 9223372036854775807 := by omega
      clear hzk hzm hzn
      rw [hM0, hM1, hK] at HKK
      rw [hS0] at HS0
      rw [hS1] at HS1
      rw [hS0, hM0] at HM0
      rw [hS1, hM1] at HM1
      rw [hK]
      have HKF := Lib.hid HKK
      have hki : (k : Int) < 16 := by omega
      clear hS0 hS1 hM0 hM1 hK HKK
      go_wp2_with fail
      refine QT.wp_region_facts_tail 11 (by kernel_rfl) (fun w' => Below wr.heap.size wr w') (fun n v w' => (([.val (.string K), .val (.agg C), .val (.int .i64 k), .val (.string S0), .val (.string M0), .val (.string (K ++ M0)), .val (.agg C), .val (.int .i64 k), .val (.string S1), .val (.string M1), .val (.string (K ++ M0 ++ M1))] : List Fact).getD n (.val undef) : Fact).holds v w') (by kernel_rfl) (by kernel_rfl) (Below.refl _ _).drew (fun w1 w2 h1 hb => h1.trans (hb.mono h1.size)) (fun n v w1 w2 h hb => Fact.kept _ v w1 w2 h hb) (fun n o hn ho a wz hI hag hdep => ?_) (fun a wz hI hag hf => ?_)
      · have t3 : a.eval (.tmp 3) = .string K := hag.old 3 _ (by kernel_rfl) rfl
        have t4 : a.eval (.tmp 4) = .int .i64 k := hag.old 4 _ (by kernel_rfl) rfl
        have t1 : a.eval (.tmp 1) = .pointer (some ⟨g0, 0, none⟩) := hag.old 1 _ (by kernel_rfl) rfl
        match n, ho with
        | 0, ho =>
          obtain rfl := (Option.some.inj ho).symm
          exact ⟨rfl, QT.wp_value (BigFrame.run_move (.tmp 3) rfl wz) ⟨_, rfl, t3, Below.refl _ _⟩⟩
        | 1, ho =>
          obtain rfl := (Option.some.inj ho).symm
          exact ⟨rfl, wp_load_row 23 (.tmp 1) rfl g0 t1 23 C (0, 0) _ ((hI.block g0 HL0.out).trans H0.out) Try.underlying23 rfl HRC.out.info ⟨_, rfl, rfl, Below.refl _ _⟩⟩
        | 2, ho =>
          obtain rfl := (Option.some.inj ho).symm
          exact ⟨rfl, QT.wp_value (BigFrame.run_move (.tmp 4) rfl wz) ⟨_, rfl, t4, Below.refl _ _⟩⟩
        | 3, ho =>
          obtain rfl := (Option.some.inj ho).symm
          have d10 : a.eval (.tmp 10) = .agg C := hdep _ (Array.mem_of_getElem? (i := 0) rfl) rfl _ _ rfl rfl
          have d11 : a.eval (.tmp 11) = .int .i64 k := hdep _ (Array.mem_of_getElem? (i := 1) rfl) rfl _ _ rfl rfl
          exact ⟨rfl, QT.wp_enter (f := 60) (args := #[.agg C, .int .i64 k, .int .i64 0]) (by simp [go_sem, QT.nf d10, QT.nf d11]) (HS0.out wz) fun w' hb => ⟨_, rfl, rfl, hb⟩⟩
        | 4, ho =>
          obtain rfl := (Option.some.inj ho).symm
          have d12 : a.eval (.tmp 12) = .string S0 := hdep _ (Array.mem_of_getElem? (i := 0) rfl) rfl _ _ rfl rfl
          exact ⟨rfl, QT.wp_enter (f := 59) (args := #[.string S0]) (by simp [go_sem, QT.nf d12]) (HM0.out wz) fun w' hb => ⟨_, rfl, rfl, hb⟩⟩
        | 5, ho =>
          obtain rfl := (Option.some.inj ho).symm
          have d9 : a.eval (.tmp 9) = .string K := hdep _ (Array.mem_of_getElem? (i := 0) rfl) rfl _ _ rfl rfl
          have d13 : a.eval (.tmp 13) = .string M0 := hdep _ (Array.mem_of_getElem? (i := 1) rfl) rfl _ _ rfl rfl
          exact ⟨rfl, QT.wp_value (v := .string (K ++ M0)) (by simp [go_sem, QT.nf d9, QT.nf d13, hz1]) ⟨_, rfl, rfl, Below.refl _ _⟩⟩
        | 6, ho =>
          obtain rfl := (Option.some.inj ho).symm
          exact ⟨rfl, wp_load_row 23 (.tmp 1) rfl g0 t1 23 C (0, 0) _ ((hI.block g0 HL0.out).trans H0.out) Try.underlying23 rfl HRC.out.info ⟨_, rfl, rfl, Below.refl _ _⟩⟩
        | 7, ho =>
          obtain rfl := (Option.some.inj ho).symm
          exact ⟨rfl, QT.wp_value (BigFrame.run_move (.tmp 4) rfl wz) ⟨_, rfl, t4, Below.refl _ _⟩⟩
        | 8, ho =>
          obtain rfl := (Option.some.inj ho).symm
          have d15 : a.eval (.tmp 15) = .agg C := hdep _ (Array.mem_of_getElem? (i := 0) rfl) rfl _ _ rfl rfl
          have d16 : a.eval (.tmp 16) = .int .i64 k := hdep _ (Array.mem_of_getElem? (i := 1) rfl) rfl _ _ rfl rfl
          exact ⟨rfl, QT.wp_enter (f := 60) (args := #[.agg C, .int .i64 k, .int .i64 1]) (by simp [go_sem, QT.nf d15, QT.nf d16]) (HS1.out wz) fun w' hb => ⟨_, rfl, rfl, hb⟩⟩
        | 9, ho =>
          obtain rfl := (Option.some.inj ho).symm
          have d17 : a.eval (.tmp 17) = .string S1 := hdep _ (Array.mem_of_getElem? (i := 0) rfl) rfl _ _ rfl rfl
          exact ⟨rfl, QT.wp_enter (f := 59) (args := #[.string S1]) (by simp [go_sem, QT.nf d17]) (HM1.out wz) fun w' hb => ⟨_, rfl, rfl, hb⟩⟩
        | 10, ho =>
          obtain rfl := (Option.some.inj ho).symm
          have d14 : a.eval (.tmp 14) = .string (K ++ M0) := hdep _ (Array.mem_of_getElem? (i := 0) rfl) rfl _ _ rfl rfl
          have d18 : a.eval (.tmp 18) = .string M1 := hdep _ (Array.mem_of_getElem? (i := 1) rfl) rfl _ _ rfl rfl
          exact ⟨rfl, QT.wp_value (v := .string (K ++ M0 ++ M1)) (by simp [go_sem, QT.nf d14, QT.nf d18, hz2]) ⟨_, rfl, rfl, Below.refl _ _⟩⟩
        | n + 11, ho => omega
      · have f0 : a.eval (.tmp 9) = .string K := hf 0 _ _ (by omega) rfl rfl
        have f1 : a.eval (.tmp 10) = .agg C := hf 1 _ _ (by omega) rfl rfl
        have f2 : a.eval (.tmp 11) = .int .i64 k := hf 2 _ _ (by omega) rfl rfl
        have f3 : a.eval (.tmp 12) = .string S0 := hf 3 _ _ (by omega) rfl rfl
        have f4 : a.eval (.tmp 13) = .string M0 := hf 4 _ _ (by omega) rfl rfl
        have f5 : a.eval (.tmp 14) = .string (K ++ M0) := hf 5 _ _ (by omega) rfl rfl
        have f6 : a.eval (.tmp 15) = .agg C := hf 6 _ _ (by omega) rfl rfl
        have f7 : a.eval (.tmp 16) = .int .i64 k := hf 7 _ _ (by omega) rfl rfl
        have f8 : a.eval (.tmp 17) = .string S1 := hf 8 _ _ (by omega) rfl rfl
        have f9 : a.eval (.tmp 18) = .string M1 := hf 9 _ _ (by omega) rfl rfl
        have f10 : a.eval (.tmp 19) = .string (K ++ M0 ++ M1) := hf 10 _ _ (by omega) rfl rfl
        have ha := hag.puts [(9, .string K), (10, .agg C), (11, .int .i64 k), (12, .string S0), (13, .string M0), (14, .string (K ++ M0)), (15, .agg C), (16, .int .i64 k), (17, .string S1), (18, .string M1), (19, .string (K ++ M0 ++ M1))] rfl (by simp) (by simp only [List.forall_mem_cons, List.not_mem_nil, false_implies, implies_true, and_true]; exact ⟨f0, f1, f2, f3, f4, f5, f6, f7, f8, f9, f10⟩)
        subst ha
        clear hag hf f0 f1 f2 f3 f4 f5 f6 f7 f8 f9 f10
        simp only [List.foldl_cons, List.foldl_nil, Act.put, List.drop_succ_cons, List.drop_zero, List.setIfInBounds_toArray, List.set_cons_succ, List.set_cons_zero]
        have HI := Lib.hid hI
        clear hI
        go_wp2_with fail
        go_roundw
        case rel => exact ⟨k + 1, by omega, by go_num, by rw [HKF.out], HBEL.out.trans (HI.out.mono HBEL.out.size)⟩
        case measure => simp [intOf]; omega
    · obtain rfl : k = 16 := by omega
      obtain ⟨K, hK⟩ : ∃ S : ByteArray, (⟨(keyA (pubF seed) 16).toArray⟩ : ByteArray) = S := ⟨_, rfl⟩
      rw [hK] at HON
      rw [hK]
      clear hK
      go_wp2_with fail
      refine (HON.out _).mono ?_
      rintro e w4 ⟨rfl, hb⟩
      have hb2 : Below W.heap.size W w4 := HBEL.out.trans (hb.mono HBEL.out.size)
      have HZ2 := Lib.hid ((hb2.block _ HS.out.2.1).trans HZ.out)
      have HB2 := Lib.hid (HBW.out.trans (hb2.mono (Nat.le_of_lt HS.out.1)))
      clear hb hb2
      go_wp2_with (refine wpList_store_row rfl 23 (.tmp 2) (.tmp 21) rfl g1 D rfl rfl 23 Z HZ2.out HRD.out.info HZD.out HRD.out.one ?_)
      refine bodyPost_ret (results_cell_row (p := 2) (ty := 23) Try.results43 _ _ g1 23 D (0, 0) _ rfl (setRow_heap _ _ _ _ _ _ HZ2.out) Try.underlying23 rfl HRD.out.info) rfl ⟨rfl, HG.out ▸ below_setRow HB2.out HS.out.2.2 _⟩

set_option maxRecDepth 100000 in
set_option maxHeartbeats 3200000 in
theorem ref_Sign (seed m : List UInt8) (hs : seed.length = 32) (hm : m.length = 32) (w : World) :
    Calls Try.prog 44 #[.agg (valsB seed).toArray, .agg (valsB m).toArray] w fun e w' => e = .returned (.string ⟨(signK seed m).toArray⟩) ∧ Below w.heap.size w w' := by
  have HSEC := Lib.hid (fun i k hi hk w => ref_secret seed hs i k hi hk w)
  have HMK := Lib.hid (fun j w => ref_mark_l (secF seed j) rfl w)
  have HBIT := Lib.hid (fun i hi w => ref_bit m hm i hi w)
  have HBL := Lib.hid (fun k => bitF_lt m k)
  have HRC := Lib.hid (row32 seed hs)
  have HRM := Lib.hid (row32 m hm)
  have HKM := Lib.hid (fun k => keyA_mk (signF seed m) k)
  obtain ⟨C, hC⟩ : ∃ C, (valsB seed).toArray = C := ⟨_, rfl⟩
  obtain ⟨CM, hCM⟩ : ∃ C, (valsB m).toArray = C := ⟨_, rfl⟩
  rw [hC] at HSEC HRC
  rw [hCM] at HBIT HRM
  rw [hC, hCM]
  clear hC hCM
  go_enter Try.func44, Try.ntmps44
  go_upto_region 1 with (fail)
  have hs0 : ((w.alloc (.cells C 23)).alloc (.cells CM 23)).heap.size = w.heap.size + 2 := by simp
  have HC := Lib.hid (heap_alloc2_old w (.cells C 23) (.cells CM 23))
  have HM := Lib.hid (heap_alloc2_new w (.cells C 23) (.cells CM 23))
  have HBW := Lib.hid (show Below w.heap.size w ((w.alloc (.cells C 23)).alloc (.cells CM 23)) from ((Below.refl _ _).alloc (Nat.le_refl _) _).alloc (by simp) _)
  generalize (w.alloc (.cells C 23)).alloc (.cells CM 23) = W at hs0 HC HM HBW ⊢
  obtain ⟨g0, hg0⟩ : ∃ x, w.heap.size = x := ⟨_, rfl⟩
  obtain ⟨g1, hg1⟩ : ∃ x, g0 + 1 = x := ⟨_, rfl⟩
  rw [hg0] at hs0 HC HM HBW
  rw [hg1] at HM
  rw [hg0, hg1]
  have HG := Lib.hid hg0
  have HS := Lib.hid (show g0 < W.heap.size ∧ g1 < W.heap.size by omega)
  clear hg0 hg1 hs0
  go_wp2_with fail
  go_loopw [5, 6] (fun sv iv wr => ∃ k : Nat, k ≤ 16 ∧ iv = .int .i64 k ∧ sv = .string ⟨(keyA (signF seed m) k).toArray⟩ ∧ Below W.heap.size W wr) (fun _ iv _ => 16 - (intOf iv).toNat)
  case atStart => exact ⟨0, by omega, rfl, rfl, Below.refl _ _⟩
  case round =>
    obtain ⟨k, hk, rfl, rfl, hbel⟩ := hrel
    have HBEL := Lib.hid hbel
    have H1 := Lib.hid ((hbel.block g1 HS.out.2).trans HM.out)
    clear hbel
    by_cases hlt : k < 16
    · have HBI := Lib.hid (fun w => HBIT.out k hlt w)
      have hx2 := HBL.out k
      have HKK := HKM.out k
      rw [show signF seed m k = (secF seed (2 * k + bitF m k), markF (secF seed (2 * k + (1 - bitF m k)))) from rfl] at HKK
      obtain ⟨x, hx⟩ : ∃ x, bitF m k = x := ⟨_, rfl⟩
      obtain ⟨y, hy⟩ : ∃ y, 1 - x = y := ⟨_, rfl⟩
      rw [hx] at HBI hx2 HKK
      rw [hy] at HKK
      have HSX := Lib.hid (fun w => HSEC.out k x hlt hx2 w)
      have HSY := Lib.hid (fun w => HSEC.out k y hlt (by omega) w)
      have HMY := Lib.hid (fun w => HMK.out (2 * k + y) w)
      obtain ⟨SX, hSX⟩ : ∃ S : ByteArray, (⟨(secF seed (2 * k + x)).toArray⟩ : ByteArray) = S := ⟨_, rfl⟩
      obtain ⟨SY, hSY⟩ : ∃ S : ByteArray, (⟨(secF seed (2 * k + y)).toArray⟩ : ByteArray) = S := ⟨_, rfl⟩
      obtain ⟨MY, hMY⟩ : ∃ S : ByteArray, (⟨(markF (secF seed (2 * k + y))).toArray⟩ : ByteArray) = S := ⟨_, rfl⟩
      obtain ⟨K, hK⟩ : ∃ S : ByteArray, (⟨(keyA (signF seed m) k).toArray⟩ : ByteArray) = S := ⟨_, rfl⟩
      dsimp only at HKK
      have hzk : K.size = 64 * k := by rw [← hK, size_mk, keyA_len _ (signF_len seed m)]
      have hzm : SX.size = 32 := by rw [← hSX]; exact text_len _ rfl
      have hzn : MY.size = 32 := by rw [← hMY]; exact text_len _ rfl
      have hz1 : K.size + SX.size ≤ 9223372036854775807 := by omega
      have hz2 : K.size + SX.size + MY.size ≤ 9223372036854775807 := by omega
      clear hzk hzm hzn
      rw [hSX, hMY, hK] at HKK
      rw [hSX] at HSX
      rw [hSY] at HSY
      rw [hSY, hMY] at HMY
      rw [hK]
      have HKF := Lib.hid HKK
      have hki : (k : Int) < 16 := by omega
      have hxy : (1 : Int) - (x : Int) = (y : Int) := by omega
      have hwy : IntKind.i64.wrap (y : Int) = (y : Int) := by unfold IntKind.wrap; simp [IntKind.bits, IntKind.signed]; omega
      clear hSX hSY hMY hK HKK hx hy hx2
      go_wp2_with (refine wpList_load_row rfl 23 (.tmp 3) rfl g1 rfl 23 CM (0, 0) _ H1.out Try.underlying23 rfl HRM.out.info ?_)
      refine (HBI.out _).mono ?_
      rintro e w5 ⟨rfl, hb5⟩
      have HB5 := Lib.hid (HBEL.out.trans (hb5.mono HBEL.out.size))
      have H0 := Lib.hid ((HB5.out.block g0 HS.out.1).trans HC.out)
      have HL0 := Lib.hid (Nat.lt_of_lt_of_le HS.out.1 HB5.out.size)
      clear hb5
      go_wp2_with fail
      refine QT.wp_region_facts_tail 13 (by kernel_rfl) (fun w' => Below w5.heap.size w5 w') (fun n v w' => (([.val (.string K), .val (.agg C), .val (.int .i64 k), .val (.int .i64 x), .val (.string SX), .val (.string (K ++ SX)), .val (.agg C), .val (.int .i64 k), .val (.int .i64 x), .val (.int .i64 y), .val (.string SY), .val (.string MY), .val (.string (K ++ SX ++ MY))] : List Fact).getD n (.val undef) : Fact).holds v w') (by kernel_rfl) (by kernel_rfl) (Below.refl _ _).drew (fun w1 w2 h1 hb => h1.trans (hb.mono h1.size)) (fun n v w1 w2 h hb => Fact.kept _ v w1 w2 h hb) (fun n o hn ho a wz hI hag hdep => ?_) (fun a wz hI hag hf => ?_)
      · have t5 : a.eval (.tmp 5) = .string K := hag.old 5 _ (by kernel_rfl) rfl
        have t6 : a.eval (.tmp 6) = .int .i64 k := hag.old 6 _ (by kernel_rfl) rfl
        have t7 : a.eval (.tmp 7) = .int .i64 x := hag.old 7 _ (by kernel_rfl) rfl
        have t2 : a.eval (.tmp 2) = .pointer (some ⟨g0, 0, none⟩) := hag.old 2 _ (by kernel_rfl) rfl
        match n, ho with
        | 0, ho =>
          obtain rfl := (Option.some.inj ho).symm
          exact ⟨rfl, QT.wp_value (BigFrame.run_move (.tmp 5) rfl wz) ⟨_, rfl, t5, Below.refl _ _⟩⟩
        | 1, ho =>
          obtain rfl := (Option.some.inj ho).symm
          exact ⟨rfl, wp_load_row 23 (.tmp 2) rfl g0 t2 23 C (0, 0) _ ((hI.block g0 HL0.out).trans H0.out) Try.underlying23 rfl HRC.out.info ⟨_, rfl, rfl, Below.refl _ _⟩⟩
        | 2, ho =>
          obtain rfl := (Option.some.inj ho).symm
          exact ⟨rfl, QT.wp_value (BigFrame.run_move (.tmp 6) rfl wz) ⟨_, rfl, t6, Below.refl _ _⟩⟩
        | 3, ho =>
          obtain rfl := (Option.some.inj ho).symm
          exact ⟨rfl, QT.wp_value (BigFrame.run_move (.tmp 7) rfl wz) ⟨_, rfl, t7, Below.refl _ _⟩⟩
        | 4, ho =>
          obtain rfl := (Option.some.inj ho).symm
          have d16 : a.eval (.tmp 16) = .agg C := hdep _ (Array.mem_of_getElem? (i := 0) rfl) rfl _ _ rfl rfl
          have d17 : a.eval (.tmp 17) = .int .i64 k := hdep _ (Array.mem_of_getElem? (i := 1) rfl) rfl _ _ rfl rfl
          have d18 : a.eval (.tmp 18) = .int .i64 x := hdep _ (Array.mem_of_getElem? (i := 2) rfl) rfl _ _ rfl rfl
          exact ⟨rfl, QT.wp_enter (f := 60) (args := #[.agg C, .int .i64 k, .int .i64 x]) (by simp [go_sem, QT.nf d16, QT.nf d17, QT.nf d18]) (HSX.out wz) fun w' hb => ⟨_, rfl, rfl, hb⟩⟩
        | 5, ho =>
          obtain rfl := (Option.some.inj ho).symm
          have d15 : a.eval (.tmp 15) = .string K := hdep _ (Array.mem_of_getElem? (i := 0) rfl) rfl _ _ rfl rfl
          have d19 : a.eval (.tmp 19) = .string SX := hdep _ (Array.mem_of_getElem? (i := 1) rfl) rfl _ _ rfl rfl
          exact ⟨rfl, QT.wp_value (v := .string (K ++ SX)) (by simp [go_sem, QT.nf d15, QT.nf d19, hz1]) ⟨_, rfl, rfl, Below.refl _ _⟩⟩
        | 6, ho =>
          obtain rfl := (Option.some.inj ho).symm
          exact ⟨rfl, wp_load_row 23 (.tmp 2) rfl g0 t2 23 C (0, 0) _ ((hI.block g0 HL0.out).trans H0.out) Try.underlying23 rfl HRC.out.info ⟨_, rfl, rfl, Below.refl _ _⟩⟩
        | 7, ho =>
          obtain rfl := (Option.some.inj ho).symm
          exact ⟨rfl, QT.wp_value (BigFrame.run_move (.tmp 6) rfl wz) ⟨_, rfl, t6, Below.refl _ _⟩⟩
        | 8, ho =>
          obtain rfl := (Option.some.inj ho).symm
          exact ⟨rfl, QT.wp_value (BigFrame.run_move (.tmp 7) rfl wz) ⟨_, rfl, t7, Below.refl _ _⟩⟩
        | 9, ho =>
          obtain rfl := (Option.some.inj ho).symm
          have d23 : a.eval (.tmp 23) = .int .i64 x := hdep _ (Array.mem_of_getElem? (i := 0) rfl) rfl _ _ rfl rfl
          exact ⟨rfl, QT.wp_value (v := .int .i64 y) (by simp [go_sem, QT.nf d23, hxy, hwy]) ⟨_, rfl, rfl, Below.refl _ _⟩⟩
        | 10, ho =>
          obtain rfl := (Option.some.inj ho).symm
          have d21 : a.eval (.tmp 21) = .agg C := hdep _ (Array.mem_of_getElem? (i := 0) rfl) rfl _ _ rfl rfl
          have d22 : a.eval (.tmp 22) = .int .i64 k := hdep _ (Array.mem_of_getElem? (i := 1) rfl) rfl _ _ rfl rfl
          have d24 : a.eval (.tmp 24) = .int .i64 y := hdep _ (Array.mem_of_getElem? (i := 2) rfl) rfl _ _ rfl rfl
          exact ⟨rfl, QT.wp_enter (f := 60) (args := #[.agg C, .int .i64 k, .int .i64 y]) (by simp [go_sem, QT.nf d21, QT.nf d22, QT.nf d24]) (HSY.out wz) fun w' hb => ⟨_, rfl, rfl, hb⟩⟩
        | 11, ho =>
          obtain rfl := (Option.some.inj ho).symm
          have d25 : a.eval (.tmp 25) = .string SY := hdep _ (Array.mem_of_getElem? (i := 0) rfl) rfl _ _ rfl rfl
          exact ⟨rfl, QT.wp_enter (f := 59) (args := #[.string SY]) (by simp [go_sem, QT.nf d25]) (HMY.out wz) fun w' hb => ⟨_, rfl, rfl, hb⟩⟩
        | 12, ho =>
          obtain rfl := (Option.some.inj ho).symm
          have d20 : a.eval (.tmp 20) = .string (K ++ SX) := hdep _ (Array.mem_of_getElem? (i := 0) rfl) rfl _ _ rfl rfl
          have d26 : a.eval (.tmp 26) = .string MY := hdep _ (Array.mem_of_getElem? (i := 1) rfl) rfl _ _ rfl rfl
          exact ⟨rfl, QT.wp_value (v := .string (K ++ SX ++ MY)) (by simp [go_sem, QT.nf d20, QT.nf d26, hz2]) ⟨_, rfl, rfl, Below.refl _ _⟩⟩
        | n + 13, ho => omega
      · have f0 : a.eval (.tmp 15) = .string K := hf 0 _ _ (by omega) rfl rfl
        have f1 : a.eval (.tmp 16) = .agg C := hf 1 _ _ (by omega) rfl rfl
        have f2 : a.eval (.tmp 17) = .int .i64 k := hf 2 _ _ (by omega) rfl rfl
        have f3 : a.eval (.tmp 18) = .int .i64 x := hf 3 _ _ (by omega) rfl rfl
        have f4 : a.eval (.tmp 19) = .string SX := hf 4 _ _ (by omega) rfl rfl
        have f5 : a.eval (.tmp 20) = .string (K ++ SX) := hf 5 _ _ (by omega) rfl rfl
        have f6 : a.eval (.tmp 21) = .agg C := hf 6 _ _ (by omega) rfl rfl
        have f7 : a.eval (.tmp 22) = .int .i64 k := hf 7 _ _ (by omega) rfl rfl
        have f8 : a.eval (.tmp 23) = .int .i64 x := hf 8 _ _ (by omega) rfl rfl
        have f9 : a.eval (.tmp 24) = .int .i64 y := hf 9 _ _ (by omega) rfl rfl
        have f10 : a.eval (.tmp 25) = .string SY := hf 10 _ _ (by omega) rfl rfl
        have f11 : a.eval (.tmp 26) = .string MY := hf 11 _ _ (by omega) rfl rfl
        have f12 : a.eval (.tmp 27) = .string (K ++ SX ++ MY) := hf 12 _ _ (by omega) rfl rfl
        have ha := hag.puts [(15, .string K), (16, .agg C), (17, .int .i64 k), (18, .int .i64 x), (19, .string SX), (20, .string (K ++ SX)), (21, .agg C), (22, .int .i64 k), (23, .int .i64 x), (24, .int .i64 y), (25, .string SY), (26, .string MY), (27, .string (K ++ SX ++ MY))] rfl (by simp) (by simp only [List.forall_mem_cons, List.not_mem_nil, false_implies, implies_true, and_true]; exact ⟨f0, f1, f2, f3, f4, f5, f6, f7, f8, f9, f10, f11, f12⟩)
        subst ha
        clear hag hf f0 f1 f2 f3 f4 f5 f6 f7 f8 f9 f10 f11 f12
        simp only [List.foldl_cons, List.foldl_nil, Act.put, List.drop_succ_cons, List.drop_zero, List.setIfInBounds_toArray, List.set_cons_succ, List.set_cons_zero]
        have HI := Lib.hid hI
        clear hI
        go_wp2_with fail
        go_roundw
        case rel => exact ⟨k + 1, by omega, by go_num, by rw [HKF.out], HB5.out.trans (HI.out.mono HB5.out.size)⟩
        case measure => simp [intOf]; omega
    · obtain rfl : k = 16 := by omega
      rw [show keyA (signF seed m) 16 = signK seed m from rfl]
      obtain ⟨K, hK⟩ : ∃ S : ByteArray, (⟨(signK seed m).toArray⟩ : ByteArray) = S := ⟨_, rfl⟩
      rw [hK]
      have HKE := Lib.hid hK
      clear hK
      go_wp2_with fail
      go_ret
      exact ⟨by rw [HKE.out]; rfl, HG.out ▸ HBW.out.trans (HBEL.out.mono (Nat.le_of_lt HS.out.1))⟩

end Go.Proofs.Ytpifjeghoapjbaa.Once

namespace Go.Proofs.Ytpifjeghoapjbaa.Once
open Go.RowKit Go.Proofs.Ytpifjeghoapjbaa.Sha Go.Proofs.Ytpifjeghoapjbaa.Tree

theorem halfA_ex (sig : ByteArray) (i : Nat) : (sig.extract (64 * i) (64 * i + 32)).data.toList = halfA sig.data.toList i := by
  rw [Lib.extract_data]
  unfold halfA
  congr 1
  omega
theorem halfB_ex (sig : ByteArray) (i : Nat) : (sig.extract (64 * i + 32) (64 * i + 64)).data.toList = halfB sig.data.toList i := by
  rw [Lib.extract_data]
  unfold halfB
  congr 1
  omega

set_option maxRecDepth 100000 in
set_option maxHeartbeats 3200000 in
theorem ref_Tells_no (m : List UInt8) (sig : ByteArray) (hsz : sig.size ≠ 1024) (w : World) :
    Calls Try.prog 48 #[.agg (valsB m).toArray, .string sig] w fun e w' => e = .returned (.tuple #[.agg zeroB, .int .i64 6]) ∧ Below w.heap.size w w' := by
  obtain ⟨CM, hCM⟩ : ∃ C, (valsB m).toArray = C := ⟨_, rfl⟩
  rw [hCM]
  have hlen : ((sig.size : Int) != 1024) = true := by simp; omega
  clear hCM hsz
  go_enter Try.func48, Try.ntmps48
  go_upto_region 1 with (fail)
  rw [zero32]
  obtain ⟨Z, hZ⟩ : ∃ Z, (List.replicate 32 (Value.int .u8 0)).toArray = Z := ⟨_, rfl⟩
  have HZS := Lib.hid (show Z.size = 32 by rw [← hZ]; rfl)
  rw [hZ]
  clear hZ
  have HZ := Lib.hid (heap_alloc2_new w (.cells CM 23) (.cells Z 23))
  have HB := Lib.hid (show Below w.heap.size w ((w.alloc (.cells CM 23)).alloc (.cells Z 23)) from ((Below.refl _ _).alloc (Nat.le_refl _) _).alloc (by simp) _)
  generalize (w.alloc (.cells CM 23)).alloc (.cells Z 23) = W at HZ HB ⊢
  have HZD := Lib.hid (show Z.size = zeroB.size by rw [HZS.out]; rfl)
  go_wp2_with (first | (refine wpList_build_as rfl 23 _ rfl zeroB (by kernel_rfl) ?_) | (refine wpList_store_row rfl 23 (.tmp 4) (.tmp 13) rfl (w.heap.size + 1) zeroB rfl rfl 23 Z HZ.out zeroB_info HZD.out zeroB_one ?_))
  refine bodyPost_ret (Sha.results_cell_tmp (p := 4) (t := 5) (ty := 23) Try.results48 _ _ (w.heap.size + 1) 23 zeroB (0, 0) _ _ rfl rfl (setRow_heap _ _ _ _ _ _ HZ.out) Try.underlying23 rfl zeroB_info) rfl ⟨rfl, below_setRow HB.out (by omega) _⟩

set_option maxRecDepth 100000 in
set_option maxHeartbeats 3200000 in
theorem ref_Tells (m : List UInt8) (hm : m.length = 32) (sig : ByteArray) (hsz : sig.size = 1024) (w : World) :
    Calls Try.prog 48 #[.agg (valsB m).toArray, .string sig] w fun e w' => e = .returned (.tuple #[.agg (valsB (tellK m sig.data.toList)).toArray, .int .i64 0]) ∧ Below w.heap.size w w' := by
  have hls : sig.data.toList.length = 1024 := by rw [list_size, hsz]
  have HBIT := Lib.hid (fun i hi w => ref_bit m hm i hi w)
  have HBL := Lib.hid (fun k => bitF_lt m k)
  have HRM := Lib.hid (row32 m hm)
  have HTL := Lib.hid (fun i hi => tellF_len m sig.data.toList hls i hi)
  have HKL := Lib.hid (fun k hk => keyA_len_le (tellF m sig.data.toList) 16 (fun i hi => tellF_len m _ hls i hi) k hk)
  have HON := Lib.hid (fun w => ref_once (keyA (tellF m sig.data.toList) 16) (by rw [keyA_len_le _ 16 (fun i hi => tellF_len m _ hls i hi) 16 (Nat.le_refl _)]; decide) w)
  rw [show onceF (keyA (tellF m sig.data.toList) 16) = tellK m sig.data.toList from rfl] at HON
  have HRD := Lib.hid (row32 (tellK m sig.data.toList) rfl)
  have HKM := Lib.hid (fun k => keyA_mk (tellF m sig.data.toList) k)
  have HA := Lib.hid (fun i => halfA_ex sig i)
  have HB := Lib.hid (fun i => halfB_ex sig i)
  obtain ⟨CM, hCM⟩ : ∃ C, (valsB m).toArray = C := ⟨_, rfl⟩
  rw [hCM] at HBIT HRM
  rw [hCM]
  obtain ⟨D, hD⟩ : ∃ C, (valsB (tellK m sig.data.toList)).toArray = C := ⟨_, rfl⟩
  rw [hD] at HON HRD
  rw [hD]
  have hlen : ((sig.size : Int) != 1024) = false := by simp; omega
  have HSZ := Lib.hid hsz
  clear hCM hD hls
  go_enter Try.func48, Try.ntmps48
  go_upto_region 1 with (fail)
  rw [zero32]
  obtain ⟨Z, hZ⟩ : ∃ Z, (List.replicate 32 (Value.int .u8 0)).toArray = Z := ⟨_, rfl⟩
  have HZD := Lib.hid (show Z.size = D.size by rw [← hZ, HRD.out.size]; rfl)
  rw [hZ]
  clear hZ
  have hs0 : ((w.alloc (.cells CM 23)).alloc (.cells Z 23)).heap.size = w.heap.size + 2 := by simp
  have HC := Lib.hid (heap_alloc2_old w (.cells CM 23) (.cells Z 23))
  have HZ := Lib.hid (heap_alloc2_new w (.cells CM 23) (.cells Z 23))
  have HBW := Lib.hid (show Below w.heap.size w ((w.alloc (.cells CM 23)).alloc (.cells Z 23)) from ((Below.refl _ _).alloc (Nat.le_refl _) _).alloc (by simp) _)
  generalize (w.alloc (.cells CM 23)).alloc (.cells Z 23) = W at hs0 HC HZ HBW ⊢
  obtain ⟨g0, hg0⟩ : ∃ x, w.heap.size = x := ⟨_, rfl⟩
  obtain ⟨g1, hg1⟩ : ∃ x, g0 + 1 = x := ⟨_, rfl⟩
  rw [hg0] at hs0 HC HZ HBW
  rw [hg1] at HZ
  rw [hg0, hg1]
  have HG := Lib.hid hg0
  have HS := Lib.hid (show g0 < W.heap.size ∧ g1 < W.heap.size ∧ g0 ≤ g1 by omega)
  clear hg0 hg1 hs0
  go_wp2_with fail
  go_loopw [6, 7] (fun sv iv wr => ∃ k : Nat, k ≤ 16 ∧ iv = .int .i64 k ∧ sv = .string ⟨(keyA (tellF m sig.data.toList) k).toArray⟩ ∧ Below W.heap.size W wr) (fun _ iv _ => 16 - (intOf iv).toNat)
  case atStart => exact ⟨0, by omega, rfl, rfl, Below.refl _ _⟩
  case round =>
    obtain ⟨k, hk, rfl, rfl, hbel⟩ := hrel
    have HBEL := Lib.hid hbel
    clear hbel
    by_cases hlt : k < 16
    · have HBI := Lib.hid (fun w => HBIT.out k hlt w)
      have hx2 := HBL.out k
      have HKK := HKM.out k
      have hkl := HKL.out k hk
      have hA := HA.out k
      have hB := HB.out k
      have hAs : (sig.extract (64 * k) (64 * k + 32)).size = 32 := by
        have h := extract_size sig (64 * k) (64 * k + 32) (by omega) (by rw [hsz]; omega)
        omega
      have hBs : (sig.extract (64 * k + 32) (64 * k + 64)).size = 32 := by
        have h := extract_size sig (64 * k + 32) (64 * k + 64) (by omega) (by rw [hsz]; omega)
        omega
      have HMK := Lib.hid (fun w => ref_mark (sig.extract (64 * k) (64 * k + 32)) hAs w)
      obtain ⟨j, hj⟩ : ∃ x, 64 * k = x := ⟨_, rfl⟩
      obtain ⟨j1, hj1⟩ : ∃ x, j + 32 = x := ⟨_, rfl⟩
      obtain ⟨j2, hj2⟩ : ∃ x, j + 64 = x := ⟨_, rfl⟩
      rw [hj, hj1] at hA hAs HMK
      rw [hj, hj1, hj2] at hB hBs
      obtain ⟨PA, hPA⟩ : ∃ x, sig.extract j j1 = x := ⟨_, rfl⟩
      obtain ⟨PB, hPB⟩ : ∃ x, sig.extract j1 j2 = x := ⟨_, rfl⟩
      rw [hPA] at hA hAs HMK
      rw [hPB] at hB hBs
      rw [hA] at HMK
      have hPBm : (⟨(halfB sig.data.toList k).toArray⟩ : ByteArray) = PB := by rw [← hB]
      have hms : (⟨(markF (halfA sig.data.toList k)).toArray⟩ : ByteArray).size = 32 := text_len _ rfl
      have htf : tellF m sig.data.toList k = if bitF m k = 0 then (markF (halfA sig.data.toList k), halfB sig.data.toList k) else (halfB sig.data.toList k, markF (halfA sig.data.toList k)) := rfl
      obtain ⟨MA, hMA⟩ : ∃ x : ByteArray, (⟨(markF (halfA sig.data.toList k)).toArray⟩ : ByteArray) = x := ⟨_, rfl⟩
      rw [hMA] at HMK hms
      obtain ⟨x, hx⟩ : ∃ x, bitF m k = x := ⟨_, rfl⟩
      rw [hx] at HBI hx2 htf
      rw [htf] at HKK
      have hzk : (⟨(keyA (tellF m sig.data.toList) k).toArray⟩ : ByteArray).size = 64 * k := by rw [size_mk, hkl]
      obtain ⟨K, hK⟩ : ∃ S : ByteArray, (⟨(keyA (tellF m sig.data.toList) k).toArray⟩ : ByteArray) = S := ⟨_, rfl⟩
      rw [hK] at HKK hzk
      rw [hK]
      have hki : (k : Int) < 16 := by omega
      have hji : (64 : Int) * (k : Int) = (j : Int) := by omega
      have hj1i : (j : Int) + 32 = (j1 : Int) := by omega
      have hj2i : (j : Int) + 64 = (j2 : Int) := by omega
      have hj0 : (0 : Int) ≤ (j : Int) := by omega
      have hjj1 : (j : Int) ≤ (j1 : Int) := by omega
      have hj10 : (0 : Int) ≤ (j1 : Int) := by omega
      have hj12 : (j1 : Int) ≤ (j2 : Int) := by omega
      have hj1s : (j1 : Int) ≤ 1024 := by omega
      have hj2s : (j2 : Int) ≤ 1024 := by omega
      have hc0 : ∀ w', Below W.heap.size W w' → w'.heap[g0]? = some (.cells CM 23 (0, 0)) := fun w' hb => (hb.block g0 HS.out.1).trans HC.out
      have HC0 := Lib.hid hc0
      have hz1 : K.size + MA.size ≤ 9223372036854775807 := by omega
      have hz2 : K.size + MA.size + PB.size ≤ 9223372036854775807 := by omega
      have hz3 : K.size + PB.size ≤ 9223372036854775807 := by omega
      have hz4 : K.size + PB.size + MA.size ≤ 9223372036854775807 := by omega
      have hxx : x = 0 ∨ x = 1 := by omega
      have HKF := Lib.hid (show (x = 0 → K ++ MA ++ PB = ⟨(keyA (tellF m sig.data.toList) (k + 1)).toArray⟩) ∧ (x = 1 → K ++ PB ++ MA = ⟨(keyA (tellF m sig.data.toList) (k + 1)).toArray⟩) from ⟨fun h => by
        rw [if_pos h] at HKK
        dsimp only at HKK
        rw [hMA, hPBm] at HKK
        exact HKK, fun h => by
        rw [if_neg (by omega)] at HKK
        dsimp only at HKK
        rw [hMA, hPBm] at HKK
        exact HKK⟩)
      clear hK HKK hzk hms hAs hBs hA hB hj hj1 hj2 hPBm hMA htf hx hx2 hkl hc0
      go_wp2_with fail
      refine (HMK.out _).mono ?_
      rintro e w3 ⟨rfl, hb3⟩
      have HB3 := Lib.hid (HBEL.out.trans (hb3.mono HBEL.out.size))
      have H03 := Lib.hid (HC0.out _ HB3.out)
      clear hb3
      go_wp2_with (refine wpList_load_row rfl 23 (.tmp 2) rfl g0 rfl 23 CM (0, 0) _ H03.out Try.underlying23 rfl HRM.out.info ?_)
      refine (HBI.out _).mono ?_
      rintro e w4 ⟨rfl, hb4⟩
      have HB4 := Lib.hid (HB3.out.trans (hb4.mono HB3.out.size))
      clear hb4
      rcases hxx with rfl | rfl
      · go_wp2_with fail
        go_roundw
        case rel => exact ⟨k + 1, by omega, by go_num, by rw [HKF.out.1 (by simp)], HB4.out⟩
        case measure => simp [intOf]; omega
      · go_wp2_with fail
        go_roundw
        case rel => exact ⟨k + 1, by omega, by go_num, by rw [HKF.out.2 (by simp)], HB4.out⟩
        case measure => simp [intOf]; omega
    · obtain rfl : k = 16 := by omega
      obtain ⟨K, hK⟩ : ∃ S : ByteArray, (⟨(keyA (tellF m sig.data.toList) 16).toArray⟩ : ByteArray) = S := ⟨_, rfl⟩
      rw [hK] at HON
      rw [hK]
      clear hK
      go_wp2_with fail
      refine (HON.out _).mono ?_
      rintro e w4 ⟨rfl, hb⟩
      have hb2 : Below W.heap.size W w4 := HBEL.out.trans (hb.mono HBEL.out.size)
      have HZ2 := Lib.hid ((hb2.block _ HS.out.2.1).trans HZ.out)
      have HB2 := Lib.hid (HBW.out.trans (hb2.mono (Nat.le_of_lt HS.out.1)))
      clear hb hb2
      go_wp2_with (refine wpList_store_row rfl 23 (.tmp 4) (.tmp 49) rfl g1 D rfl rfl 23 Z HZ2.out HRD.out.info HZD.out HRD.out.one ?_)
      refine bodyPost_ret (Sha.results_cell_tmp (p := 4) (t := 5) (ty := 23) Try.results48 _ _ g1 23 D (0, 0) _ _ rfl rfl (setRow_heap _ _ _ _ _ _ HZ2.out) Try.underlying23 rfl HRD.out.info) rfl ⟨rfl, HG.out ▸ below_setRow HB2.out HS.out.2.2 _⟩

theorem ref_TellsA (m : List UInt8) (hm : m.length = 32) (sig : ByteArray) (w : World) :
    Calls Try.prog 48 #[.agg (valsB m).toArray, .string sig] w fun e w' => e = .returned (.tuple #[.agg (valsB (tellsH m sig)).toArray, .int .i64 (tellsE sig)]) ∧ Below w.heap.size w w' := by
  by_cases h : sig.size = 1024
  · rw [show tellsH m sig = tellK m sig.data.toList from if_pos h, show tellsE sig = 0 from if_pos h]
    exact ref_Tells m hm sig h w
  · rw [show tellsH m sig = List.replicate 32 0 from if_neg h, show tellsE sig = 6 from if_neg h]
    exact ref_Tells_no m sig h w

end Go.Proofs.Ytpifjeghoapjbaa.Once
