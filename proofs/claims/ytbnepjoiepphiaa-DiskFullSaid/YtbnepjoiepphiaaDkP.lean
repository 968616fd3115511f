/- disk: DiskKnown, DiskFull. -/
import Derived.Test.YtbnepjoiepphiaaDkO
namespace Go.Proofs.Ytbnepjoiepphiaa.Dk
open Go.RowKit Go.Proofs.Ytbnepjoiepphiaa.Gr

abbrev tDe : ByteArray := ⟨#[100, 101]⟩
abbrev tFg : ByteArray := ⟨#[102, 103]⟩
abbrev tAll : ByteArray := ⟨#[97, 98, 99, 100, 0, 102, 103]⟩
def kR (s : ByteArray) : List ByteArray := rowF 0 s
def K1 : St := ⟨rowF 0 abc, E64, [⟨0, 0, false, abc⟩], true, -1, 1⟩
def K2 : St := ⟨rowF 0 abc, rowF 0 abc, [], true, -1, 2⟩
def K3 : St := ⟨rowF 0 (abc ++ tDe), rowF 0 abc, [⟨0, 3, false, tDe⟩], true, -1, 3⟩
def K4 : St := ⟨rowF 0 (abc ++ tDe ++ tFg), rowF 0 abc, [⟨0, 3, false, tDe⟩, ⟨0, 5, false, tFg⟩], true, -1, 4⟩
def K5 : St := ⟨rowF 0 tAll, rowF 0 tAll, [], true, -1, 4⟩
def K6 : St := ⟨rowF 0 (tAll.extract 0 1), rowF 0 tAll, [⟨0, 1, true, ⟨#[]⟩⟩], true, -1, 5⟩
def K7 : St := ⟨rowF 0 tAll, rowF 0 tAll, [], true, -1, 5⟩
def K9 : St := ⟨rowF 0 tAll, rowF 0 tAll, [], true, 0, 5⟩
def K10 : St := ⟨rowF 0 tAll, rowF 0 tAll, [], false, 0, 6⟩
theorem k1 : appendS newS 0 abc = (0, K1) := by rfl
theorem k2 : syncerS K1 0 = (0, K2) := by rfl
theorem k3 : appendS K2 0 tDe = (0, K3) := by rfl
theorem k4 : appendS K3 0 tFg = (0, K4) := by rfl
theorem k5 : crashS K4 [1, 2] = K5 := by kernel_rfl
theorem k6 : cutterS K5 0 1 = (0, K6) := by rfl
theorem k7 : crashS K6 [] = K7 := by kernel_rfl
theorem k8 : cutterS K7 0 8 = (5, K7) := by rfl
theorem k9 : powerS K7 0 = (0, K9) := by rfl
theorem k10 : appendS K9 1 ⟨#[120]⟩ = (100, K10) := by rfl
theorem k11 : syncerS K10 1 = (100, K10) := by rfl
theorem k1s : sizeF K1 0 = 3 := by rfl
theorem k1r : readV K1 0 1 3 = (⟨#[]⟩, 5) := by rfl
theorem k5a : allS K5 0 = tAll := by rfl
theorem k7s : sizeF K7 0 = 7 := by rfl
theorem k10s : sizeF K10 1 = 0 := by rfl
theorem ki_two (w : World) : KI.At (w.alloc (.cells #[.int .i64 1, .int .i64 2] 3)) (.slice (some ⟨w.heap.size, 0, none⟩) 2 2) [1, 2] :=
  Or.inr ⟨w.heap.size, 0, 2, rfl, by simp, Nat.le_refl _, fun j u hj => by
    rw [Nat.zero_add, Lib.cell_of_heap (heap_alloc_new w _)]
    simp only [Kind.flat, KI, List.flatMap_cons, List.flatMap_nil, List.append_nil] at hj
    rw [← hj]
    simp⟩

set_option maxRecDepth 100000 in
set_option maxHeartbeats 6400000 in
theorem law_DiskKnown (w : World) : Calls Try.prog 3 #[] w fun e w' => e = .returned (.bool true) ∧ Below w.heap.size w w' := by
  have HW := Lib.hid works_any
  go_enter Try.func3, Try.ntmps3
  go_wp2_with fail
  refine (code_New _).mono ?_
  rintro e w0 ⟨rfl, hd0, hb0⟩
  obtain ⟨g, hg⟩ : ∃ g, w.heap.size = g := ⟨_, rfl⟩
  obtain ⟨B, hB⟩ : ∃ B, w.heap.size = B := ⟨_, rfl⟩
  have hB0 : w.heap.size ≤ w.heap.size := Nat.le_refl _
  have HM0 := Lib.hid (mine_new hd0 good_new hB0)
  have HS0 := Lib.hid (Nat.le_trans hB0 hb0.size)
  have HB0 := Lib.hid hb0
  rw [hB] at HM0 HS0 HB0
  rw [hB] at hg
  subst hg
  rw [hB]
  have HBB := Lib.hid hB
  clear hd0 hb0 hB0 hB
  go_wp2_with fail
  refine (HW.out _).mono ?_
  rintro e w1 ⟨rfl, hb⟩
  have HM1 := Lib.hid (HM0.out.below hb)
  have HS1 := Lib.hid (Nat.le_trans HS0.out hb.size)
  have HB1 := Lib.hid (HB0.out.trans (hb.mono HS0.out))
  clear hb HM0 HS0 HB0 HW
  go_wp2_with fail
  refine (HM1.out.appendTo (by decide) HS1.out k1).mono ?_
  rintro e w2 ⟨rfl, hb, lv2, hm⟩
  have HM2 := Lib.hid hm
  have HS2 := Lib.hid (Nat.le_trans HS1.out hb.size)
  have HB2 := Lib.hid (HB1.out.trans hb)
  clear hm hb HM1 HS1 HB1
  go_wp2_with fail
  refine (HM2.out.sizeTo k1s).mono ?_
  rintro e w' ⟨rfl, rfl⟩
  go_wp2_with fail
  refine (HM2.out.looseTo rfl).mono ?_
  rintro e w' ⟨rfl, rfl⟩
  go_wp2_with fail
  refine (HM2.out.opsTo rfl).mono ?_
  rintro e w' ⟨rfl, rfl⟩
  go_wp2_with fail
  refine (HM2.out.readTo k1r).mono ?_
  rintro e w' ⟨rfl, rfl⟩
  go_wp2_with fail
  refine (HM2.out.syncTo (by decide) HS2.out k2).mono ?_
  rintro e w3 ⟨rfl, hb, lv3, hm⟩
  have HM3 := Lib.hid hm
  have HS3 := Lib.hid (Nat.le_trans HS2.out hb.size)
  have HB3 := Lib.hid (HB2.out.trans hb)
  clear hm hb HM2 HS2 HB2
  go_wp2_with fail
  refine (HM3.out.appendTo (by decide) HS3.out k3).mono ?_
  rintro e w4 ⟨rfl, hb, lv4, hm⟩
  have HM4 := Lib.hid hm
  have HS4 := Lib.hid (Nat.le_trans HS3.out hb.size)
  have HB4 := Lib.hid (HB3.out.trans hb)
  clear hm hb HM3 HS3 HB3
  go_wp2_with fail
  refine (HM4.out.appendTo (by decide) HS4.out k4).mono ?_
  rintro e w5 ⟨rfl, hb, lv5, hm⟩
  have HM5 := Lib.hid hm
  have HS5 := Lib.hid (Nat.le_trans HS4.out hb.size)
  have HB5 := Lib.hid (HB4.out.trans hb)
  clear hm hb HM4 HS4 HB4
  go_wp2_with fail
  refine ((HM5.out.alloc (.cells #[.int .i64 1, .int .i64 2] 3)).crashTo (by decide) (by have := HS5.out; simp; omega) (ki_two w5) k5).mono ?_
  rintro e w6 ⟨rfl, hb, lv6, hm⟩
  have HM6 := Lib.hid hm
  have hb' := ((Below.refl B w5).alloc HS5.out (.cells #[.int .i64 1, .int .i64 2] 3)).trans hb
  have HS6 := Lib.hid (Nat.le_trans HS5.out hb'.size)
  have HB6 := Lib.hid (HB5.out.trans hb')
  clear hm hb hb' HM5 HS5 HB5
  go_wp2_with fail
  refine (HM6.out.allTo k5a).mono ?_
  rintro e w' ⟨rfl, rfl⟩
  go_wp2_with fail
  refine (HM6.out.cutTo (by decide) HS6.out k6).mono ?_
  rintro e w7 ⟨rfl, hb, lv7, hm⟩
  have HM7 := Lib.hid hm
  have HS7 := Lib.hid (Nat.le_trans HS6.out hb.size)
  have HB7 := Lib.hid (HB6.out.trans hb)
  clear hm hb HM6 HS6 HB6
  go_wp2_with fail
  refine (HM7.out.crashTo (by decide) HS7.out (Kind.At.nil _ _) k7).mono ?_
  rintro e w8 ⟨rfl, hb, lv8, hm⟩
  have HM8 := Lib.hid hm
  have HS8 := Lib.hid (Nat.le_trans HS7.out hb.size)
  have HB8 := Lib.hid (HB7.out.trans hb)
  clear hm hb HM7 HS7 HB7
  go_wp2_with fail
  refine (HM8.out.sizeTo k7s).mono ?_
  rintro e w' ⟨rfl, rfl⟩
  go_wp2_with fail
  refine (HM8.out.cutTo (by decide) HS8.out k8).mono ?_
  rintro e w9 ⟨rfl, hb, lv9, hm⟩
  have HM9 := Lib.hid hm
  have HS9 := Lib.hid (Nat.le_trans HS8.out hb.size)
  have HB9 := Lib.hid (HB8.out.trans hb)
  clear hm hb HM8 HS8 HB8
  go_wp2_with fail
  refine (HM9.out.powerTo HS9.out k9).mono ?_
  rintro e w10 ⟨rfl, hb, lv10, hm⟩
  have HM10 := Lib.hid hm
  have HS10 := Lib.hid (Nat.le_trans HS9.out hb.size)
  have HB10 := Lib.hid (HB9.out.trans hb)
  clear hm hb HM9 HS9 HB9
  go_wp2_with fail
  refine (HM10.out.appendTo (by decide) HS10.out k10).mono ?_
  rintro e w11 ⟨rfl, hb, lv11, hm⟩
  have HM11 := Lib.hid hm
  have HS11 := Lib.hid (Nat.le_trans HS10.out hb.size)
  have HB11 := Lib.hid (HB10.out.trans hb)
  clear hm hb HM10 HS10 HB10
  go_wp2_with fail
  refine (HM11.out.syncTo (by decide) HS11.out k11).mono ?_
  rintro e w12 ⟨rfl, hb, lv12, hm⟩
  have HM12 := Lib.hid hm
  have HS12 := Lib.hid (Nat.le_trans HS11.out hb.size)
  have HB12 := Lib.hid (HB11.out.trans hb)
  clear hm hb HM11 HS11 HB11
  go_wp2_with fail
  refine (HM12.out.sizeTo k10s).mono ?_
  rintro e w' ⟨rfl, rfl⟩
  go_wp2_with fail
  refine (HM12.out.onTo rfl).mono ?_
  rintro e w' ⟨rfl, rfl⟩
  clear HM12
  go_wp2_with fail
  refine (code_Read_nil _ _ _ _).mono ?_
  rintro e w' ⟨rfl, rfl⟩
  go_wp2_with fail
  refine (code_Append_nil _ _ _).mono ?_
  rintro e w' ⟨rfl, rfl⟩
  go_wp2_with fail
  refine (code_Cut_nil _ _ _).mono ?_
  rintro e w' ⟨rfl, rfl⟩
  go_wp2_with fail
  refine (code_Sync_nil _ _).mono ?_
  rintro e w13 ⟨rfl, hb⟩
  have HS13 := Lib.hid (Nat.le_trans HS12.out hb.size)
  have HB13 := Lib.hid (HB12.out.trans (hb.mono HS12.out))
  clear hb HS12 HB12
  go_wp2_with fail
  refine (code_Power_nil _ _).mono ?_
  rintro e w' ⟨rfl, rfl⟩
  go_wp2_with fail
  refine (code_Crash_nil _ _ _ _).mono ?_
  rintro e w14 ⟨rfl, hb⟩
  have HS14 := Lib.hid (Nat.le_trans HS13.out hb.size)
  have HB14 := Lib.hid (HB13.out.trans (hb.mono HS13.out))
  clear hb HS13 HB13
  go_wp2_with fail
  refine (code_On_nil _).mono ?_
  rintro e w' ⟨rfl, rfl⟩
  go_wp2_with fail
  refine (code_Ops_nil _).mono ?_
  rintro e w' ⟨rfl, rfl⟩
  go_wp2_with fail
  refine (code_Loose_nil _).mono ?_
  rintro e w' ⟨rfl, rfl⟩
  go_wp2_with fail
  refine (code_Size_nil _ _).mono ?_
  rintro e w' ⟨rfl, rfl⟩
  go_wp2_with fail
  refine (code_Copy_nil _).mono ?_
  rintro e w' ⟨rfl, rfl⟩
  go_wp2_with fail
  go_ret
  exact ⟨rfl, by rw [HBB.out]; exact HB14.out⟩

set_option maxRecDepth 100000 in
set_option maxHeartbeats 6400000 in
theorem full_low (n : Nat) (more : Int) (w : World) (h : more < 0) : Calls Try.prog 5 #[.int .u8 n, .int .i64 more] w fun e w' => e = .returned (.bool true) ∧ Below w.heap.size w w' := by
  have HW := Lib.hid (works_any w)
  go_enter Try.func5, Try.ntmps5
  go_wp2_with fail
  refine HW.out.mono ?_
  rintro e ww ⟨rfl, hbw⟩
  have HBW := Lib.hid hbw
  clear hbw
  go_wp2_with fail
  go_ret
  exact ⟨rfl, HBW.out⟩

set_option maxRecDepth 100000 in
set_option maxHeartbeats 6400000 in
theorem full_high (n : Nat) (more : Int) (w : World) (h : 1048581 < more) : Calls Try.prog 5 #[.int .u8 n, .int .i64 more] w fun e w' => e = .returned (.bool true) ∧ Below w.heap.size w w' := by
  have HW := Lib.hid (works_any w)
  have h0 : ¬ more < 0 := by omega
  go_enter Try.func5, Try.ntmps5
  go_wp2_with fail
  refine HW.out.mono ?_
  rintro e ww ⟨rfl, hbw⟩
  have HBW := Lib.hid hbw
  clear hbw
  go_wp2_with fail
  go_ret
  exact ⟨rfl, HBW.out⟩

set_option maxRecDepth 100000 in
set_option maxHeartbeats 6400000 in
theorem full_long (n m : Nat) (w : World) (hn : n ≤ 255) (h : n < m) (hm : m ≤ 1048581) : Calls Try.prog 5 #[.int .u8 n, .int .i64 m] w fun e w' => e = .returned (.bool true) ∧ Below w.heap.size w w' := by
  have HW := Lib.hid (works_any w)
  obtain ⟨F, hF⟩ : ∃ F : Nat, 1048576 - n = F := ⟨_, rfl⟩
  have hFi : (1048576 : Int) - (n : Int) = (F : Int) := by omega
  have hF1 : F ≤ 1048576 := by omega
  have hR1 := fun w => Try.strings_Repeat ⟨#[100]⟩ F w (by omega) (by show 1 * F ≤ _; omega)
  have hR2 := fun w => Try.strings_Repeat ⟨#[101]⟩ m w (by omega) (by show 1 * m ≤ _; omega)
  obtain ⟨r1, hr1⟩ : ∃ r : ByteArray, ⟨(Lib.repeatL (⟨#[100]⟩ : ByteArray).data.toList F).toArray⟩ = r := ⟨_, rfl⟩
  obtain ⟨r2, hr2⟩ : ∃ r : ByteArray, ⟨(Lib.repeatL (⟨#[101]⟩ : ByteArray).data.toList m).toArray⟩ = r := ⟨_, rfl⟩
  have hz1 : r1.size = F := by rw [← hr1]; show (Lib.repeatL _ F).toArray.size = F; rw [List.size_toArray, Lib.repeatL_length]; show F * 1 = F; omega
  have hz2 : r2.size = m := by rw [← hr2]; show (Lib.repeatL _ m).toArray.size = m; rw [List.size_toArray, Lib.repeatL_length]; show m * 1 = m; omega
  have HR1 := Lib.hid (fun w => show Calls Try.prog 26 #[.string ⟨#[100]⟩, .int .i64 F] w fun e w' => e = .returned (.string r1) ∧ Below w.heap.size w w' by rw [← hr1]; exact hR1 w)
  have HR2 := Lib.hid (fun w => show Calls Try.prog 26 #[.string ⟨#[101]⟩, .int .i64 m] w fun e w' => e = .returned (.string r2) ∧ Below w.heap.size w w' by rw [← hr2]; exact hR2 w)
  have HX1 := Lib.hid (show appendS newS 5 r1 = _ from app_new (f := 5) (by decide) r1 (by omega))
  have hm0 : ¬ (m : Int) < 0 := by omega
  have hm1 : ¬ (1048581 : Int) < (m : Int) := by omega
  have hn8 : (n : Int) ≤ 255 := by omega
  have HX2 := Lib.hid (show appendS ⟨rowF 5 r1, E64, [⟨5, 0, false, r1⟩], true, -1, 1⟩ 5 r2 = (3, ⟨rowF 5 r1, E64, [⟨5, 0, false, r1⟩], true, -1, 1⟩) by
    have h5 : errF true 5 = 0 := rfl
    unfold appendS
    rw [if_neg (by show ¬ errF true 5 ≠ 0; rw [h5]; simp)]
    show (if 1048576 - (((rowF 5 r1).getD 5 ⟨#[]⟩).size : Int) < r2.size then _ else _) = _
    rw [rowF_at (f := 5) (by decide), if_pos (by omega)])
  have HX3 := Lib.hid (show sizeF ⟨rowF 5 r1, E64, [⟨5, 0, false, r1⟩], true, -1, 1⟩ 5 = F by rw [← hz1]; exact size_row (f := 5) (by decide) r1 _ _ _ _ _)
  have hmn : (n : Int) < (m : Int) := by omega
  clear hz1 hz2 hr1 hr2 hR1 hR2 hF
  go_enter Try.func5, Try.ntmps5
  go_wp2_with fail
  refine HW.out.mono ?_
  rintro e ww ⟨rfl, hbw⟩
  have HBW := Lib.hid hbw
  clear hbw
  go_wp2_with fail
  refine (code_New _).mono ?_
  rintro e w0 ⟨rfl, hd0, hb0⟩
  obtain ⟨g, hg⟩ : ∃ g, ww.heap.size = g := ⟨_, rfl⟩
  obtain ⟨B, hB⟩ : ∃ B, w.heap.size = B := ⟨_, rfl⟩
  have hB0 : w.heap.size ≤ ww.heap.size := HBW.out.size
  have HM0 := Lib.hid (mine_new hd0 good_new hB0)
  have HS0 := Lib.hid (Nat.le_trans hB0 hb0.size)
  have HB0 := Lib.hid (HBW.out.trans (hb0.mono hB0))
  rw [hg] at HM0
  rw [hg]
  rw [hB] at HM0 HS0 HB0
  have HBB := Lib.hid hB
  clear hd0 hb0 hB0 hB hg HBW HW
  go_wp2_with fail
  refine (HR1.out _).mono ?_
  rintro e w1 ⟨rfl, hb⟩
  have HM1 := Lib.hid (HM0.out.below hb)
  have HS1 := Lib.hid (Nat.le_trans HS0.out hb.size)
  have HB1 := Lib.hid (HB0.out.trans (hb.mono HS0.out))
  clear hb HM0 HS0 HB0
  go_wp2_with fail
  refine (HM1.out.appendTo (by decide) HS1.out HX1.out).mono ?_
  rintro e w2 ⟨rfl, hb, lv2, hm⟩
  have HM2 := Lib.hid hm
  have HS2 := Lib.hid (Nat.le_trans HS1.out hb.size)
  have HB2 := Lib.hid (HB1.out.trans hb)
  clear hm hb HM1 HS1 HB1
  go_wp2_with fail
  refine (HR2.out _).mono ?_
  rintro e w3 ⟨rfl, hb⟩
  have HM3 := Lib.hid (HM2.out.below hb)
  have HS3 := Lib.hid (Nat.le_trans HS2.out hb.size)
  have HB3 := Lib.hid (HB2.out.trans (hb.mono HS2.out))
  clear hb HM2 HS2 HB2
  go_wp2_with fail
  refine (HM3.out.appendTo (by decide) HS3.out HX2.out).mono ?_
  rintro e w4 ⟨rfl, hb, lv4, hm⟩
  have HM4 := Lib.hid hm
  have HS4 := Lib.hid (Nat.le_trans HS3.out hb.size)
  have HB4 := Lib.hid (HB3.out.trans hb)
  clear hm hb HM3 HS3 HB3
  go_wp2_with fail
  refine (HM4.out.sizeTo HX3.out).mono ?_
  rintro e w' ⟨rfl, rfl⟩
  go_wp2_with fail
  refine (HM4.out.opsTo rfl).mono ?_
  rintro e w' ⟨rfl, rfl⟩
  go_wp2_with fail
  go_ret
  exact ⟨rfl, by rw [HBB.out]; exact HB4.out⟩

set_option maxRecDepth 100000 in
set_option maxHeartbeats 6400000 in
theorem full_short (n m : Nat) (w : World) (hn : n ≤ 255) (h : m ≤ n) : Calls Try.prog 5 #[.int .u8 n, .int .i64 m] w fun e w' => e = .returned (.bool true) ∧ Below w.heap.size w w' := by
  have HW := Lib.hid (works_any w)
  obtain ⟨F, hF⟩ : ∃ F : Nat, 1048576 - n = F := ⟨_, rfl⟩
  have hFi : (1048576 : Int) - (n : Int) = (F : Int) := by omega
  have hF1 : F ≤ 1048576 := by omega
  have hR1 := fun w => Try.strings_Repeat ⟨#[100]⟩ F w (by omega) (by show 1 * F ≤ _; omega)
  have hR2 := fun w => Try.strings_Repeat ⟨#[101]⟩ m w (by omega) (by show 1 * m ≤ _; omega)
  obtain ⟨r1, hr1⟩ : ∃ r : ByteArray, ⟨(Lib.repeatL (⟨#[100]⟩ : ByteArray).data.toList F).toArray⟩ = r := ⟨_, rfl⟩
  obtain ⟨r2, hr2⟩ : ∃ r : ByteArray, ⟨(Lib.repeatL (⟨#[101]⟩ : ByteArray).data.toList m).toArray⟩ = r := ⟨_, rfl⟩
  have hz1 : r1.size = F := by rw [← hr1]; show (Lib.repeatL _ F).toArray.size = F; rw [List.size_toArray, Lib.repeatL_length]; show F * 1 = F; omega
  have hz2 : r2.size = m := by rw [← hr2]; show (Lib.repeatL _ m).toArray.size = m; rw [List.size_toArray, Lib.repeatL_length]; show m * 1 = m; omega
  have HR1 := Lib.hid (fun w => show Calls Try.prog 26 #[.string ⟨#[100]⟩, .int .i64 F] w fun e w' => e = .returned (.string r1) ∧ Below w.heap.size w w' by rw [← hr1]; exact hR1 w)
  have HR2 := Lib.hid (fun w => show Calls Try.prog 26 #[.string ⟨#[101]⟩, .int .i64 m] w fun e w' => e = .returned (.string r2) ∧ Below w.heap.size w w' by rw [← hr2]; exact hR2 w)
  have HX1 := Lib.hid (show appendS newS 5 r1 = _ from app_new (f := 5) (by decide) r1 (by omega))
  have hm0 : ¬ (m : Int) < 0 := by omega
  have hm1 : ¬ (1048581 : Int) < (m : Int) := by omega
  have hn8 : (n : Int) ≤ 255 := by omega
  have HX2 := Lib.hid (show appendS ⟨rowF 5 r1, E64, [⟨5, 0, false, r1⟩], true, -1, 1⟩ 5 r2 = _ from app_row (f := 5) (by decide) r1 r2 E64 [⟨5, 0, false, r1⟩] 1 (by omega))
  have HX3 := Lib.hid (show sizeF ⟨rowF 5 (r1 ++ r2), E64, [⟨5, 0, false, r1⟩] ++ [⟨5, r1.size, false, r2⟩], true, -1, 1 + 1⟩ 5 = F + m by rw [← hz1, ← hz2, ← ByteArray.size_append]; exact size_row (f := 5) (by decide) _ _ _ _ _ _)
  have hmn : ¬ (n : Int) < (m : Int) := by omega
  have hFm : (F : Int) ≤ 1048576 := by omega
  have hmm : (m : Int) ≤ 255 := by omega
  clear hz1 hz2 hr1 hr2 hR1 hR2 hF
  go_enter Try.func5, Try.ntmps5
  go_wp2_with fail
  refine HW.out.mono ?_
  rintro e ww ⟨rfl, hbw⟩
  have HBW := Lib.hid hbw
  clear hbw
  go_wp2_with fail
  refine (code_New _).mono ?_
  rintro e w0 ⟨rfl, hd0, hb0⟩
  obtain ⟨g, hg⟩ : ∃ g, ww.heap.size = g := ⟨_, rfl⟩
  obtain ⟨B, hB⟩ : ∃ B, w.heap.size = B := ⟨_, rfl⟩
  have hB0 : w.heap.size ≤ ww.heap.size := HBW.out.size
  have HM0 := Lib.hid (mine_new hd0 good_new hB0)
  have HS0 := Lib.hid (Nat.le_trans hB0 hb0.size)
  have HB0 := Lib.hid (HBW.out.trans (hb0.mono hB0))
  rw [hg] at HM0
  rw [hg]
  rw [hB] at HM0 HS0 HB0
  have HBB := Lib.hid hB
  clear hd0 hb0 hB0 hB hg HBW HW
  go_wp2_with fail
  refine (HR1.out _).mono ?_
  rintro e w1 ⟨rfl, hb⟩
  have HM1 := Lib.hid (HM0.out.below hb)
  have HS1 := Lib.hid (Nat.le_trans HS0.out hb.size)
  have HB1 := Lib.hid (HB0.out.trans (hb.mono HS0.out))
  clear hb HM0 HS0 HB0
  go_wp2_with fail
  refine (HM1.out.appendTo (by decide) HS1.out HX1.out).mono ?_
  rintro e w2 ⟨rfl, hb, lv2, hm⟩
  have HM2 := Lib.hid hm
  have HS2 := Lib.hid (Nat.le_trans HS1.out hb.size)
  have HB2 := Lib.hid (HB1.out.trans hb)
  clear hm hb HM1 HS1 HB1
  go_wp2_with fail
  refine (HR2.out _).mono ?_
  rintro e w3 ⟨rfl, hb⟩
  have HM3 := Lib.hid (HM2.out.below hb)
  have HS3 := Lib.hid (Nat.le_trans HS2.out hb.size)
  have HB3 := Lib.hid (HB2.out.trans (hb.mono HS2.out))
  clear hb HM2 HS2 HB2
  go_wp2_with fail
  refine (HM3.out.appendTo (by decide) HS3.out HX2.out).mono ?_
  rintro e w4 ⟨rfl, hb, lv4, hm⟩
  have HM4 := Lib.hid hm
  have HS4 := Lib.hid (Nat.le_trans HS3.out hb.size)
  have HB4 := Lib.hid (HB3.out.trans hb)
  clear hm hb HM3 HS3 HB3
  go_wp2_with fail
  refine (HM4.out.sizeTo HX3.out).mono ?_
  rintro e w' ⟨rfl, rfl⟩
  go_wp2_with fail
  go_ret
  exact ⟨rfl, by rw [HBB.out]; exact HB4.out⟩

theorem law_DiskFull (a0 a1 : Int) (w0 : (Lit.int .u8 a0).wf = true) (_w1 : (Lit.int .i64 a1).wf = true) (w : World) :
    Calls Try.prog 5 #[.int .u8 a0, .int .i64 a1] w fun e w' => e = .returned (.bool true) ∧ Below w.heap.size w w' := by
  obtain ⟨n, rfl, hn⟩ : ∃ n : Nat, a0 = n ∧ n ≤ 255 := by
    simp [Lit.wf, IntKind.min, IntKind.max, IntKind.signed, IntKind.bits] at w0
    exact ⟨a0.toNat, by omega, by omega⟩
  by_cases h0 : a1 < 0
  · exact full_low n a1 w h0
  · by_cases h1 : 1048581 < a1
    · exact full_high n a1 w h1
    · obtain ⟨m, rfl⟩ : ∃ m : Nat, a1 = m := ⟨a1.toNat, by omega⟩
      by_cases h2 : n < m
      · exact full_long n m w hn h2 (by omega)
      · exact full_short n m w hn (by omega)
end Go.Proofs.Ytbnepjoiepphiaa.Dk
