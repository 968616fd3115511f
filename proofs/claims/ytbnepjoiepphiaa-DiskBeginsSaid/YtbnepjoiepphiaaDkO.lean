/- disk: DiskBegins. -/
import Derived.Test.YtbnepjoiepphiaaDkN
import Derived.Test.YtbnepjoiepphiaaShelf
import Derived.Deep.QuietTactic
import Derived.BigQuiet
import Derived.Deep.Cut
namespace Go.Proofs.Ytbnepjoiepphiaa.Dk
open Go.RowKit Go.Proofs.Ytbnepjoiepphiaa.Gr

theorem DAt.drewN {w : World} {g : Nat} {lv : Value} {S : St} (h : DAt w g lv S) (n : Nat) : DAt (w.drewN n) g lv S := ⟨h.heap, h.now, h.sure, h.own⟩
theorem Mine.allD {B n g : Nat} {w : World} {lv : Value} {S : St} (h : Mine B n w g lv S) {f : Int} {s : ByteArray} (hS : allS S f = s) (m : Nat) : Calls Try.prog 17 #[.pointer (some ⟨g, 0, none⟩), .int .i64 f] (w.drewN m) fun e w' => e = .returned (.string s) ∧ w' = w.drewN m := by
  rw [← hS]
  exact (code_all g lv S f _ (h.at_.drewN m) h.good.now).mono fun _ _ ⟨h1, h2⟩ => ⟨h1, h2.symm⟩
theorem below_drewN {B : Nat} {a w : World} (h : Below B a w) (n : Nat) : Below B a (w.drewN n) := ⟨h.os, h.tape, h.output, h.size, h.block⟩
/-- Numbers in a slice of one. -/
theorem ki_one (w : World) (x : Int) : KI.At (w.alloc (.cells #[.int .i64 x] 3)) (.slice (some ⟨w.heap.size, 0, none⟩) 1 1) [x] :=
  Or.inr ⟨w.heap.size, 0, 1, rfl, by simp, Nat.le_refl _, fun j u hj => by
    rw [Nat.zero_add, Lib.cell_of_heap (heap_alloc_new w _)]
    simp only [Kind.flat, KI, List.flatMap_cons, List.flatMap_nil, List.append_nil] at hj
    rw [← hj]
    simp⟩
theorem Mine.alloc {B n g : Nat} {w : World} {lv : Value} {S : St} (h : Mine B n w g lv S) (o : Obj) : Mine B n (w.alloc o) g lv S := h.below ((Below.refl _ _).alloc (Nat.le_refl _) o)
def gotU (s t : ByteArray) (k : Nat) : ByteArray := ⟨(s.data.toList ++ t.data.toList.take k).toArray⟩
theorem gotU_size (s t : ByteArray) (k : Nat) : (gotU s t k).size = s.size + min k t.size := by
  have hs : s.data.toList.length = s.size := by rw [Array.length_toList]; rfl
  have ht : t.data.toList.length = t.size := by rw [Array.length_toList]; rfl
  show (s.data.toList ++ t.data.toList.take k).toArray.size = _
  rw [List.size_toArray, List.length_append, List.length_take, hs, ht]
theorem gotU_prefix (s t : ByteArray) (k : Nat) : Lib.hasPrefix (s ++ t).data.toList (gotU s t k).data.toList = true := by
  show Lib.hasPrefix (s ++ t).data.toList (s.data.toList ++ t.data.toList.take k).toArray.toList = true
  rw [ByteArray.data_append, Array.toList_append, List.toList_toArray]
  unfold Lib.hasPrefix
  simp [List.isPrefixOf_iff_prefix, List.prefix_append_right_inj, List.take_prefix]
theorem begins_crash (s t : ByteArray) (keep : Int) : crashS ⟨rowF 2 (s ++ t), rowF 2 s, [⟨2, s.size, false, t⟩], true, -1, 3⟩ [keep] = ⟨rowF 2 (gotU s t (max keep 0).toNat), rowF 2 (gotU s t (max keep 0).toNat), [], true, -1, 3⟩ := by
  rw [crash_one (f := 2) (by decide) _ s _ rfl, app_done]
  rfl
theorem begins_crash2 (u : ByteArray) (n : Nat) (keep : Int) : crashS ⟨rowF 2 (u.extract 0 n), rowF 2 u, [⟨2, n, true, ⟨#[]⟩⟩], true, -1, 4⟩ [keep] = ⟨rowF 2 (if (max keep 0).toNat = 0 then u else u.extract 0 n), rowF 2 (if (max keep 0).toNat = 0 then u else u.extract 0 n), [], true, -1, 4⟩ := by
  rw [crash_one (f := 2) (by decide) _ u _ rfl, cut_done]
  rfl

set_option maxRecDepth 100000 in
set_option maxHeartbeats 3200000 in
theorem begins_big (s t : ByteArray) (n keep : Int) (w : World) (h : 4096 < s.size ∨ 4096 < t.size) : Calls Try.prog 7 #[.string s, .string t, .int .i64 n, .int .i64 keep] w fun e w' => e = .returned (.bool true) ∧ Below w.heap.size w w' := by
  have HW := Lib.hid (works_any w)
  by_cases hs : 4096 < s.size
  · have h1 : (4096 : Int) < (s.size : Int) := by omega
    clear h
    go_enter Try.func7, Try.ntmps7
    go_wp2_with fail
    refine HW.out.mono ?_
    rintro e w1 ⟨rfl, hb1⟩
    have HB := Lib.hid hb1
    clear hb1
    go_wp2_with fail
    go_ret
    exact ⟨rfl, HB.out⟩
  · have h1 : ¬ (4096 : Int) < (s.size : Int) := by omega
    have h2 : (4096 : Int) < (t.size : Int) := by omega
    clear h
    go_enter Try.func7, Try.ntmps7
    go_wp2_with fail
    refine HW.out.mono ?_
    rintro e w1 ⟨rfl, hb1⟩
    have HB := Lib.hid hb1
    clear hb1
    go_wp2_with fail
    go_ret
    exact ⟨rfl, HB.out⟩

set_option maxRecDepth 100000 in
set_option maxHeartbeats 6400000 in
theorem begins_neg_lo (s t : ByteArray) (w : World) (hs : s.size ≤ 4096) (ht : t.size ≤ 4096) (keep : Int) (hk : keep < 0) (n : Int) (hn0 : n < 0) : Calls Try.prog 7 #[.string s, .string t, .int .i64 n, .int .i64 keep] w fun e w' => e = .returned (.bool true) ∧ Below w.heap.size w w' := by
  have HW := Lib.hid (works_any w)
  obtain ⟨u, hu⟩ : ∃ u, gotU s t (max (keep : Int) 0).toNat = u := ⟨_, rfl⟩
  have hus := gotU_size s t (max (keep : Int) 0).toNat
  have hup := gotU_prefix s t (max (keep : Int) 0).toNat
  have hcr := begins_crash s t (keep : Int)
  rw [hu] at hus hup hcr
  have HX1 := Lib.hid (show appendS newS 2 s = _ from app_new (f := 2) (by decide) s (by omega))
  have HX2 := Lib.hid (show syncerS ⟨rowF 2 s, E64, [⟨2, 0, false, s⟩], true, -1, 1⟩ 2 = _ from sync_new (f := 2) (by decide) s ⟨2, 0, false, s⟩ rfl 1)
  have HX3 := Lib.hid (show appendS ⟨rowF 2 s, rowF 2 s, [], true, -1, 2⟩ 2 t = _ from app_row (f := 2) (by decide) s t (rowF 2 s) [] 2 (by omega))
  have HX4 := Lib.hid hcr
  have HX5 := Lib.hid (show allS ⟨rowF 2 u, rowF 2 u, [], true, -1, 3⟩ 2 = u from all_row (f := 2) (by decide) u _ _ _ _)
  have HP := Lib.hid (fun w => Try.strings_HasPrefix (s ++ t) u w)
  rw [hup] at HP
  have hs1 : ¬ (4096 : Int) < (s.size : Int) := by omega
  have ht1 : ¬ (4096 : Int) < (t.size : Int) := by omega
  have hs2 : (s.size : Int) ≤ 4096 := by omega
  have hm : (max keep 0).toNat = 0 := by omega
  rw [hm, Nat.zero_min, Nat.add_zero] at hus
  have hq : (((u.size : Nat) : Int) != (s.size : Int)) = false := by rw [hus]; simp
  have hts : ¬ (t.size : Int) < 0 := by omega
  have hk0 : ¬ 0 < keep := by omega
  have hn : n < 0 ∨ (u.size : Int) < n := Or.inl hn0
  have HX6 := Lib.hid (show cutterS ⟨rowF 2 u, rowF 2 u, [], true, -1, 3⟩ 2 n = _ from cut_no (f := 2) (by decide) u _ _ _ n hn)
  clear hus hup hcr hu
  go_enter Try.func7, Try.ntmps7
  go_wp2_with fail
  refine HW.out.mono ?_
  rintro e ww ⟨rfl, hbw⟩
  have HBW := Lib.hid hbw
  clear hbw
  go_wp2_with fail
  refine (code_New _).mono ?_
  rintro e w0 ⟨rfl, hd0, hb0⟩
  have hB0 : w.heap.size ≤ ww.heap.size := HBW.out.size
  obtain ⟨g, hg⟩ : ∃ g, ww.heap.size = g := ⟨_, rfl⟩
  obtain ⟨B, hB⟩ : ∃ B, w.heap.size = B := ⟨_, rfl⟩
  have HM0 := Lib.hid (mine_new hd0 good_new hB0)
  have HS0 := Lib.hid (Nat.le_trans hB0 hb0.size)
  have HB0 := Lib.hid (HBW.out.trans (hb0.mono hB0))
  rw [hg] at HM0
  rw [hg]
  rw [hB] at HM0 HS0 HB0
  have HBB := Lib.hid hB
  clear hd0 hb0 hB0 hg hB HBW HW
  go_wp2_with fail
  refine (HM0.out.appendTo (by decide) HS0.out HX1.out).mono ?_
  rintro e w1 ⟨rfl, hb, lv1, hm⟩
  have HM1 := Lib.hid hm
  have HS1 := Lib.hid (Nat.le_trans HS0.out hb.size)
  have HB1 := Lib.hid (HB0.out.trans hb)
  clear hm hb HM0 HS0 HB0
  go_wp2_with fail
  refine (HM1.out.syncTo (by decide) HS1.out HX2.out).mono ?_
  rintro e w2 ⟨rfl, hb, lv2, hm⟩
  have HM2 := Lib.hid hm
  have HS2 := Lib.hid (Nat.le_trans HS1.out hb.size)
  have HB2 := Lib.hid (HB1.out.trans hb)
  clear hm hb HM1 HS1 HB1
  go_wp2_with fail
  refine (HM2.out.appendTo (by decide) HS2.out HX3.out).mono ?_
  rintro e w3 ⟨rfl, hb, lv3, hm⟩
  have HM3 := Lib.hid hm
  have HS3 := Lib.hid (Nat.le_trans HS2.out hb.size)
  have HB3 := Lib.hid (HB2.out.trans hb)
  clear hm hb HM2 HS2 HB2
  go_wp2_with fail
  refine ((HM3.out.alloc (.cells #[.int .i64 keep] 3)).crashTo (by decide) (by have := HS3.out; simp; omega) (ki_one w3 keep) HX4.out).mono ?_
  rintro e w4 ⟨rfl, hb, lv4, hm⟩
  have HM4 := Lib.hid hm
  have hb' := ((Below.refl B w3).alloc HS3.out (.cells #[.int .i64 keep] 3)).trans hb
  have HS4 := Lib.hid (Nat.le_trans HS3.out hb'.size)
  have HB4 := Lib.hid (HB3.out.trans hb')
  clear hm hb hb' HM3 HS3 HB3
  go_wp2_with fail
  refine (HM4.out.allTo HX5.out).mono ?_
  rintro e w' ⟨rfl, rfl⟩
  go_wp2_with fail
  refine (HP.out _).mono ?_
  rintro e w' ⟨rfl, rfl⟩
  go_wp2_with fail
  refine (HM4.out.cutTo (by decide) HS4.out HX6.out).mono ?_
  rintro e w5 ⟨rfl, hb, lv5, hm⟩
  have HM5 := Lib.hid hm
  have HS5 := Lib.hid (Nat.le_trans HS4.out hb.size)
  have HB5 := Lib.hid (HB4.out.trans hb)
  clear hm hb HM4 HS4 HB4
  go_wp2_with fail
  refine (HM5.out.allTo HX5.out).mono ?_
  rintro e w' ⟨rfl, rfl⟩
  go_wp2_with fail
  go_ret
  exact ⟨rfl, by rw [HBB.out]; exact HB5.out⟩

set_option maxRecDepth 100000 in
set_option maxHeartbeats 6400000 in
theorem begins_neg_hi (s t : ByteArray) (w : World) (hs : s.size ≤ 4096) (ht : t.size ≤ 4096) (keep : Int) (hk : keep < 0) (n : Int) (hn0 : 0 ≤ n) (hn1 : ((gotU s t (max (keep : Int) 0).toNat).size : Int) < n) : Calls Try.prog 7 #[.string s, .string t, .int .i64 n, .int .i64 keep] w fun e w' => e = .returned (.bool true) ∧ Below w.heap.size w w' := by
  have HW := Lib.hid (works_any w)
  obtain ⟨u, hu⟩ : ∃ u, gotU s t (max (keep : Int) 0).toNat = u := ⟨_, rfl⟩
  have hus := gotU_size s t (max (keep : Int) 0).toNat
  have hup := gotU_prefix s t (max (keep : Int) 0).toNat
  have hcr := begins_crash s t (keep : Int)
  rw [hu] at hus hup hcr hn1
  have HX1 := Lib.hid (show appendS newS 2 s = _ from app_new (f := 2) (by decide) s (by omega))
  have HX2 := Lib.hid (show syncerS ⟨rowF 2 s, E64, [⟨2, 0, false, s⟩], true, -1, 1⟩ 2 = _ from sync_new (f := 2) (by decide) s ⟨2, 0, false, s⟩ rfl 1)
  have HX3 := Lib.hid (show appendS ⟨rowF 2 s, rowF 2 s, [], true, -1, 2⟩ 2 t = _ from app_row (f := 2) (by decide) s t (rowF 2 s) [] 2 (by omega))
  have HX4 := Lib.hid hcr
  have HX5 := Lib.hid (show allS ⟨rowF 2 u, rowF 2 u, [], true, -1, 3⟩ 2 = u from all_row (f := 2) (by decide) u _ _ _ _)
  have HP := Lib.hid (fun w => Try.strings_HasPrefix (s ++ t) u w)
  rw [hup] at HP
  have hs1 : ¬ (4096 : Int) < (s.size : Int) := by omega
  have ht1 : ¬ (4096 : Int) < (t.size : Int) := by omega
  have hs2 : (s.size : Int) ≤ 4096 := by omega
  have hm : (max (keep : Int) 0).toNat = 0 := by omega
  rw [hm, Nat.zero_min, Nat.add_zero] at hus
  have hq : (((u.size : Nat) : Int) != (s.size : Int)) = false := by rw [hus]; simp
  have hts : ¬ (t.size : Int) < 0 := by omega
  have hk0 : ¬ 0 < keep := by omega
  have hn : n < 0 ∨ (u.size : Int) < n := Or.inr hn1
  have hn3 : ¬ n < 0 := by omega
  have HX6 := Lib.hid (show cutterS ⟨rowF 2 u, rowF 2 u, [], true, -1, 3⟩ 2 n = _ from cut_no (f := 2) (by decide) u _ _ _ n hn)
  clear hus hup hcr hu
  go_enter Try.func7, Try.ntmps7
  go_wp2_with fail
  refine HW.out.mono ?_
  rintro e ww ⟨rfl, hbw⟩
  have HBW := Lib.hid hbw
  clear hbw
  go_wp2_with fail
  refine (code_New _).mono ?_
  rintro e w0 ⟨rfl, hd0, hb0⟩
  have hB0 : w.heap.size ≤ ww.heap.size := HBW.out.size
  obtain ⟨g, hg⟩ : ∃ g, ww.heap.size = g := ⟨_, rfl⟩
  obtain ⟨B, hB⟩ : ∃ B, w.heap.size = B := ⟨_, rfl⟩
  have HM0 := Lib.hid (mine_new hd0 good_new hB0)
  have HS0 := Lib.hid (Nat.le_trans hB0 hb0.size)
  have HB0 := Lib.hid (HBW.out.trans (hb0.mono hB0))
  rw [hg] at HM0
  rw [hg]
  rw [hB] at HM0 HS0 HB0
  have HBB := Lib.hid hB
  clear hd0 hb0 hB0 hg hB HBW HW
  go_wp2_with fail
  refine (HM0.out.appendTo (by decide) HS0.out HX1.out).mono ?_
  rintro e w1 ⟨rfl, hb, lv1, hm⟩
  have HM1 := Lib.hid hm
  have HS1 := Lib.hid (Nat.le_trans HS0.out hb.size)
  have HB1 := Lib.hid (HB0.out.trans hb)
  clear hm hb HM0 HS0 HB0
  go_wp2_with fail
  refine (HM1.out.syncTo (by decide) HS1.out HX2.out).mono ?_
  rintro e w2 ⟨rfl, hb, lv2, hm⟩
  have HM2 := Lib.hid hm
  have HS2 := Lib.hid (Nat.le_trans HS1.out hb.size)
  have HB2 := Lib.hid (HB1.out.trans hb)
  clear hm hb HM1 HS1 HB1
  go_wp2_with fail
  refine (HM2.out.appendTo (by decide) HS2.out HX3.out).mono ?_
  rintro e w3 ⟨rfl, hb, lv3, hm⟩
  have HM3 := Lib.hid hm
  have HS3 := Lib.hid (Nat.le_trans HS2.out hb.size)
  have HB3 := Lib.hid (HB2.out.trans hb)
  clear hm hb HM2 HS2 HB2
  go_wp2_with fail
  refine ((HM3.out.alloc (.cells #[.int .i64 keep] 3)).crashTo (by decide) (by have := HS3.out; simp; omega) (ki_one w3 keep) HX4.out).mono ?_
  rintro e w4 ⟨rfl, hb, lv4, hm⟩
  have HM4 := Lib.hid hm
  have hb' := ((Below.refl B w3).alloc HS3.out (.cells #[.int .i64 keep] 3)).trans hb
  have HS4 := Lib.hid (Nat.le_trans HS3.out hb'.size)
  have HB4 := Lib.hid (HB3.out.trans hb')
  clear hm hb hb' HM3 HS3 HB3
  go_wp2_with fail
  refine (HM4.out.allTo HX5.out).mono ?_
  rintro e w' ⟨rfl, rfl⟩
  go_wp2_with fail
  refine (HP.out _).mono ?_
  rintro e w' ⟨rfl, rfl⟩
  go_wp2_with fail
  refine (HM4.out.cutTo (by decide) HS4.out HX6.out).mono ?_
  rintro e w5 ⟨rfl, hb, lv5, hm⟩
  have HM5 := Lib.hid hm
  have HS5 := Lib.hid (Nat.le_trans HS4.out hb.size)
  have HB5 := Lib.hid (HB4.out.trans hb)
  clear hm hb HM4 HS4 HB4
  go_wp2_with fail
  refine (HM5.out.allTo HX5.out).mono ?_
  rintro e w' ⟨rfl, rfl⟩
  go_wp2_with fail
  go_ret
  exact ⟨rfl, by rw [HBB.out]; exact HB5.out⟩

set_option maxRecDepth 100000 in
set_option maxHeartbeats 6400000 in
theorem begins_neg_ok (s t : ByteArray) (w : World) (hs : s.size ≤ 4096) (ht : t.size ≤ 4096) (keep : Int) (hk : keep < 0) (n : Nat) (hn1 : n ≤ (gotU s t (max (keep : Int) 0).toNat).size) : Calls Try.prog 7 #[.string s, .string t, .int .i64 n, .int .i64 keep] w fun e w' => e = .returned (.bool true) ∧ Below w.heap.size w w' := by
  have HW := Lib.hid (works_any w)
  obtain ⟨u, hu⟩ : ∃ u, gotU s t (max (keep : Int) 0).toNat = u := ⟨_, rfl⟩
  have hus := gotU_size s t (max (keep : Int) 0).toNat
  have hup := gotU_prefix s t (max (keep : Int) 0).toNat
  have hcr := begins_crash s t (keep : Int)
  rw [hu] at hus hup hcr hn1
  have HX1 := Lib.hid (show appendS newS 2 s = _ from app_new (f := 2) (by decide) s (by omega))
  have HX2 := Lib.hid (show syncerS ⟨rowF 2 s, E64, [⟨2, 0, false, s⟩], true, -1, 1⟩ 2 = _ from sync_new (f := 2) (by decide) s ⟨2, 0, false, s⟩ rfl 1)
  have HX3 := Lib.hid (show appendS ⟨rowF 2 s, rowF 2 s, [], true, -1, 2⟩ 2 t = _ from app_row (f := 2) (by decide) s t (rowF 2 s) [] 2 (by omega))
  have HX4 := Lib.hid hcr
  have HX5 := Lib.hid (show allS ⟨rowF 2 u, rowF 2 u, [], true, -1, 3⟩ 2 = u from all_row (f := 2) (by decide) u _ _ _ _)
  have HP := Lib.hid (fun w => Try.strings_HasPrefix (s ++ t) u w)
  rw [hup] at HP
  have hs1 : ¬ (4096 : Int) < (s.size : Int) := by omega
  have ht1 : ¬ (4096 : Int) < (t.size : Int) := by omega
  have hs2 : (s.size : Int) ≤ 4096 := by omega
  have hm : (max (keep : Int) 0).toNat = 0 := by omega
  rw [hm, Nat.zero_min, Nat.add_zero] at hus
  have hq : (((u.size : Nat) : Int) != (s.size : Int)) = false := by rw [hus]; simp
  have hts : ¬ (t.size : Int) < 0 := by omega
  have hk0 : ¬ 0 < keep := by omega
  clear hus hup hcr hu
  have HX6 := Lib.hid (show cutterS ⟨rowF 2 u, rowF 2 u, [], true, -1, 3⟩ 2 n = _ from cut_yes (f := 2) (by decide) u _ _ _ n hn1)
  have hcr2 := begins_crash2 u n (keep : Int)
  rw [hm, if_pos rfl] at hcr2
  have HX7 := Lib.hid hcr2
  have HX8 := Lib.hid (show allS ⟨rowF 2 u, rowF 2 u, [], true, -1, 4⟩ 2 = u from all_row (f := 2) (by decide) u _ _ _ _)
  have hn2 : ¬ (u.size : Int) < (n : Int) := by omega
  have hn3 : (n : Int) ≤ u.size := by omega
  clear hcr2 hm
  go_enter Try.func7, Try.ntmps7
  go_wp2_with fail
  refine HW.out.mono ?_
  rintro e ww ⟨rfl, hbw⟩
  have HBW := Lib.hid hbw
  clear hbw
  go_wp2_with fail
  refine (code_New _).mono ?_
  rintro e w0 ⟨rfl, hd0, hb0⟩
  have hB0 : w.heap.size ≤ ww.heap.size := HBW.out.size
  obtain ⟨g, hg⟩ : ∃ g, ww.heap.size = g := ⟨_, rfl⟩
  obtain ⟨B, hB⟩ : ∃ B, w.heap.size = B := ⟨_, rfl⟩
  have HM0 := Lib.hid (mine_new hd0 good_new hB0)
  have HS0 := Lib.hid (Nat.le_trans hB0 hb0.size)
  have HB0 := Lib.hid (HBW.out.trans (hb0.mono hB0))
  rw [hg] at HM0
  rw [hg]
  rw [hB] at HM0 HS0 HB0
  have HBB := Lib.hid hB
  clear hd0 hb0 hB0 hg hB HBW HW
  go_wp2_with fail
  refine (HM0.out.appendTo (by decide) HS0.out HX1.out).mono ?_
  rintro e w1 ⟨rfl, hb, lv1, hm⟩
  have HM1 := Lib.hid hm
  have HS1 := Lib.hid (Nat.le_trans HS0.out hb.size)
  have HB1 := Lib.hid (HB0.out.trans hb)
  clear hm hb HM0 HS0 HB0
  go_wp2_with fail
  refine (HM1.out.syncTo (by decide) HS1.out HX2.out).mono ?_
  rintro e w2 ⟨rfl, hb, lv2, hm⟩
  have HM2 := Lib.hid hm
  have HS2 := Lib.hid (Nat.le_trans HS1.out hb.size)
  have HB2 := Lib.hid (HB1.out.trans hb)
  clear hm hb HM1 HS1 HB1
  go_wp2_with fail
  refine (HM2.out.appendTo (by decide) HS2.out HX3.out).mono ?_
  rintro e w3 ⟨rfl, hb, lv3, hm⟩
  have HM3 := Lib.hid hm
  have HS3 := Lib.hid (Nat.le_trans HS2.out hb.size)
  have HB3 := Lib.hid (HB2.out.trans hb)
  clear hm hb HM2 HS2 HB2
  go_wp2_with fail
  refine ((HM3.out.alloc (.cells #[.int .i64 keep] 3)).crashTo (by decide) (by have := HS3.out; simp; omega) (ki_one w3 keep) HX4.out).mono ?_
  rintro e w4 ⟨rfl, hb, lv4, hm⟩
  have HM4 := Lib.hid hm
  have hb' := ((Below.refl B w3).alloc HS3.out (.cells #[.int .i64 keep] 3)).trans hb
  have HS4 := Lib.hid (Nat.le_trans HS3.out hb'.size)
  have HB4 := Lib.hid (HB3.out.trans hb')
  clear hm hb hb' HM3 HS3 HB3
  go_wp2_with fail
  refine (HM4.out.allTo HX5.out).mono ?_
  rintro e w' ⟨rfl, rfl⟩
  go_wp2_with fail
  refine (HP.out _).mono ?_
  rintro e w' ⟨rfl, rfl⟩
  go_wp2_with fail
  refine (HM4.out.cutTo (by decide) HS4.out HX6.out).mono ?_
  rintro e w5 ⟨rfl, hb, lv5, hm⟩
  have HM5 := Lib.hid hm
  have HS5 := Lib.hid (Nat.le_trans HS4.out hb.size)
  have HB5 := Lib.hid (HB4.out.trans hb)
  clear hm hb HM4 HS4 HB4
  go_wp2_with fail
  refine ((HM5.out.alloc (.cells #[.int .i64 keep] 3)).crashTo (by decide) (by have := HS5.out; simp; omega) (ki_one w5 keep) HX7.out).mono ?_
  rintro e w6 ⟨rfl, hb, lv6, hm⟩
  have HM6 := Lib.hid hm
  have hb' := ((Below.refl B w5).alloc HS5.out (.cells #[.int .i64 keep] 3)).trans hb
  have HS6 := Lib.hid (Nat.le_trans HS5.out hb'.size)
  have HB6 := Lib.hid (HB5.out.trans hb')
  clear hm hb hb' HM5 HS5 HB5
  go_wp2_with fail
  refine (HM6.out.allTo HX8.out).mono ?_
  rintro e w' ⟨rfl, rfl⟩
  go_wp2_with fail
  go_ret
  exact ⟨rfl, by rw [HBB.out]; exact HB6.out⟩

set_option maxRecDepth 100000 in
set_option maxHeartbeats 6400000 in
theorem begins_zero_lo (s t : ByteArray) (w : World) (hs : s.size ≤ 4096) (ht : t.size ≤ 4096)  (n : Int) (hn0 : n < 0) : Calls Try.prog 7 #[.string s, .string t, .int .i64 n, .int .i64 0] w fun e w' => e = .returned (.bool true) ∧ Below w.heap.size w w' := by
  have HW := Lib.hid (works_any w)
  obtain ⟨u, hu⟩ : ∃ u, gotU s t (max (0 : Int) 0).toNat = u := ⟨_, rfl⟩
  have hus := gotU_size s t (max (0 : Int) 0).toNat
  have hup := gotU_prefix s t (max (0 : Int) 0).toNat
  have hcr := begins_crash s t (0 : Int)
  rw [hu] at hus hup hcr
  have HX1 := Lib.hid (show appendS newS 2 s = _ from app_new (f := 2) (by decide) s (by omega))
  have HX2 := Lib.hid (show syncerS ⟨rowF 2 s, E64, [⟨2, 0, false, s⟩], true, -1, 1⟩ 2 = _ from sync_new (f := 2) (by decide) s ⟨2, 0, false, s⟩ rfl 1)
  have HX3 := Lib.hid (show appendS ⟨rowF 2 s, rowF 2 s, [], true, -1, 2⟩ 2 t = _ from app_row (f := 2) (by decide) s t (rowF 2 s) [] 2 (by omega))
  have HX4 := Lib.hid hcr
  have HX5 := Lib.hid (show allS ⟨rowF 2 u, rowF 2 u, [], true, -1, 3⟩ 2 = u from all_row (f := 2) (by decide) u _ _ _ _)
  have HP := Lib.hid (fun w => Try.strings_HasPrefix (s ++ t) u w)
  rw [hup] at HP
  have hs1 : ¬ (4096 : Int) < (s.size : Int) := by omega
  have ht1 : ¬ (4096 : Int) < (t.size : Int) := by omega
  have hs2 : (s.size : Int) ≤ 4096 := by omega
  have hm : (max (0 : Int) 0).toNat = 0 := rfl
  rw [hm, Nat.zero_min, Nat.add_zero] at hus
  have hq : (((u.size : Nat) : Int) != (s.size : Int)) = false := by rw [hus]; simp
  have hts : ¬ (t.size : Int) < 0 := by omega
  have hn : n < 0 ∨ (u.size : Int) < n := Or.inl hn0
  have HX6 := Lib.hid (show cutterS ⟨rowF 2 u, rowF 2 u, [], true, -1, 3⟩ 2 n = _ from cut_no (f := 2) (by decide) u _ _ _ n hn)
  clear hus hup hcr hu
  go_enter Try.func7, Try.ntmps7
  go_wp2_with fail
  refine HW.out.mono ?_
  rintro e ww ⟨rfl, hbw⟩
  have HBW := Lib.hid hbw
  clear hbw
  go_wp2_with fail
  refine (code_New _).mono ?_
  rintro e w0 ⟨rfl, hd0, hb0⟩
  have hB0 : w.heap.size ≤ ww.heap.size := HBW.out.size
  obtain ⟨g, hg⟩ : ∃ g, ww.heap.size = g := ⟨_, rfl⟩
  obtain ⟨B, hB⟩ : ∃ B, w.heap.size = B := ⟨_, rfl⟩
  have HM0 := Lib.hid (mine_new hd0 good_new hB0)
  have HS0 := Lib.hid (Nat.le_trans hB0 hb0.size)
  have HB0 := Lib.hid (HBW.out.trans (hb0.mono hB0))
  rw [hg] at HM0
  rw [hg]
  rw [hB] at HM0 HS0 HB0
  have HBB := Lib.hid hB
  clear hd0 hb0 hB0 hg hB HBW HW
  go_wp2_with fail
  refine (HM0.out.appendTo (by decide) HS0.out HX1.out).mono ?_
  rintro e w1 ⟨rfl, hb, lv1, hm⟩
  have HM1 := Lib.hid hm
  have HS1 := Lib.hid (Nat.le_trans HS0.out hb.size)
  have HB1 := Lib.hid (HB0.out.trans hb)
  clear hm hb HM0 HS0 HB0
  go_wp2_with fail
  refine (HM1.out.syncTo (by decide) HS1.out HX2.out).mono ?_
  rintro e w2 ⟨rfl, hb, lv2, hm⟩
  have HM2 := Lib.hid hm
  have HS2 := Lib.hid (Nat.le_trans HS1.out hb.size)
  have HB2 := Lib.hid (HB1.out.trans hb)
  clear hm hb HM1 HS1 HB1
  go_wp2_with fail
  refine (HM2.out.appendTo (by decide) HS2.out HX3.out).mono ?_
  rintro e w3 ⟨rfl, hb, lv3, hm⟩
  have HM3 := Lib.hid hm
  have HS3 := Lib.hid (Nat.le_trans HS2.out hb.size)
  have HB3 := Lib.hid (HB2.out.trans hb)
  clear hm hb HM2 HS2 HB2
  go_wp2_with fail
  refine ((HM3.out.alloc (.cells #[.int .i64 0] 3)).crashTo (by decide) (by have := HS3.out; simp; omega) (ki_one w3 0) HX4.out).mono ?_
  rintro e w4 ⟨rfl, hb, lv4, hm⟩
  have HM4 := Lib.hid hm
  have hb' := ((Below.refl B w3).alloc HS3.out (.cells #[.int .i64 0] 3)).trans hb
  have HS4 := Lib.hid (Nat.le_trans HS3.out hb'.size)
  have HB4 := Lib.hid (HB3.out.trans hb')
  clear hm hb hb' HM3 HS3 HB3
  go_wp2_with fail
  refine (HM4.out.allTo HX5.out).mono ?_
  rintro e w' ⟨rfl, rfl⟩
  go_wp2_with fail
  refine (HP.out _).mono ?_
  rintro e w' ⟨rfl, rfl⟩
  go_wp2_with fail
  refine (HM4.out.cutTo (by decide) HS4.out HX6.out).mono ?_
  rintro e w5 ⟨rfl, hb, lv5, hm⟩
  have HM5 := Lib.hid hm
  have HS5 := Lib.hid (Nat.le_trans HS4.out hb.size)
  have HB5 := Lib.hid (HB4.out.trans hb)
  clear hm hb HM4 HS4 HB4
  go_wp2_with fail
  refine (HM5.out.allTo HX5.out).mono ?_
  rintro e w' ⟨rfl, rfl⟩
  go_wp2_with fail
  go_ret
  exact ⟨rfl, by rw [HBB.out]; exact HB5.out⟩

set_option maxRecDepth 100000 in
set_option maxHeartbeats 6400000 in
theorem begins_zero_hi (s t : ByteArray) (w : World) (hs : s.size ≤ 4096) (ht : t.size ≤ 4096)  (n : Int) (hn0 : 0 ≤ n) (hn1 : ((gotU s t (max (0 : Int) 0).toNat).size : Int) < n) : Calls Try.prog 7 #[.string s, .string t, .int .i64 n, .int .i64 0] w fun e w' => e = .returned (.bool true) ∧ Below w.heap.size w w' := by
  have HW := Lib.hid (works_any w)
  obtain ⟨u, hu⟩ : ∃ u, gotU s t (max (0 : Int) 0).toNat = u := ⟨_, rfl⟩
  have hus := gotU_size s t (max (0 : Int) 0).toNat
  have hup := gotU_prefix s t (max (0 : Int) 0).toNat
  have hcr := begins_crash s t (0 : Int)
  rw [hu] at hus hup hcr hn1
  have HX1 := Lib.hid (show appendS newS 2 s = _ from app_new (f := 2) (by decide) s (by omega))
  have HX2 := Lib.hid (show syncerS ⟨rowF 2 s, E64, [⟨2, 0, false, s⟩], true, -1, 1⟩ 2 = _ from sync_new (f := 2) (by decide) s ⟨2, 0, false, s⟩ rfl 1)
  have HX3 := Lib.hid (show appendS ⟨rowF 2 s, rowF 2 s, [], true, -1, 2⟩ 2 t = _ from app_row (f := 2) (by decide) s t (rowF 2 s) [] 2 (by omega))
  have HX4 := Lib.hid hcr
  have HX5 := Lib.hid (show allS ⟨rowF 2 u, rowF 2 u, [], true, -1, 3⟩ 2 = u from all_row (f := 2) (by decide) u _ _ _ _)
  have HP := Lib.hid (fun w => Try.strings_HasPrefix (s ++ t) u w)
  rw [hup] at HP
  have hs1 : ¬ (4096 : Int) < (s.size : Int) := by omega
  have ht1 : ¬ (4096 : Int) < (t.size : Int) := by omega
  have hs2 : (s.size : Int) ≤ 4096 := by omega
  have hm : (max (0 : Int) 0).toNat = 0 := rfl
  rw [hm, Nat.zero_min, Nat.add_zero] at hus
  have hq : (((u.size : Nat) : Int) != (s.size : Int)) = false := by rw [hus]; simp
  have hts : ¬ (t.size : Int) < 0 := by omega
  have hn : n < 0 ∨ (u.size : Int) < n := Or.inr hn1
  have hn3 : ¬ n < 0 := by omega
  have HX6 := Lib.hid (show cutterS ⟨rowF 2 u, rowF 2 u, [], true, -1, 3⟩ 2 n = _ from cut_no (f := 2) (by decide) u _ _ _ n hn)
  clear hus hup hcr hu
  go_enter Try.func7, Try.ntmps7
  go_wp2_with fail
  refine HW.out.mono ?_
  rintro e ww ⟨rfl, hbw⟩
  have HBW := Lib.hid hbw
  clear hbw
  go_wp2_with fail
  refine (code_New _).mono ?_
  rintro e w0 ⟨rfl, hd0, hb0⟩
  have hB0 : w.heap.size ≤ ww.heap.size := HBW.out.size
  obtain ⟨g, hg⟩ : ∃ g, ww.heap.size = g := ⟨_, rfl⟩
  obtain ⟨B, hB⟩ : ∃ B, w.heap.size = B := ⟨_, rfl⟩
  have HM0 := Lib.hid (mine_new hd0 good_new hB0)
  have HS0 := Lib.hid (Nat.le_trans hB0 hb0.size)
  have HB0 := Lib.hid (HBW.out.trans (hb0.mono hB0))
  rw [hg] at HM0
  rw [hg]
  rw [hB] at HM0 HS0 HB0
  have HBB := Lib.hid hB
  clear hd0 hb0 hB0 hg hB HBW HW
  go_wp2_with fail
  refine (HM0.out.appendTo (by decide) HS0.out HX1.out).mono ?_
  rintro e w1 ⟨rfl, hb, lv1, hm⟩
  have HM1 := Lib.hid hm
  have HS1 := Lib.hid (Nat.le_trans HS0.out hb.size)
  have HB1 := Lib.hid (HB0.out.trans hb)
  clear hm hb HM0 HS0 HB0
  go_wp2_with fail
  refine (HM1.out.syncTo (by decide) HS1.out HX2.out).mono ?_
  rintro e w2 ⟨rfl, hb, lv2, hm⟩
  have HM2 := Lib.hid hm
  have HS2 := Lib.hid (Nat.le_trans HS1.out hb.size)
  have HB2 := Lib.hid (HB1.out.trans hb)
  clear hm hb HM1 HS1 HB1
  go_wp2_with fail
  refine (HM2.out.appendTo (by decide) HS2.out HX3.out).mono ?_
  rintro e w3 ⟨rfl, hb, lv3, hm⟩
  have HM3 := Lib.hid hm
  have HS3 := Lib.hid (Nat.le_trans HS2.out hb.size)
  have HB3 := Lib.hid (HB2.out.trans hb)
  clear hm hb HM2 HS2 HB2
  go_wp2_with fail
  refine ((HM3.out.alloc (.cells #[.int .i64 0] 3)).crashTo (by decide) (by have := HS3.out; simp; omega) (ki_one w3 0) HX4.out).mono ?_
  rintro e w4 ⟨rfl, hb, lv4, hm⟩
  have HM4 := Lib.hid hm
  have hb' := ((Below.refl B w3).alloc HS3.out (.cells #[.int .i64 0] 3)).trans hb
  have HS4 := Lib.hid (Nat.le_trans HS3.out hb'.size)
  have HB4 := Lib.hid (HB3.out.trans hb')
  clear hm hb hb' HM3 HS3 HB3
  go_wp2_with fail
  refine (HM4.out.allTo HX5.out).mono ?_
  rintro e w' ⟨rfl, rfl⟩
  go_wp2_with fail
  refine (HP.out _).mono ?_
  rintro e w' ⟨rfl, rfl⟩
  go_wp2_with fail
  refine (HM4.out.cutTo (by decide) HS4.out HX6.out).mono ?_
  rintro e w5 ⟨rfl, hb, lv5, hm⟩
  have HM5 := Lib.hid hm
  have HS5 := Lib.hid (Nat.le_trans HS4.out hb.size)
  have HB5 := Lib.hid (HB4.out.trans hb)
  clear hm hb HM4 HS4 HB4
  go_wp2_with fail
  refine (HM5.out.allTo HX5.out).mono ?_
  rintro e w' ⟨rfl, rfl⟩
  go_wp2_with fail
  go_ret
  exact ⟨rfl, by rw [HBB.out]; exact HB5.out⟩

set_option maxRecDepth 100000 in
set_option maxHeartbeats 6400000 in
theorem begins_zero_ok (s t : ByteArray) (w : World) (hs : s.size ≤ 4096) (ht : t.size ≤ 4096)  (n : Nat) (hn1 : n ≤ (gotU s t (max (0 : Int) 0).toNat).size) : Calls Try.prog 7 #[.string s, .string t, .int .i64 n, .int .i64 0] w fun e w' => e = .returned (.bool true) ∧ Below w.heap.size w w' := by
  have HW := Lib.hid (works_any w)
  obtain ⟨u, hu⟩ : ∃ u, gotU s t (max (0 : Int) 0).toNat = u := ⟨_, rfl⟩
  have hus := gotU_size s t (max (0 : Int) 0).toNat
  have hup := gotU_prefix s t (max (0 : Int) 0).toNat
  have hcr := begins_crash s t (0 : Int)
  rw [hu] at hus hup hcr hn1
  have HX1 := Lib.hid (show appendS newS 2 s = _ from app_new (f := 2) (by decide) s (by omega))
  have HX2 := Lib.hid (show syncerS ⟨rowF 2 s, E64, [⟨2, 0, false, s⟩], true, -1, 1⟩ 2 = _ from sync_new (f := 2) (by decide) s ⟨2, 0, false, s⟩ rfl 1)
  have HX3 := Lib.hid (show appendS ⟨rowF 2 s, rowF 2 s, [], true, -1, 2⟩ 2 t = _ from app_row (f := 2) (by decide) s t (rowF 2 s) [] 2 (by omega))
  have HX4 := Lib.hid hcr
  have HX5 := Lib.hid (show allS ⟨rowF 2 u, rowF 2 u, [], true, -1, 3⟩ 2 = u from all_row (f := 2) (by decide) u _ _ _ _)
  have HP := Lib.hid (fun w => Try.strings_HasPrefix (s ++ t) u w)
  rw [hup] at HP
  have hs1 : ¬ (4096 : Int) < (s.size : Int) := by omega
  have ht1 : ¬ (4096 : Int) < (t.size : Int) := by omega
  have hs2 : (s.size : Int) ≤ 4096 := by omega
  have hm : (max (0 : Int) 0).toNat = 0 := rfl
  rw [hm, Nat.zero_min, Nat.add_zero] at hus
  have hq : (((u.size : Nat) : Int) != (s.size : Int)) = false := by rw [hus]; simp
  have hts : ¬ (t.size : Int) < 0 := by omega
  clear hus hup hcr hu
  have HX6 := Lib.hid (show cutterS ⟨rowF 2 u, rowF 2 u, [], true, -1, 3⟩ 2 n = _ from cut_yes (f := 2) (by decide) u _ _ _ n hn1)
  have hcr2 := begins_crash2 u n (0 : Int)
  rw [hm, if_pos rfl] at hcr2
  have HX7 := Lib.hid hcr2
  have HX8 := Lib.hid (show allS ⟨rowF 2 u, rowF 2 u, [], true, -1, 4⟩ 2 = u from all_row (f := 2) (by decide) u _ _ _ _)
  have hn2 : ¬ (u.size : Int) < (n : Int) := by omega
  have hn3 : (n : Int) ≤ u.size := by omega
  clear hcr2 hm
  go_enter Try.func7, Try.ntmps7
  go_wp2_with fail
  refine HW.out.mono ?_
  rintro e ww ⟨rfl, hbw⟩
  have HBW := Lib.hid hbw
  clear hbw
  go_wp2_with fail
  refine (code_New _).mono ?_
  rintro e w0 ⟨rfl, hd0, hb0⟩
  have hB0 : w.heap.size ≤ ww.heap.size := HBW.out.size
  obtain ⟨g, hg⟩ : ∃ g, ww.heap.size = g := ⟨_, rfl⟩
  obtain ⟨B, hB⟩ : ∃ B, w.heap.size = B := ⟨_, rfl⟩
  have HM0 := Lib.hid (mine_new hd0 good_new hB0)
  have HS0 := Lib.hid (Nat.le_trans hB0 hb0.size)
  have HB0 := Lib.hid (HBW.out.trans (hb0.mono hB0))
  rw [hg] at HM0
  rw [hg]
  rw [hB] at HM0 HS0 HB0
  have HBB := Lib.hid hB
  clear hd0 hb0 hB0 hg hB HBW HW
  go_wp2_with fail
  refine (HM0.out.appendTo (by decide) HS0.out HX1.out).mono ?_
  rintro e w1 ⟨rfl, hb, lv1, hm⟩
  have HM1 := Lib.hid hm
  have HS1 := Lib.hid (Nat.le_trans HS0.out hb.size)
  have HB1 := Lib.hid (HB0.out.trans hb)
  clear hm hb HM0 HS0 HB0
  go_wp2_with fail
  refine (HM1.out.syncTo (by decide) HS1.out HX2.out).mono ?_
  rintro e w2 ⟨rfl, hb, lv2, hm⟩
  have HM2 := Lib.hid hm
  have HS2 := Lib.hid (Nat.le_trans HS1.out hb.size)
  have HB2 := Lib.hid (HB1.out.trans hb)
  clear hm hb HM1 HS1 HB1
  go_wp2_with fail
  refine (HM2.out.appendTo (by decide) HS2.out HX3.out).mono ?_
  rintro e w3 ⟨rfl, hb, lv3, hm⟩
  have HM3 := Lib.hid hm
  have HS3 := Lib.hid (Nat.le_trans HS2.out hb.size)
  have HB3 := Lib.hid (HB2.out.trans hb)
  clear hm hb HM2 HS2 HB2
  go_wp2_with fail
  refine ((HM3.out.alloc (.cells #[.int .i64 0] 3)).crashTo (by decide) (by have := HS3.out; simp; omega) (ki_one w3 0) HX4.out).mono ?_
  rintro e w4 ⟨rfl, hb, lv4, hm⟩
  have HM4 := Lib.hid hm
  have hb' := ((Below.refl B w3).alloc HS3.out (.cells #[.int .i64 0] 3)).trans hb
  have HS4 := Lib.hid (Nat.le_trans HS3.out hb'.size)
  have HB4 := Lib.hid (HB3.out.trans hb')
  clear hm hb hb' HM3 HS3 HB3
  go_wp2_with fail
  refine (HM4.out.allTo HX5.out).mono ?_
  rintro e w' ⟨rfl, rfl⟩
  go_wp2_with fail
  refine (HP.out _).mono ?_
  rintro e w' ⟨rfl, rfl⟩
  go_wp2_with fail
  refine (HM4.out.cutTo (by decide) HS4.out HX6.out).mono ?_
  rintro e w5 ⟨rfl, hb, lv5, hm⟩
  have HM5 := Lib.hid hm
  have HS5 := Lib.hid (Nat.le_trans HS4.out hb.size)
  have HB5 := Lib.hid (HB4.out.trans hb)
  clear hm hb HM4 HS4 HB4
  go_wp2_with fail
  refine ((HM5.out.alloc (.cells #[.int .i64 0] 3)).crashTo (by decide) (by have := HS5.out; simp; omega) (ki_one w5 0) HX7.out).mono ?_
  rintro e w6 ⟨rfl, hb, lv6, hm⟩
  have HM6 := Lib.hid hm
  have hb' := ((Below.refl B w5).alloc HS5.out (.cells #[.int .i64 0] 3)).trans hb
  have HS6 := Lib.hid (Nat.le_trans HS5.out hb'.size)
  have HB6 := Lib.hid (HB5.out.trans hb')
  clear hm hb hb' HM5 HS5 HB5
  go_wp2_with fail
  refine (HM6.out.allTo HX8.out).mono ?_
  rintro e w' ⟨rfl, rfl⟩
  go_wp2_with fail
  go_ret
  exact ⟨rfl, by rw [HBB.out]; exact HB6.out⟩

set_option maxRecDepth 100000 in
set_option maxHeartbeats 6400000 in
theorem begins_mid_lo (s t : ByteArray) (w : World) (hs : s.size ≤ 4096) (ht : t.size ≤ 4096) (k : Nat) (hk0 : 0 < k) (hk : k ≤ t.size) (n : Int) (hn0 : n < 0) : Calls Try.prog 7 #[.string s, .string t, .int .i64 n, .int .i64 k] w fun e w' => e = .returned (.bool true) ∧ Below w.heap.size w w' := by
  have HW := Lib.hid (works_any w)
  obtain ⟨u, hu⟩ : ∃ u, gotU s t (max (k : Int) 0).toNat = u := ⟨_, rfl⟩
  have hus := gotU_size s t (max (k : Int) 0).toNat
  have hup := gotU_prefix s t (max (k : Int) 0).toNat
  have hcr := begins_crash s t (k : Int)
  rw [hu] at hus hup hcr
  have HX1 := Lib.hid (show appendS newS 2 s = _ from app_new (f := 2) (by decide) s (by omega))
  have HX2 := Lib.hid (show syncerS ⟨rowF 2 s, E64, [⟨2, 0, false, s⟩], true, -1, 1⟩ 2 = _ from sync_new (f := 2) (by decide) s ⟨2, 0, false, s⟩ rfl 1)
  have HX3 := Lib.hid (show appendS ⟨rowF 2 s, rowF 2 s, [], true, -1, 2⟩ 2 t = _ from app_row (f := 2) (by decide) s t (rowF 2 s) [] 2 (by omega))
  have HX4 := Lib.hid hcr
  have HX5 := Lib.hid (show allS ⟨rowF 2 u, rowF 2 u, [], true, -1, 3⟩ 2 = u from all_row (f := 2) (by decide) u _ _ _ _)
  have HP := Lib.hid (fun w => Try.strings_HasPrefix (s ++ t) u w)
  rw [hup] at HP
  have hs1 : ¬ (4096 : Int) < (s.size : Int) := by omega
  have ht1 : ¬ (4096 : Int) < (t.size : Int) := by omega
  have hs2 : (s.size : Int) ≤ 4096 := by omega
  have hm : (max (k : Int) 0).toNat = k := by omega
  rw [hm, Nat.min_eq_left hk] at hus
  have hq : (((u.size : Nat) : Int) != (s.size : Int) + (k : Int)) = false := by rw [hus]; simp
  have hk1 : ¬ (t.size : Int) < (k : Int) := by omega
  have hk2 : (0 : Int) < (k : Int) := by omega
  have hk3 : ¬ (k : Int) < 0 := by omega
  have hk4 : (k : Int) ≤ 4096 := by omega
  have hn : n < 0 ∨ (u.size : Int) < n := Or.inl hn0
  have HX6 := Lib.hid (show cutterS ⟨rowF 2 u, rowF 2 u, [], true, -1, 3⟩ 2 n = _ from cut_no (f := 2) (by decide) u _ _ _ n hn)
  clear hus hup hcr hu
  go_enter Try.func7, Try.ntmps7
  go_wp2_with fail
  refine HW.out.mono ?_
  rintro e ww ⟨rfl, hbw⟩
  have HBW := Lib.hid hbw
  clear hbw
  go_wp2_with fail
  refine (code_New _).mono ?_
  rintro e w0 ⟨rfl, hd0, hb0⟩
  have hB0 : w.heap.size ≤ ww.heap.size := HBW.out.size
  obtain ⟨g, hg⟩ : ∃ g, ww.heap.size = g := ⟨_, rfl⟩
  obtain ⟨B, hB⟩ : ∃ B, w.heap.size = B := ⟨_, rfl⟩
  have HM0 := Lib.hid (mine_new hd0 good_new hB0)
  have HS0 := Lib.hid (Nat.le_trans hB0 hb0.size)
  have HB0 := Lib.hid (HBW.out.trans (hb0.mono hB0))
  rw [hg] at HM0
  rw [hg]
  rw [hB] at HM0 HS0 HB0
  have HBB := Lib.hid hB
  clear hd0 hb0 hB0 hg hB HBW HW
  go_wp2_with fail
  refine (HM0.out.appendTo (by decide) HS0.out HX1.out).mono ?_
  rintro e w1 ⟨rfl, hb, lv1, hm⟩
  have HM1 := Lib.hid hm
  have HS1 := Lib.hid (Nat.le_trans HS0.out hb.size)
  have HB1 := Lib.hid (HB0.out.trans hb)
  clear hm hb HM0 HS0 HB0
  go_wp2_with fail
  refine (HM1.out.syncTo (by decide) HS1.out HX2.out).mono ?_
  rintro e w2 ⟨rfl, hb, lv2, hm⟩
  have HM2 := Lib.hid hm
  have HS2 := Lib.hid (Nat.le_trans HS1.out hb.size)
  have HB2 := Lib.hid (HB1.out.trans hb)
  clear hm hb HM1 HS1 HB1
  go_wp2_with fail
  refine (HM2.out.appendTo (by decide) HS2.out HX3.out).mono ?_
  rintro e w3 ⟨rfl, hb, lv3, hm⟩
  have HM3 := Lib.hid hm
  have HS3 := Lib.hid (Nat.le_trans HS2.out hb.size)
  have HB3 := Lib.hid (HB2.out.trans hb)
  clear hm hb HM2 HS2 HB2
  go_wp2_with fail
  refine ((HM3.out.alloc (.cells #[.int .i64 k] 3)).crashTo (by decide) (by have := HS3.out; simp; omega) (ki_one w3 k) HX4.out).mono ?_
  rintro e w4 ⟨rfl, hb, lv4, hm⟩
  have HM4 := Lib.hid hm
  have hb' := ((Below.refl B w3).alloc HS3.out (.cells #[.int .i64 k] 3)).trans hb
  have HS4 := Lib.hid (Nat.le_trans HS3.out hb'.size)
  have HB4 := Lib.hid (HB3.out.trans hb')
  clear hm hb hb' HM3 HS3 HB3
  go_wp2_with fail
  refine (HM4.out.allTo HX5.out).mono ?_
  rintro e w' ⟨rfl, rfl⟩
  go_wp2_with fail
  refine (HP.out _).mono ?_
  rintro e w' ⟨rfl, rfl⟩
  go_wp2_with fail
  refine (HM4.out.cutTo (by decide) HS4.out HX6.out).mono ?_
  rintro e w5 ⟨rfl, hb, lv5, hm⟩
  have HM5 := Lib.hid hm
  have HS5 := Lib.hid (Nat.le_trans HS4.out hb.size)
  have HB5 := Lib.hid (HB4.out.trans hb)
  clear hm hb HM4 HS4 HB4
  go_wp2_with fail
  refine (HM5.out.allTo HX5.out).mono ?_
  rintro e w' ⟨rfl, rfl⟩
  go_wp2_with fail
  go_ret
  exact ⟨rfl, by rw [HBB.out]; exact HB5.out⟩

set_option maxRecDepth 100000 in
set_option maxHeartbeats 6400000 in
theorem begins_mid_hi (s t : ByteArray) (w : World) (hs : s.size ≤ 4096) (ht : t.size ≤ 4096) (k : Nat) (hk0 : 0 < k) (hk : k ≤ t.size) (n : Int) (hn0 : 0 ≤ n) (hn1 : ((gotU s t (max (k : Int) 0).toNat).size : Int) < n) : Calls Try.prog 7 #[.string s, .string t, .int .i64 n, .int .i64 k] w fun e w' => e = .returned (.bool true) ∧ Below w.heap.size w w' := by
  have HW := Lib.hid (works_any w)
  obtain ⟨u, hu⟩ : ∃ u, gotU s t (max (k : Int) 0).toNat = u := ⟨_, rfl⟩
  have hus := gotU_size s t (max (k : Int) 0).toNat
  have hup := gotU_prefix s t (max (k : Int) 0).toNat
  have hcr := begins_crash s t (k : Int)
  rw [hu] at hus hup hcr hn1
  have HX1 := Lib.hid (show appendS newS 2 s = _ from app_new (f := 2) (by decide) s (by omega))
  have HX2 := Lib.hid (show syncerS ⟨rowF 2 s, E64, [⟨2, 0, false, s⟩], true, -1, 1⟩ 2 = _ from sync_new (f := 2) (by decide) s ⟨2, 0, false, s⟩ rfl 1)
  have HX3 := Lib.hid (show appendS ⟨rowF 2 s, rowF 2 s, [], true, -1, 2⟩ 2 t = _ from app_row (f := 2) (by decide) s t (rowF 2 s) [] 2 (by omega))
  have HX4 := Lib.hid hcr
  have HX5 := Lib.hid (show allS ⟨rowF 2 u, rowF 2 u, [], true, -1, 3⟩ 2 = u from all_row (f := 2) (by decide) u _ _ _ _)
  have HP := Lib.hid (fun w => Try.strings_HasPrefix (s ++ t) u w)
  rw [hup] at HP
  have hs1 : ¬ (4096 : Int) < (s.size : Int) := by omega
  have ht1 : ¬ (4096 : Int) < (t.size : Int) := by omega
  have hs2 : (s.size : Int) ≤ 4096 := by omega
  have hm : (max (k : Int) 0).toNat = k := by omega
  rw [hm, Nat.min_eq_left hk] at hus
  have hq : (((u.size : Nat) : Int) != (s.size : Int) + (k : Int)) = false := by rw [hus]; simp
  have hk1 : ¬ (t.size : Int) < (k : Int) := by omega
  have hk2 : (0 : Int) < (k : Int) := by omega
  have hk3 : ¬ (k : Int) < 0 := by omega
  have hk4 : (k : Int) ≤ 4096 := by omega
  have hn : n < 0 ∨ (u.size : Int) < n := Or.inr hn1
  have hn3 : ¬ n < 0 := by omega
  have HX6 := Lib.hid (show cutterS ⟨rowF 2 u, rowF 2 u, [], true, -1, 3⟩ 2 n = _ from cut_no (f := 2) (by decide) u _ _ _ n hn)
  clear hus hup hcr hu
  go_enter Try.func7, Try.ntmps7
  go_wp2_with fail
  refine HW.out.mono ?_
  rintro e ww ⟨rfl, hbw⟩
  have HBW := Lib.hid hbw
  clear hbw
  go_wp2_with fail
  refine (code_New _).mono ?_
  rintro e w0 ⟨rfl, hd0, hb0⟩
  have hB0 : w.heap.size ≤ ww.heap.size := HBW.out.size
  obtain ⟨g, hg⟩ : ∃ g, ww.heap.size = g := ⟨_, rfl⟩
  obtain ⟨B, hB⟩ : ∃ B, w.heap.size = B := ⟨_, rfl⟩
  have HM0 := Lib.hid (mine_new hd0 good_new hB0)
  have HS0 := Lib.hid (Nat.le_trans hB0 hb0.size)
  have HB0 := Lib.hid (HBW.out.trans (hb0.mono hB0))
  rw [hg] at HM0
  rw [hg]
  rw [hB] at HM0 HS0 HB0
  have HBB := Lib.hid hB
  clear hd0 hb0 hB0 hg hB HBW HW
  go_wp2_with fail
  refine (HM0.out.appendTo (by decide) HS0.out HX1.out).mono ?_
  rintro e w1 ⟨rfl, hb, lv1, hm⟩
  have HM1 := Lib.hid hm
  have HS1 := Lib.hid (Nat.le_trans HS0.out hb.size)
  have HB1 := Lib.hid (HB0.out.trans hb)
  clear hm hb HM0 HS0 HB0
  go_wp2_with fail
  refine (HM1.out.syncTo (by decide) HS1.out HX2.out).mono ?_
  rintro e w2 ⟨rfl, hb, lv2, hm⟩
  have HM2 := Lib.hid hm
  have HS2 := Lib.hid (Nat.le_trans HS1.out hb.size)
  have HB2 := Lib.hid (HB1.out.trans hb)
  clear hm hb HM1 HS1 HB1
  go_wp2_with fail
  refine (HM2.out.appendTo (by decide) HS2.out HX3.out).mono ?_
  rintro e w3 ⟨rfl, hb, lv3, hm⟩
  have HM3 := Lib.hid hm
  have HS3 := Lib.hid (Nat.le_trans HS2.out hb.size)
  have HB3 := Lib.hid (HB2.out.trans hb)
  clear hm hb HM2 HS2 HB2
  go_wp2_with fail
  refine ((HM3.out.alloc (.cells #[.int .i64 k] 3)).crashTo (by decide) (by have := HS3.out; simp; omega) (ki_one w3 k) HX4.out).mono ?_
  rintro e w4 ⟨rfl, hb, lv4, hm⟩
  have HM4 := Lib.hid hm
  have hb' := ((Below.refl B w3).alloc HS3.out (.cells #[.int .i64 k] 3)).trans hb
  have HS4 := Lib.hid (Nat.le_trans HS3.out hb'.size)
  have HB4 := Lib.hid (HB3.out.trans hb')
  clear hm hb hb' HM3 HS3 HB3
  go_wp2_with fail
  refine (HM4.out.allTo HX5.out).mono ?_
  rintro e w' ⟨rfl, rfl⟩
  go_wp2_with fail
  refine (HP.out _).mono ?_
  rintro e w' ⟨rfl, rfl⟩
  go_wp2_with fail
  refine (HM4.out.cutTo (by decide) HS4.out HX6.out).mono ?_
  rintro e w5 ⟨rfl, hb, lv5, hm⟩
  have HM5 := Lib.hid hm
  have HS5 := Lib.hid (Nat.le_trans HS4.out hb.size)
  have HB5 := Lib.hid (HB4.out.trans hb)
  clear hm hb HM4 HS4 HB4
  go_wp2_with fail
  refine (HM5.out.allTo HX5.out).mono ?_
  rintro e w' ⟨rfl, rfl⟩
  go_wp2_with fail
  go_ret
  exact ⟨rfl, by rw [HBB.out]; exact HB5.out⟩

set_option maxRecDepth 100000 in
set_option maxHeartbeats 6400000 in
theorem begins_mid_ok (s t : ByteArray) (w : World) (hs : s.size ≤ 4096) (ht : t.size ≤ 4096) (k : Nat) (hk0 : 0 < k) (hk : k ≤ t.size) (n : Nat) (hn1 : n ≤ (gotU s t (max (k : Int) 0).toNat).size) : Calls Try.prog 7 #[.string s, .string t, .int .i64 n, .int .i64 k] w fun e w' => e = .returned (.bool true) ∧ Below w.heap.size w w' := by
  have HW := Lib.hid (works_any w)
  obtain ⟨u, hu⟩ : ∃ u, gotU s t (max (k : Int) 0).toNat = u := ⟨_, rfl⟩
  have hus := gotU_size s t (max (k : Int) 0).toNat
  have hup := gotU_prefix s t (max (k : Int) 0).toNat
  have hcr := begins_crash s t (k : Int)
  rw [hu] at hus hup hcr hn1
  have HX1 := Lib.hid (show appendS newS 2 s = _ from app_new (f := 2) (by decide) s (by omega))
  have HX2 := Lib.hid (show syncerS ⟨rowF 2 s, E64, [⟨2, 0, false, s⟩], true, -1, 1⟩ 2 = _ from sync_new (f := 2) (by decide) s ⟨2, 0, false, s⟩ rfl 1)
  have HX3 := Lib.hid (show appendS ⟨rowF 2 s, rowF 2 s, [], true, -1, 2⟩ 2 t = _ from app_row (f := 2) (by decide) s t (rowF 2 s) [] 2 (by omega))
  have HX4 := Lib.hid hcr
  have HX5 := Lib.hid (show allS ⟨rowF 2 u, rowF 2 u, [], true, -1, 3⟩ 2 = u from all_row (f := 2) (by decide) u _ _ _ _)
  have HP := Lib.hid (fun w => Try.strings_HasPrefix (s ++ t) u w)
  rw [hup] at HP
  have hs1 : ¬ (4096 : Int) < (s.size : Int) := by omega
  have ht1 : ¬ (4096 : Int) < (t.size : Int) := by omega
  have hs2 : (s.size : Int) ≤ 4096 := by omega
  have hm : (max (k : Int) 0).toNat = k := by omega
  rw [hm, Nat.min_eq_left hk] at hus
  have hq : (((u.size : Nat) : Int) != (s.size : Int) + (k : Int)) = false := by rw [hus]; simp
  have hk1 : ¬ (t.size : Int) < (k : Int) := by omega
  have hk2 : (0 : Int) < (k : Int) := by omega
  have hk3 : ¬ (k : Int) < 0 := by omega
  have hk4 : (k : Int) ≤ 4096 := by omega
  clear hus hup hcr hu
  have HX6 := Lib.hid (show cutterS ⟨rowF 2 u, rowF 2 u, [], true, -1, 3⟩ 2 n = _ from cut_yes (f := 2) (by decide) u _ _ _ n hn1)
  have hcr2 := begins_crash2 u n (k : Int)
  rw [hm, if_neg (by omega)] at hcr2
  have HX7 := Lib.hid hcr2
  have HX8 := Lib.hid (show allS ⟨rowF 2 (u.extract 0 n), rowF 2 (u.extract 0 n), [], true, -1, 4⟩ 2 = u.extract 0 n from all_row (f := 2) (by decide) _ _ _ _ _)
  have hn2 : ¬ (u.size : Int) < (n : Int) := by omega
  have hn3 : (n : Int) ≤ u.size := by omega
  clear hcr2 hm
  go_enter Try.func7, Try.ntmps7
  go_wp2_with fail
  refine HW.out.mono ?_
  rintro e ww ⟨rfl, hbw⟩
  have HBW := Lib.hid hbw
  clear hbw
  go_wp2_with fail
  refine (code_New _).mono ?_
  rintro e w0 ⟨rfl, hd0, hb0⟩
  have hB0 : w.heap.size ≤ ww.heap.size := HBW.out.size
  obtain ⟨g, hg⟩ : ∃ g, ww.heap.size = g := ⟨_, rfl⟩
  obtain ⟨B, hB⟩ : ∃ B, w.heap.size = B := ⟨_, rfl⟩
  have HM0 := Lib.hid (mine_new hd0 good_new hB0)
  have HS0 := Lib.hid (Nat.le_trans hB0 hb0.size)
  have HB0 := Lib.hid (HBW.out.trans (hb0.mono hB0))
  rw [hg] at HM0
  rw [hg]
  rw [hB] at HM0 HS0 HB0
  have HBB := Lib.hid hB
  clear hd0 hb0 hB0 hg hB HBW HW
  go_wp2_with fail
  refine (HM0.out.appendTo (by decide) HS0.out HX1.out).mono ?_
  rintro e w1 ⟨rfl, hb, lv1, hm⟩
  have HM1 := Lib.hid hm
  have HS1 := Lib.hid (Nat.le_trans HS0.out hb.size)
  have HB1 := Lib.hid (HB0.out.trans hb)
  clear hm hb HM0 HS0 HB0
  go_wp2_with fail
  refine (HM1.out.syncTo (by decide) HS1.out HX2.out).mono ?_
  rintro e w2 ⟨rfl, hb, lv2, hm⟩
  have HM2 := Lib.hid hm
  have HS2 := Lib.hid (Nat.le_trans HS1.out hb.size)
  have HB2 := Lib.hid (HB1.out.trans hb)
  clear hm hb HM1 HS1 HB1
  go_wp2_with fail
  refine (HM2.out.appendTo (by decide) HS2.out HX3.out).mono ?_
  rintro e w3 ⟨rfl, hb, lv3, hm⟩
  have HM3 := Lib.hid hm
  have HS3 := Lib.hid (Nat.le_trans HS2.out hb.size)
  have HB3 := Lib.hid (HB2.out.trans hb)
  clear hm hb HM2 HS2 HB2
  go_wp2_with fail
  refine ((HM3.out.alloc (.cells #[.int .i64 k] 3)).crashTo (by decide) (by have := HS3.out; simp; omega) (ki_one w3 k) HX4.out).mono ?_
  rintro e w4 ⟨rfl, hb, lv4, hm⟩
  have HM4 := Lib.hid hm
  have hb' := ((Below.refl B w3).alloc HS3.out (.cells #[.int .i64 k] 3)).trans hb
  have HS4 := Lib.hid (Nat.le_trans HS3.out hb'.size)
  have HB4 := Lib.hid (HB3.out.trans hb')
  clear hm hb hb' HM3 HS3 HB3
  go_wp2_with fail
  refine (HM4.out.allTo HX5.out).mono ?_
  rintro e w' ⟨rfl, rfl⟩
  go_wp2_with fail
  refine (HP.out _).mono ?_
  rintro e w' ⟨rfl, rfl⟩
  go_wp2_with fail
  refine (HM4.out.cutTo (by decide) HS4.out HX6.out).mono ?_
  rintro e w5 ⟨rfl, hb, lv5, hm⟩
  have HM5 := Lib.hid hm
  have HS5 := Lib.hid (Nat.le_trans HS4.out hb.size)
  have HB5 := Lib.hid (HB4.out.trans hb)
  clear hm hb HM4 HS4 HB4
  go_wp2_with fail
  refine ((HM5.out.alloc (.cells #[.int .i64 k] 3)).crashTo (by decide) (by have := HS5.out; simp; omega) (ki_one w5 k) HX7.out).mono ?_
  rintro e w6 ⟨rfl, hb, lv6, hm⟩
  have HM6 := Lib.hid hm
  have hb' := ((Below.refl B w5).alloc HS5.out (.cells #[.int .i64 k] 3)).trans hb
  have HS6 := Lib.hid (Nat.le_trans HS5.out hb'.size)
  have HB6 := Lib.hid (HB5.out.trans hb')
  clear hm hb hb' HM5 HS5 HB5
  go_wp2_with fail
  have HAD := Lib.hid (fun m => HM6.out.allD HX8.out m)
  go_quiet ((go_at_call 17; with_reducible exact Calls.quiet_of_same (HAD.out _)))
  go_wp2_with fail
  go_ret
  exact ⟨rfl, by rw [HBB.out]; exact below_drewN HB6.out _⟩

set_option maxRecDepth 100000 in
set_option maxHeartbeats 6400000 in
theorem begins_far_lo (s t : ByteArray) (w : World) (hs : s.size ≤ 4096) (ht : t.size ≤ 4096) (keep : Int) (hk : (t.size : Int) < keep) (n : Int) (hn0 : n < 0) : Calls Try.prog 7 #[.string s, .string t, .int .i64 n, .int .i64 keep] w fun e w' => e = .returned (.bool true) ∧ Below w.heap.size w w' := by
  have HW := Lib.hid (works_any w)
  obtain ⟨u, hu⟩ : ∃ u, gotU s t (max (keep : Int) 0).toNat = u := ⟨_, rfl⟩
  have hus := gotU_size s t (max (keep : Int) 0).toNat
  have hup := gotU_prefix s t (max (keep : Int) 0).toNat
  have hcr := begins_crash s t (keep : Int)
  rw [hu] at hus hup hcr
  have HX1 := Lib.hid (show appendS newS 2 s = _ from app_new (f := 2) (by decide) s (by omega))
  have HX2 := Lib.hid (show syncerS ⟨rowF 2 s, E64, [⟨2, 0, false, s⟩], true, -1, 1⟩ 2 = _ from sync_new (f := 2) (by decide) s ⟨2, 0, false, s⟩ rfl 1)
  have HX3 := Lib.hid (show appendS ⟨rowF 2 s, rowF 2 s, [], true, -1, 2⟩ 2 t = _ from app_row (f := 2) (by decide) s t (rowF 2 s) [] 2 (by omega))
  have HX4 := Lib.hid hcr
  have HX5 := Lib.hid (show allS ⟨rowF 2 u, rowF 2 u, [], true, -1, 3⟩ 2 = u from all_row (f := 2) (by decide) u _ _ _ _)
  have HP := Lib.hid (fun w => Try.strings_HasPrefix (s ++ t) u w)
  rw [hup] at HP
  have hs1 : ¬ (4096 : Int) < (s.size : Int) := by omega
  have ht1 : ¬ (4096 : Int) < (t.size : Int) := by omega
  have hs2 : (s.size : Int) ≤ 4096 := by omega
  have hm : (max keep 0).toNat = keep.toNat := by omega
  rw [hm, Nat.min_eq_right (by omega)] at hus
  have hq : (((u.size : Nat) : Int) != (s.size : Int) + (t.size : Int)) = false := by rw [hus]; simp
  have hk2 : (0 : Int) < keep := by omega
  have hk3 : ¬ keep < 0 := by omega
  have hk4 : (t.size : Int) ≤ 4096 := by omega
  have hn : n < 0 ∨ (u.size : Int) < n := Or.inl hn0
  have HX6 := Lib.hid (show cutterS ⟨rowF 2 u, rowF 2 u, [], true, -1, 3⟩ 2 n = _ from cut_no (f := 2) (by decide) u _ _ _ n hn)
  clear hus hup hcr hu
  go_enter Try.func7, Try.ntmps7
  go_wp2_with fail
  refine HW.out.mono ?_
  rintro e ww ⟨rfl, hbw⟩
  have HBW := Lib.hid hbw
  clear hbw
  go_wp2_with fail
  refine (code_New _).mono ?_
  rintro e w0 ⟨rfl, hd0, hb0⟩
  have hB0 : w.heap.size ≤ ww.heap.size := HBW.out.size
  obtain ⟨g, hg⟩ : ∃ g, ww.heap.size = g := ⟨_, rfl⟩
  obtain ⟨B, hB⟩ : ∃ B, w.heap.size = B := ⟨_, rfl⟩
  have HM0 := Lib.hid (mine_new hd0 good_new hB0)
  have HS0 := Lib.hid (Nat.le_trans hB0 hb0.size)
  have HB0 := Lib.hid (HBW.out.trans (hb0.mono hB0))
  rw [hg] at HM0
  rw [hg]
  rw [hB] at HM0 HS0 HB0
  have HBB := Lib.hid hB
  clear hd0 hb0 hB0 hg hB HBW HW
  go_wp2_with fail
  refine (HM0.out.appendTo (by decide) HS0.out HX1.out).mono ?_
  rintro e w1 ⟨rfl, hb, lv1, hm⟩
  have HM1 := Lib.hid hm
  have HS1 := Lib.hid (Nat.le_trans HS0.out hb.size)
  have HB1 := Lib.hid (HB0.out.trans hb)
  clear hm hb HM0 HS0 HB0
  go_wp2_with fail
  refine (HM1.out.syncTo (by decide) HS1.out HX2.out).mono ?_
  rintro e w2 ⟨rfl, hb, lv2, hm⟩
  have HM2 := Lib.hid hm
  have HS2 := Lib.hid (Nat.le_trans HS1.out hb.size)
  have HB2 := Lib.hid (HB1.out.trans hb)
  clear hm hb HM1 HS1 HB1
  go_wp2_with fail
  refine (HM2.out.appendTo (by decide) HS2.out HX3.out).mono ?_
  rintro e w3 ⟨rfl, hb, lv3, hm⟩
  have HM3 := Lib.hid hm
  have HS3 := Lib.hid (Nat.le_trans HS2.out hb.size)
  have HB3 := Lib.hid (HB2.out.trans hb)
  clear hm hb HM2 HS2 HB2
  go_wp2_with fail
  refine ((HM3.out.alloc (.cells #[.int .i64 keep] 3)).crashTo (by decide) (by have := HS3.out; simp; omega) (ki_one w3 keep) HX4.out).mono ?_
  rintro e w4 ⟨rfl, hb, lv4, hm⟩
  have HM4 := Lib.hid hm
  have hb' := ((Below.refl B w3).alloc HS3.out (.cells #[.int .i64 keep] 3)).trans hb
  have HS4 := Lib.hid (Nat.le_trans HS3.out hb'.size)
  have HB4 := Lib.hid (HB3.out.trans hb')
  clear hm hb hb' HM3 HS3 HB3
  go_wp2_with fail
  refine (HM4.out.allTo HX5.out).mono ?_
  rintro e w' ⟨rfl, rfl⟩
  go_wp2_with fail
  refine (HP.out _).mono ?_
  rintro e w' ⟨rfl, rfl⟩
  go_wp2_with fail
  refine (HM4.out.cutTo (by decide) HS4.out HX6.out).mono ?_
  rintro e w5 ⟨rfl, hb, lv5, hm⟩
  have HM5 := Lib.hid hm
  have HS5 := Lib.hid (Nat.le_trans HS4.out hb.size)
  have HB5 := Lib.hid (HB4.out.trans hb)
  clear hm hb HM4 HS4 HB4
  go_wp2_with fail
  refine (HM5.out.allTo HX5.out).mono ?_
  rintro e w' ⟨rfl, rfl⟩
  go_wp2_with fail
  go_ret
  exact ⟨rfl, by rw [HBB.out]; exact HB5.out⟩

set_option maxRecDepth 100000 in
set_option maxHeartbeats 6400000 in
theorem begins_far_hi (s t : ByteArray) (w : World) (hs : s.size ≤ 4096) (ht : t.size ≤ 4096) (keep : Int) (hk : (t.size : Int) < keep) (n : Int) (hn0 : 0 ≤ n) (hn1 : ((gotU s t (max (keep : Int) 0).toNat).size : Int) < n) : Calls Try.prog 7 #[.string s, .string t, .int .i64 n, .int .i64 keep] w fun e w' => e = .returned (.bool true) ∧ Below w.heap.size w w' := by
  have HW := Lib.hid (works_any w)
  obtain ⟨u, hu⟩ : ∃ u, gotU s t (max (keep : Int) 0).toNat = u := ⟨_, rfl⟩
  have hus := gotU_size s t (max (keep : Int) 0).toNat
  have hup := gotU_prefix s t (max (keep : Int) 0).toNat
  have hcr := begins_crash s t (keep : Int)
  rw [hu] at hus hup hcr hn1
  have HX1 := Lib.hid (show appendS newS 2 s = _ from app_new (f := 2) (by decide) s (by omega))
  have HX2 := Lib.hid (show syncerS ⟨rowF 2 s, E64, [⟨2, 0, false, s⟩], true, -1, 1⟩ 2 = _ from sync_new (f := 2) (by decide) s ⟨2, 0, false, s⟩ rfl 1)
  have HX3 := Lib.hid (show appendS ⟨rowF 2 s, rowF 2 s, [], true, -1, 2⟩ 2 t = _ from app_row (f := 2) (by decide) s t (rowF 2 s) [] 2 (by omega))
  have HX4 := Lib.hid hcr
  have HX5 := Lib.hid (show allS ⟨rowF 2 u, rowF 2 u, [], true, -1, 3⟩ 2 = u from all_row (f := 2) (by decide) u _ _ _ _)
  have HP := Lib.hid (fun w => Try.strings_HasPrefix (s ++ t) u w)
  rw [hup] at HP
  have hs1 : ¬ (4096 : Int) < (s.size : Int) := by omega
  have ht1 : ¬ (4096 : Int) < (t.size : Int) := by omega
  have hs2 : (s.size : Int) ≤ 4096 := by omega
  have hm : (max (keep : Int) 0).toNat = keep.toNat := by omega
  rw [hm, Nat.min_eq_right (by omega)] at hus
  have hq : (((u.size : Nat) : Int) != (s.size : Int) + (t.size : Int)) = false := by rw [hus]; simp
  have hk2 : (0 : Int) < keep := by omega
  have hk3 : ¬ keep < 0 := by omega
  have hk4 : (t.size : Int) ≤ 4096 := by omega
  have hn : n < 0 ∨ (u.size : Int) < n := Or.inr hn1
  have hn3 : ¬ n < 0 := by omega
  have HX6 := Lib.hid (show cutterS ⟨rowF 2 u, rowF 2 u, [], true, -1, 3⟩ 2 n = _ from cut_no (f := 2) (by decide) u _ _ _ n hn)
  clear hus hup hcr hu
  go_enter Try.func7, Try.ntmps7
  go_wp2_with fail
  refine HW.out.mono ?_
  rintro e ww ⟨rfl, hbw⟩
  have HBW := Lib.hid hbw
  clear hbw
  go_wp2_with fail
  refine (code_New _).mono ?_
  rintro e w0 ⟨rfl, hd0, hb0⟩
  have hB0 : w.heap.size ≤ ww.heap.size := HBW.out.size
  obtain ⟨g, hg⟩ : ∃ g, ww.heap.size = g := ⟨_, rfl⟩
  obtain ⟨B, hB⟩ : ∃ B, w.heap.size = B := ⟨_, rfl⟩
  have HM0 := Lib.hid (mine_new hd0 good_new hB0)
  have HS0 := Lib.hid (Nat.le_trans hB0 hb0.size)
  have HB0 := Lib.hid (HBW.out.trans (hb0.mono hB0))
  rw [hg] at HM0
  rw [hg]
  rw [hB] at HM0 HS0 HB0
  have HBB := Lib.hid hB
  clear hd0 hb0 hB0 hg hB HBW HW
  go_wp2_with fail
  refine (HM0.out.appendTo (by decide) HS0.out HX1.out).mono ?_
  rintro e w1 ⟨rfl, hb, lv1, hm⟩
  have HM1 := Lib.hid hm
  have HS1 := Lib.hid (Nat.le_trans HS0.out hb.size)
  have HB1 := Lib.hid (HB0.out.trans hb)
  clear hm hb HM0 HS0 HB0
  go_wp2_with fail
  refine (HM1.out.syncTo (by decide) HS1.out HX2.out).mono ?_
  rintro e w2 ⟨rfl, hb, lv2, hm⟩
  have HM2 := Lib.hid hm
  have HS2 := Lib.hid (Nat.le_trans HS1.out hb.size)
  have HB2 := Lib.hid (HB1.out.trans hb)
  clear hm hb HM1 HS1 HB1
  go_wp2_with fail
  refine (HM2.out.appendTo (by decide) HS2.out HX3.out).mono ?_
  rintro e w3 ⟨rfl, hb, lv3, hm⟩
  have HM3 := Lib.hid hm
  have HS3 := Lib.hid (Nat.le_trans HS2.out hb.size)
  have HB3 := Lib.hid (HB2.out.trans hb)
  clear hm hb HM2 HS2 HB2
  go_wp2_with fail
  refine ((HM3.out.alloc (.cells #[.int .i64 keep] 3)).crashTo (by decide) (by have := HS3.out; simp; omega) (ki_one w3 keep) HX4.out).mono ?_
  rintro e w4 ⟨rfl, hb, lv4, hm⟩
  have HM4 := Lib.hid hm
  have hb' := ((Below.refl B w3).alloc HS3.out (.cells #[.int .i64 keep] 3)).trans hb
  have HS4 := Lib.hid (Nat.le_trans HS3.out hb'.size)
  have HB4 := Lib.hid (HB3.out.trans hb')
  clear hm hb hb' HM3 HS3 HB3
  go_wp2_with fail
  refine (HM4.out.allTo HX5.out).mono ?_
  rintro e w' ⟨rfl, rfl⟩
  go_wp2_with fail
  refine (HP.out _).mono ?_
  rintro e w' ⟨rfl, rfl⟩
  go_wp2_with fail
  refine (HM4.out.cutTo (by decide) HS4.out HX6.out).mono ?_
  rintro e w5 ⟨rfl, hb, lv5, hm⟩
  have HM5 := Lib.hid hm
  have HS5 := Lib.hid (Nat.le_trans HS4.out hb.size)
  have HB5 := Lib.hid (HB4.out.trans hb)
  clear hm hb HM4 HS4 HB4
  go_wp2_with fail
  refine (HM5.out.allTo HX5.out).mono ?_
  rintro e w' ⟨rfl, rfl⟩
  go_wp2_with fail
  go_ret
  exact ⟨rfl, by rw [HBB.out]; exact HB5.out⟩

set_option maxRecDepth 100000 in
set_option maxHeartbeats 6400000 in
theorem begins_far_ok (s t : ByteArray) (w : World) (hs : s.size ≤ 4096) (ht : t.size ≤ 4096) (keep : Int) (hk : (t.size : Int) < keep) (n : Nat) (hn1 : n ≤ (gotU s t (max (keep : Int) 0).toNat).size) : Calls Try.prog 7 #[.string s, .string t, .int .i64 n, .int .i64 keep] w fun e w' => e = .returned (.bool true) ∧ Below w.heap.size w w' := by
  have HW := Lib.hid (works_any w)
  obtain ⟨u, hu⟩ : ∃ u, gotU s t (max (keep : Int) 0).toNat = u := ⟨_, rfl⟩
  have hus := gotU_size s t (max (keep : Int) 0).toNat
  have hup := gotU_prefix s t (max (keep : Int) 0).toNat
  have hcr := begins_crash s t (keep : Int)
  rw [hu] at hus hup hcr hn1
  have HX1 := Lib.hid (show appendS newS 2 s = _ from app_new (f := 2) (by decide) s (by omega))
  have HX2 := Lib.hid (show syncerS ⟨rowF 2 s, E64, [⟨2, 0, false, s⟩], true, -1, 1⟩ 2 = _ from sync_new (f := 2) (by decide) s ⟨2, 0, false, s⟩ rfl 1)
  have HX3 := Lib.hid (show appendS ⟨rowF 2 s, rowF 2 s, [], true, -1, 2⟩ 2 t = _ from app_row (f := 2) (by decide) s t (rowF 2 s) [] 2 (by omega))
  have HX4 := Lib.hid hcr
  have HX5 := Lib.hid (show allS ⟨rowF 2 u, rowF 2 u, [], true, -1, 3⟩ 2 = u from all_row (f := 2) (by decide) u _ _ _ _)
  have HP := Lib.hid (fun w => Try.strings_HasPrefix (s ++ t) u w)
  rw [hup] at HP
  have hs1 : ¬ (4096 : Int) < (s.size : Int) := by omega
  have ht1 : ¬ (4096 : Int) < (t.size : Int) := by omega
  have hs2 : (s.size : Int) ≤ 4096 := by omega
  have hm : (max (keep : Int) 0).toNat = keep.toNat := by omega
  rw [hm, Nat.min_eq_right (by omega)] at hus
  have hq : (((u.size : Nat) : Int) != (s.size : Int) + (t.size : Int)) = false := by rw [hus]; simp
  have hk2 : (0 : Int) < keep := by omega
  have hk3 : ¬ keep < 0 := by omega
  have hk4 : (t.size : Int) ≤ 4096 := by omega
  clear hus hup hcr hu
  have HX6 := Lib.hid (show cutterS ⟨rowF 2 u, rowF 2 u, [], true, -1, 3⟩ 2 n = _ from cut_yes (f := 2) (by decide) u _ _ _ n hn1)
  have hcr2 := begins_crash2 u n (keep : Int)
  rw [hm, if_neg (by omega)] at hcr2
  have HX7 := Lib.hid hcr2
  have HX8 := Lib.hid (show allS ⟨rowF 2 (u.extract 0 n), rowF 2 (u.extract 0 n), [], true, -1, 4⟩ 2 = u.extract 0 n from all_row (f := 2) (by decide) _ _ _ _ _)
  have hn2 : ¬ (u.size : Int) < (n : Int) := by omega
  have hn3 : (n : Int) ≤ u.size := by omega
  clear hcr2 hm
  go_enter Try.func7, Try.ntmps7
  go_wp2_with fail
  refine HW.out.mono ?_
  rintro e ww ⟨rfl, hbw⟩
  have HBW := Lib.hid hbw
  clear hbw
  go_wp2_with fail
  refine (code_New _).mono ?_
  rintro e w0 ⟨rfl, hd0, hb0⟩
  have hB0 : w.heap.size ≤ ww.heap.size := HBW.out.size
  obtain ⟨g, hg⟩ : ∃ g, ww.heap.size = g := ⟨_, rfl⟩
  obtain ⟨B, hB⟩ : ∃ B, w.heap.size = B := ⟨_, rfl⟩
  have HM0 := Lib.hid (mine_new hd0 good_new hB0)
  have HS0 := Lib.hid (Nat.le_trans hB0 hb0.size)
  have HB0 := Lib.hid (HBW.out.trans (hb0.mono hB0))
  rw [hg] at HM0
  rw [hg]
  rw [hB] at HM0 HS0 HB0
  have HBB := Lib.hid hB
  clear hd0 hb0 hB0 hg hB HBW HW
  go_wp2_with fail
  refine (HM0.out.appendTo (by decide) HS0.out HX1.out).mono ?_
  rintro e w1 ⟨rfl, hb, lv1, hm⟩
  have HM1 := Lib.hid hm
  have HS1 := Lib.hid (Nat.le_trans HS0.out hb.size)
  have HB1 := Lib.hid (HB0.out.trans hb)
  clear hm hb HM0 HS0 HB0
  go_wp2_with fail
  refine (HM1.out.syncTo (by decide) HS1.out HX2.out).mono ?_
  rintro e w2 ⟨rfl, hb, lv2, hm⟩
  have HM2 := Lib.hid hm
  have HS2 := Lib.hid (Nat.le_trans HS1.out hb.size)
  have HB2 := Lib.hid (HB1.out.trans hb)
  clear hm hb HM1 HS1 HB1
  go_wp2_with fail
  refine (HM2.out.appendTo (by decide) HS2.out HX3.out).mono ?_
  rintro e w3 ⟨rfl, hb, lv3, hm⟩
  have HM3 := Lib.hid hm
  have HS3 := Lib.hid (Nat.le_trans HS2.out hb.size)
  have HB3 := Lib.hid (HB2.out.trans hb)
  clear hm hb HM2 HS2 HB2
  go_wp2_with fail
  refine ((HM3.out.alloc (.cells #[.int .i64 keep] 3)).crashTo (by decide) (by have := HS3.out; simp; omega) (ki_one w3 keep) HX4.out).mono ?_
  rintro e w4 ⟨rfl, hb, lv4, hm⟩
  have HM4 := Lib.hid hm
  have hb' := ((Below.refl B w3).alloc HS3.out (.cells #[.int .i64 keep] 3)).trans hb
  have HS4 := Lib.hid (Nat.le_trans HS3.out hb'.size)
  have HB4 := Lib.hid (HB3.out.trans hb')
  clear hm hb hb' HM3 HS3 HB3
  go_wp2_with fail
  refine (HM4.out.allTo HX5.out).mono ?_
  rintro e w' ⟨rfl, rfl⟩
  go_wp2_with fail
  refine (HP.out _).mono ?_
  rintro e w' ⟨rfl, rfl⟩
  go_wp2_with fail
  refine (HM4.out.cutTo (by decide) HS4.out HX6.out).mono ?_
  rintro e w5 ⟨rfl, hb, lv5, hm⟩
  have HM5 := Lib.hid hm
  have HS5 := Lib.hid (Nat.le_trans HS4.out hb.size)
  have HB5 := Lib.hid (HB4.out.trans hb)
  clear hm hb HM4 HS4 HB4
  go_wp2_with fail
  refine ((HM5.out.alloc (.cells #[.int .i64 keep] 3)).crashTo (by decide) (by have := HS5.out; simp; omega) (ki_one w5 keep) HX7.out).mono ?_
  rintro e w6 ⟨rfl, hb, lv6, hm⟩
  have HM6 := Lib.hid hm
  have hb' := ((Below.refl B w5).alloc HS5.out (.cells #[.int .i64 keep] 3)).trans hb
  have HS6 := Lib.hid (Nat.le_trans HS5.out hb'.size)
  have HB6 := Lib.hid (HB5.out.trans hb')
  clear hm hb hb' HM5 HS5 HB5
  go_wp2_with fail
  have HAD := Lib.hid (fun m => HM6.out.allD HX8.out m)
  go_quiet ((go_at_call 17; with_reducible exact Calls.quiet_of_same (HAD.out _)))
  go_wp2_with fail
  go_ret
  exact ⟨rfl, by rw [HBB.out]; exact below_drewN HB6.out _⟩

theorem law_DiskBegins (a0 a1 : ByteArray) (a2 a3 : Int) (_w0 : a0.size ≤ maxLen) (_w1 : a1.size ≤ maxLen) (_w2 : (Lit.int .i64 a2).wf = true) (_w3 : (Lit.int .i64 a3).wf = true) (w : World) :
    Calls Try.prog 7 #[.string a0, .string a1, .int .i64 a2, .int .i64 a3] w fun e w' => e = .returned (.bool true) ∧ Below w.heap.size w w' := by
  by_cases hb : 4096 < a0.size ∨ 4096 < a1.size
  · exact begins_big a0 a1 a2 a3 w hb
  · have hs : a0.size ≤ 4096 := by omega
    have ht : a1.size ≤ 4096 := by omega
    by_cases h0 : a2 < 0
    · by_cases k0 : a3 < 0
      · exact begins_neg_lo a0 a1 w hs ht a3 k0 a2 h0
      · by_cases k1 : a3 = 0
        · subst k1
          exact begins_zero_lo a0 a1 w hs ht a2 h0
        · by_cases k2 : a3 ≤ a1.size
          · obtain ⟨k, rfl⟩ : ∃ k : Nat, a3 = k := ⟨a3.toNat, by omega⟩
            exact begins_mid_lo a0 a1 w hs ht k (by omega) (by omega) a2 h0
          · exact begins_far_lo a0 a1 w hs ht a3 (by omega) a2 h0
    · by_cases h1 : ((gotU a0 a1 (max a3 0).toNat).size : Int) < a2
      · by_cases k0 : a3 < 0
        · exact begins_neg_hi a0 a1 w hs ht a3 k0 a2 (by omega) h1
        · by_cases k1 : a3 = 0
          · subst k1
            exact begins_zero_hi a0 a1 w hs ht a2 (by omega) h1
          · by_cases k2 : a3 ≤ a1.size
            · obtain ⟨k, rfl⟩ : ∃ k : Nat, a3 = k := ⟨a3.toNat, by omega⟩
              exact begins_mid_hi a0 a1 w hs ht k (by omega) (by omega) a2 (by omega) h1
            · exact begins_far_hi a0 a1 w hs ht a3 (by omega) a2 (by omega) h1
      · obtain ⟨n, rfl⟩ : ∃ n : Nat, a2 = n := ⟨a2.toNat, by omega⟩
        by_cases k0 : a3 < 0
        · exact begins_neg_ok a0 a1 w hs ht a3 k0 n (by omega)
        · by_cases k1 : a3 = 0
          · subst k1
            exact begins_zero_ok a0 a1 w hs ht n (by omega)
          · by_cases k2 : a3 ≤ a1.size
            · obtain ⟨k, rfl⟩ : ∃ k : Nat, a3 = k := ⟨a3.toNat, by omega⟩
              exact begins_mid_ok a0 a1 w hs ht k (by omega) (by omega) n (by omega)
            · exact begins_far_ok a0 a1 w hs ht a3 (by omega) n (by omega)
end Go.Proofs.Ytbnepjoiepphiaa.Dk
