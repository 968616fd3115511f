/- lot: the code's winner and its closure; Wins. -/
import Derived.Test.YtogpnfgjdnccdaaLoDb
namespace Go.Proofs.Ytogpnfgjdnccdaa.Lot
open Go.RowKit Go.Proofs.Ytogpnfgjdnccdaa.Wide

theorem code_less (X Y : Nat) (hX : X < 340282366920938463463374607431768211456) (hY : Y < 340282366920938463463374607431768211456) (w : World) :
    Calls Try.prog 32 #[.agg #[.int .u64 (hiN X), .int .u64 (loN X)], .agg #[.int .u64 (hiN Y), .int .u64 (loN Y)]] w fun e w' => e = .returned (.int .i64 (cmpN X Y)) ∧ Below w.heap.size w w' := by
  have h := compare_any (hiN X) (loN X) (hiN Y) (loN Y) w (hiN_lt hX) (loN_lt _) (hiN_lt hY) (loN_lt _)
  rw [join_N, join_N] at h
  exact h

/-- What the closure of winner keeps: a closure of weigher, and a bound. -/
structure WinnerAt (w : World) (g h p q s L a b : Nat) : Prop where
  comes : w.heap[g]? = some (.cells #[weighF p q] 55 (0, 0))
  bound : w.heap[h]? = some (.cells #[.int .u64 (hiN (4294967296 * s * a)), .int .u64 (loN (4294967296 * s * a))] 48 (0, 0))
  weigh : WeighAt w p q L b
theorem WinnerAt.kept {w w' : World} {g h p q s L a b : Nat} (x : WinnerAt w g h p q s L a b) (hb : Below w.heap.size w w') : WinnerAt w' g h p q s L a b :=
  ⟨(hb.block g (Array.getElem?_eq_some_iff.1 x.comes).1).trans x.comes, (hb.block h (Array.getElem?_eq_some_iff.1 x.bound).1).trans x.bound, x.weigh.kept hb⟩

abbrev winsF (g h : Nat) : Value := .func (.func 31) #[] #[.pointer (some ⟨g, 0, none⟩), .pointer (some ⟨h, 0, none⟩)]

theorem wins_swap (k s L a b : Nat) : decide (k * L * b < 4294967296 * s * a) = winsN k s L a b := by
  unfold winsN
  rw [show k * L * b = L * b * k by rw [Nat.mul_assoc, Nat.mul_comm], show 4294967296 * s * a = s * a * 4294967296 by rw [Nat.mul_assoc, Nat.mul_comm]]

set_option maxRecDepth 100000 in
set_option maxHeartbeats 3200000 in
theorem code_wins1 (k s L a b g h p q : Nat) (w : World) (hW : WinnerAt w g h p q s L a b) (hk : k ≤ 4294967296) (hL : L < 9223372036854775808) (hb : b ≤ 65536) (hs : s < 9223372036854775808) (ha : a ≤ 65536) :
    Calls Try.prog 31 #[.int .u64 k, .pointer (some ⟨g, 0, none⟩), .pointer (some ⟨h, 0, none⟩)] w fun e w' => e = .returned (.bool (winsN k s L a b)) ∧ Below w.heap.size w w' := by
  have HM := Lib.hid (fun (w' : World) (hbw : Below w.heap.size w w') => code_weigh k L b p q w' (hW.weigh.kept hbw) hk hL hb)
  have HC := Lib.hid (fun w => code_less (k * L * b) (4294967296 * s * a) (small_three hk hL hb) (small_three (Nat.le_refl _) hs ha) w)
  have HWI := Lib.hid wide_info
  have HK := Lib.hid (fun (w' : World) (hbw : Below w.heap.size w w') => hW.kept hbw)
  have hc := cmp_neg (k * L * b) (4294967296 * s * a)
  rw [wins_swap] at hc
  obtain ⟨r, hr⟩ : ∃ r, winsN k s L a b = r := ⟨_, rfl⟩
  obtain ⟨c, hcc⟩ : ∃ c, cmpN (k * L * b) (4294967296 * s * a) = c := ⟨_, rfl⟩
  obtain ⟨xh, hxh⟩ : ∃ x, hiN (k * L * b) = x := ⟨_, rfl⟩
  obtain ⟨xl, hxl⟩ : ∃ x, loN (k * L * b) = x := ⟨_, rfl⟩
  have HB := Lib.hid (fun (w' : World) (hbw : Below w.heap.size w w') => (hW.kept hbw).bound)
  obtain ⟨yh, hyh⟩ : ∃ x, hiN (4294967296 * s * a) = x := ⟨_, rfl⟩
  obtain ⟨yl, hyl⟩ : ∃ x, loN (4294967296 * s * a) = x := ⟨_, rfl⟩
  rw [hr, hcc] at hc
  rw [hxh, hxl] at HM
  rw [hxh, hxl, hyh, hyl, hcc] at HC
  simp only [hyh, hyl] at HB
  rw [hr]
  have HR := Lib.hid hc
  clear hxh hxl hyh hyl hcc hr hc hk hL hb hs ha hW
  go_enter Try.func31, Try.ntmps31
  go_upto_region 1 with (fail)
  refine QT.wp_region_facts (by kernel_rfl) (fun w' => Below w.heap.size w w') (fun n v w' => (([.val (.func (.func 44) #[] #[.pointer (some ⟨p, 0, none⟩), .pointer (some ⟨q, 0, none⟩)]), .val (.int .u64 k), .val (.agg #[.int .u64 xh, .int .u64 xl]), .val (.agg #[.int .u64 yh, .int .u64 yl]), .val (.int .i64 c), .val (.bool r), .val (.bool r)] : List FactW).getD n (.val undef) : FactW).holds v w') (by kernel_rfl) (by kernel_rfl) (Below.refl _ _).drew (fun w1 w2 h1 hb => h1.trans (hb.mono h1.size)) (fun n v w1 w2 h hb => FactW.kept _ v w1 w2 h hb) (fun n o ho a wz hI hag hdep => ?_) (fun a wz hI hag hf => ?_)
  · have t0 : a.eval (.tmp 0) = .int .u64 k := hag.old 0 _ (by kernel_rfl) rfl
    have t1 : a.eval (.tmp 1) = .pointer (some ⟨g, 0, none⟩) := hag.old 1 _ (by kernel_rfl) rfl
    have t2 : a.eval (.tmp 2) = .pointer (some ⟨h, 0, none⟩) := hag.old 2 _ (by kernel_rfl) rfl
    have cg : wz.cell? ⟨g, 0, none⟩ = some (weighF p q) := by rw [Lib.cell_of_heap (HK.out wz hI).comes]; rfl
    match n, ho with
    | 0, ho =>
      obtain rfl := (Option.some.inj ho).symm
      exact ⟨rfl, QT.wp_value (v := .func (.func 44) #[] #[.pointer (some ⟨p, 0, none⟩), .pointer (some ⟨q, 0, none⟩)]) (by simp [go_sem, QT.nf t1, cg]) ⟨_, rfl, rfl, Below.refl _ _⟩⟩
    | 1, ho =>
      obtain rfl := (Option.some.inj ho).symm
      exact ⟨rfl, QT.wp_value (BigFrame.run_move (.tmp 0) rfl wz) ⟨_, rfl, t0, Below.refl _ _⟩⟩
    | 2, ho =>
      obtain rfl := (Option.some.inj ho).symm
      have d5 : a.eval (.tmp 5) = .func (.func 44) #[] #[.pointer (some ⟨p, 0, none⟩), .pointer (some ⟨q, 0, none⟩)] := hdep _ (Array.mem_of_getElem? (i := 0) rfl) rfl _ _ rfl rfl
      have d6 : a.eval (.tmp 6) = .int .u64 k := hdep _ (Array.mem_of_getElem? (i := 1) rfl) rfl _ _ rfl rfl
      exact ⟨rfl, QT.wp_enter (f := 44) (args := #[.int .u64 k, .pointer (some ⟨p, 0, none⟩), .pointer (some ⟨q, 0, none⟩)]) (by simp [go_sem, QT.nf d5, QT.nf d6]) (HM.out wz hI) fun w' hb => ⟨_, rfl, rfl, hb⟩⟩
    | 3, ho =>
      obtain rfl := (Option.some.inj ho).symm
      exact ⟨rfl, wp_load_row 48 (.tmp 2) rfl h t2 48 #[.int .u64 yh, .int .u64 yl] (0, 0) _ (HB.out wz hI) Try.underlying48 rfl HWI.out ⟨_, rfl, rfl, Below.refl _ _⟩⟩
    | 4, ho =>
      obtain rfl := (Option.some.inj ho).symm
      have d7 : a.eval (.tmp 7) = .agg #[.int .u64 xh, .int .u64 xl] := hdep _ (Array.mem_of_getElem? (i := 0) rfl) rfl _ _ rfl rfl
      have d8 : a.eval (.tmp 8) = .agg #[.int .u64 yh, .int .u64 yl] := hdep _ (Array.mem_of_getElem? (i := 1) rfl) rfl _ _ rfl rfl
      exact ⟨rfl, QT.wp_enter (f := 32) (args := #[.agg #[.int .u64 xh, .int .u64 xl], .agg #[.int .u64 yh, .int .u64 yl]]) (by simp [go_sem, QT.nf d7, QT.nf d8]) (HC.out wz) fun w' hb => ⟨_, rfl, rfl, hb⟩⟩
    | 5, ho =>
      obtain rfl := (Option.some.inj ho).symm
      have d9 : a.eval (.tmp 9) = .int .i64 c := hdep _ (Array.mem_of_getElem? (i := 0) rfl) rfl _ _ rfl rfl
      exact ⟨rfl, QT.wp_value (v := .bool r) (by simp [go_sem, QT.nf d9, HR.out]) ⟨_, rfl, rfl, Below.refl _ _⟩⟩
    | 6, ho =>
      obtain rfl := (Option.some.inj ho).symm
      have d10 : a.eval (.tmp 10) = .bool r := hdep _ (Array.mem_of_getElem? (i := 0) rfl) rfl _ _ rfl rfl
      exact ⟨rfl, QT.wp_value (BigFrame.run_assign (.tmp 10) rfl wz) ⟨_, rfl, d10, Below.refl _ _⟩⟩
    | n + 7, ho => simp at ho
  · have f0 : a.eval (.tmp 5) = .func (.func 44) #[] #[.pointer (some ⟨p, 0, none⟩), .pointer (some ⟨q, 0, none⟩)] := hf 0 _ _ rfl rfl
    have f1 : a.eval (.tmp 6) = .int .u64 k := hf 1 _ _ rfl rfl
    have f2 : a.eval (.tmp 7) = .agg #[.int .u64 xh, .int .u64 xl] := hf 2 _ _ rfl rfl
    have f3 : a.eval (.tmp 8) = .agg #[.int .u64 yh, .int .u64 yl] := hf 3 _ _ rfl rfl
    have f4 : a.eval (.tmp 9) = .int .i64 c := hf 4 _ _ rfl rfl
    have f5 : a.eval (.tmp 10) = .bool r := hf 5 _ _ rfl rfl
    have f6 : a.eval (.tmp 4) = .bool r := hf 6 _ _ rfl rfl
    have ha := hag.puts [(5, .func (.func 44) #[] #[.pointer (some ⟨p, 0, none⟩), .pointer (some ⟨q, 0, none⟩)]), (6, .int .u64 k), (7, .agg #[.int .u64 xh, .int .u64 xl]), (8, .agg #[.int .u64 yh, .int .u64 yl]), (9, .int .i64 c), (10, .bool r), (4, .bool r)] rfl (by simp) (by simp only [List.forall_mem_cons, List.not_mem_nil, false_implies, implies_true, and_true]; exact ⟨f0, f1, f2, f3, f4, f5, f6⟩)
    subst ha
    clear hag hf f0 f1 f2 f3 f4 f5 f6
    simp only [List.foldl_cons, List.foldl_nil, Act.put, List.setIfInBounds_toArray, List.set_cons_succ, List.set_cons_zero]
    rename World => w7
    go_wp2_with fail
    go_ret
    exact ⟨rfl, hI⟩

end Go.Proofs.Ytogpnfgjdnccdaa.Lot
