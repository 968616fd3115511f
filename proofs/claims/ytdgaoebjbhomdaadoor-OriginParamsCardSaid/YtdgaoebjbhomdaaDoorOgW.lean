/- origin: works, great. -/
import Derived.Test.YtdgaoebjbhomdaaDoorOgS
namespace Go.Proofs.YtdgaoebjbhomdaaDoor.Og
open Go.RowKit Go.Proofs.YtdgaoebjbhomdaaDoor.Sha Go.Proofs.YtdgaoebjbhomdaaDoor.Gr Go.Proofs.YtdgaoebjbhomdaaDoor.Digit Go.Proofs.YtdgaoebjbhomdaaDoor.Deed Go.Proofs.YtdgaoebjbhomdaaDoor.Tree

theorem origL_len {x : OriginD} (hn : x.n.length = 15) (hl : few x) : (origL x).length ≤ 1000000 := by
  have h1 := nums_len x.n
  rw [hn] at h1
  have h2 := putL_len x.coins.length
  have h3 := putL_len x.seats.length
  have h4 := putL_len x.trusts.length
  have h5 := flat_le outL 200 outL_le x.coins
  have h6 := flat_le seatL 200 seatL_le x.seats
  have h7 := flat_le trustL 200 trustL_le x.trusts
  have h8 := x.no.2
  obtain ⟨l1, l2, l3⟩ := hl
  unfold origL listL
  simp only [List.length_append]
  omega
theorem put_small (w : World) (ht : Tab w) : Calls Tryd.prog 19 #[oV small0 nilS nilS nilS] w fun e w' => e = .returned (.tuple #[.string (bs (origL small0)), .int .i64 0]) ∧ Below w.heap.size w w' := by
  have h := code_Put (small_at w) ht
  unfold mayE at h
  rw [if_pos small_may, if_pos small_may] at h
  exact h
theorem take_back {w : World} {x : OriginD} (hm : mayO x = true) (hn : x.n.length = 15) (hl : few x) (ht : Tab w) : Calls Tryd.prog 12 #[.string (bs (origL x))] w fun e w' => ∃ c s t, e = .returned (.tuple #[oV x c s t, .int .i64 0]) ∧ OAt w' x c s t ∧ Below w.heap.size w w' := by
  refine (code_Take (origL x) (Nat.le_trans (origL_len hn hl) (by decide)) ht).mono ?_
  rintro e w' ⟨y, c, s, t, er, rfl, hoa, hb, h⟩
  rw [takeO_put hm hn] at h
  rcases h with ⟨h1, rfl⟩ | ⟨h1, _⟩
  · obtain rfl := Option.some.inj h1
    exact ⟨c, s, t, rfl, hoa, hb⟩
  · cases h1
theorem may_zero (w : World) (ht : Tab w) : Calls Tryd.prog 20 #[.agg zOrig.toArray] w fun e w' => e = .returned (.int .i64 2) ∧ Below w.heap.size w w' := by
  have h := code_May (zOrig_at w) ht
  unfold mayE at h
  rw [zero_may] at h
  exact h
theorem same_self {w : World} {x : OriginD} {c s t c2 s2 t2 : Value} (ha : OAt w x c s t) (hb : OAt w x c2 s2 t2) (hl : few x) : Calls Tryd.prog 14 #[oV x c s t, oV x c2 s2 t2] w fun e w' => e = .returned (.bool true) ∧ Below w.heap.size w w' := by
  have h := ref_Same ha hb hl hl
  rw [beq_self_eq_true] at h
  exact h


set_option maxRecDepth 100000 in
set_option maxHeartbeats 1600000 in
theorem works_any (w : World) (ht : Tab w) : Calls Tryd.prog 10 #[] w fun e w' => e = .returned (.bool true) ∧ Below w.heap.size w w' := by
  have HT := Lib.hid ht
  have HZB := Lib.hid zOrig_built
  have HSM := Lib.hid (fun w => code_small w)
  have HPU := Lib.hid put_small
  have HTA := Lib.hid (fun w (ht : Tab w) => take_back (w := w) small_may rfl small_few ht)
  have HMZ := Lib.hid may_zero
  have HSS := Lib.hid (fun (w : World) (c s t : Value) (h : OAt w small0 c s t) => same_self h (small_at w) small_few)
  unfold oV at HSM HPU HTA HSS
  obtain ⟨CZ, hCZ⟩ : ∃ C, (cellsO small0 nilS nilS nilS).toArray = C := ⟨_, rfl⟩
  obtain ⟨ZO, hZO⟩ : ∃ C, zOrig.toArray = C := ⟨_, rfl⟩
  simp only [hCZ] at HSM HPU HSS
  have HZO := Lib.hid hZO
  simp only [hZO] at HMZ HZB
  obtain ⟨SB, hSB⟩ : ∃ S, bs (origL small0) = S := ⟨_, rfl⟩
  simp only [hSB] at HPU HTA
  clear ht hCZ hZO hSB
  go_enter Tryd.func10, Tryd.ntmps10
  go_upto_region 3 with (first
    | (go_at_call 9; refine (HSM.out _).mono ?_; rintro e w1 ⟨rfl, hb1⟩; have HB1 := Lib.hid hb1; clear hb1)
    | (go_at_call 19; refine (HPU.out _ (HT.out.kept HB1.out)).mono ?_; rintro e w2 ⟨rfl, hb2⟩; have HB2 := Lib.hid (HB1.out.trans (hb2.mono HB1.out.size)); clear hb2)
    | (go_at_call 12; refine (HTA.out _ (HT.out.kept HB2.out)).mono ?_; rintro e w3 ⟨c, s, t, rfl, hoa, hb3⟩; have HB3 := Lib.hid (HB2.out.trans (hb3.mono HB2.out.size)); have HOA := Lib.hid hoa; clear hb3 hoa)
    | (refine wpList_new_var (T := 34) (Z := zOrig.toArray) (C := (cellsO small0 c s t).toArray) (by rw [List.size_toArray, cellsO_len HOA.out]; exact orig_info) (by rw [List.size_toArray, List.size_toArray, cellsO_len HOA.out]; exact zOrig_len) HOA.out.forms (.tmp 3) (.tmp 13) rfl rfl rfl rfl (fun _ => rfl) (fun _ => rfl) ?_; intro w4 hh4 hs4 hb4; go_frame))
  have HIO := Lib.hid (show (Tryd.prog.info? 34).map (·.size) = some (cellsO small0 c s t).toArray.size by rw [List.size_toArray]; exact info_O HOA.out)
  have HB4 := Lib.hid (HB3.out.trans (hb4.mono HB3.out.size))
  have HO4 := Lib.hid (HOA.out.kept hb4)
  have HT4 := Lib.hid (HT.out.kept HB4.out)
  have HH := Lib.hid hh4
  have hl3 := (Array.getElem?_eq_some_iff.1 hh4).1
  have HSS2 := Lib.hid (fun w h => HSS.out w c s t h)
  obtain ⟨CA, hCA⟩ : ∃ C, (cellsO small0 c s t).toArray = C := ⟨_, rfl⟩
  simp only [hCA] at HSS2
  rw [hCA] at HH HIO ⊢
  obtain ⟨g3, hg3⟩ : ∃ n, w3.heap.size = n := ⟨_, rfl⟩
  rw [hg3] at HH hl3 ⊢
  clear hh4 hs4 hb4 hCA hg3
  refine QT.wp_region_facts (by kernel_rfl) (fun w' => Below w4.heap.size w4 w') (fun n v w' => (([.val (.int .i64 0), .val (.bool true), .val (.bool true), .val (.int .i64 0), .val (.bool true), .val (.bool true), .val (.bool true), .val (.agg CA), .val (.agg CZ), .val (.bool true), .val (.bool true), .val (.bool true), .val (.agg ZO), .val (.int .i64 2), .val (.bool true), .val (.bool true), .val (.bool true)] : List FactO).getD n (.val undef) : FactO).holds v w') (by kernel_rfl) (by kernel_rfl) (Below.refl _ _).drew (fun w1 w2 h1 hb => h1.trans (hb.mono h1.size)) (fun n v w1 w2 h hb => FactO.kept _ v w1 w2 h hb) (fun n o ho a wz hI hag hdep => ?_) (fun a wz hI hag hf => ?_)
  · have t2 : a.eval (.tmp 2) = .int .i64 0 := hag.old 2 _ (by kernel_rfl) rfl
    have t3 : a.eval (.tmp 3) = .pointer (some ⟨g3, 0, none⟩) := hag.old 3 _ (by kernel_rfl) rfl
    have t4 : a.eval (.tmp 4) = .int .i64 0 := hag.old 4 _ (by kernel_rfl) rfl
    match n, ho with
    | 0, ho =>
      obtain rfl := (Option.some.inj ho).symm
      exact ⟨rfl, QT.wp_value (BigFrame.run_move (.tmp 2) rfl wz) ⟨_, rfl, t2, Below.refl _ _⟩⟩
    | 1, ho =>
      obtain rfl := (Option.some.inj ho).symm
      have d15 : a.eval (.tmp 15) = .int .i64 0 := hdep _ (Array.mem_of_getElem? (i := 0) rfl) rfl _ _ rfl rfl
      exact ⟨rfl, QT.wp_value (v := .bool true) (by simp [go_sem, QT.nf d15]) ⟨_, rfl, rfl, Below.refl _ _⟩⟩
    | 2, ho =>
      obtain rfl := (Option.some.inj ho).symm
      have d16 : a.eval (.tmp 16) = .bool true := hdep _ (Array.mem_of_getElem? (i := 0) rfl) rfl _ _ rfl rfl
      exact ⟨rfl, QT.wp_value (BigFrame.run_move (.tmp 16) rfl wz) ⟨_, rfl, d16, Below.refl _ _⟩⟩
    | 3, ho =>
      obtain rfl := (Option.some.inj ho).symm
      have d17 : a.eval (.tmp 17) = .bool true := hdep _ (Array.mem_of_getElem? (i := 0) rfl) rfl _ _ rfl rfl
      exact ⟨QT.wanted_of rfl rfl rfl d17, QT.wp_value (BigFrame.run_move (.tmp 4) rfl wz) ⟨_, rfl, t4, Below.refl _ _⟩⟩
    | 4, ho =>
      obtain rfl := (Option.some.inj ho).symm
      have d18 : a.eval (.tmp 18) = .int .i64 0 := hdep _ (Array.mem_of_getElem? (i := 0) rfl) rfl _ _ rfl rfl
      have d17 : a.eval (.tmp 17) = .bool true := hdep _ (Array.mem_of_getElem? (i := 1) rfl) rfl _ _ rfl rfl
      exact ⟨QT.wanted_of rfl rfl rfl d17, QT.wp_value (v := .bool true) (by simp [go_sem, QT.nf d18]) ⟨_, rfl, rfl, Below.refl _ _⟩⟩
    | 5, ho =>
      obtain rfl := (Option.some.inj ho).symm
      have d17 : a.eval (.tmp 17) = .bool true := hdep _ (Array.mem_of_getElem? (i := 0) rfl) rfl _ _ rfl rfl
      have d19 : a.eval (.tmp 19) = .bool true := hdep _ (Array.mem_of_getElem? (i := 1) rfl) rfl _ _ rfl rfl
      exact ⟨rfl, QT.wp_value (v := .bool true) (by simp [go_sem, QT.nf d17, QT.nf d19]) ⟨_, rfl, rfl, Below.refl _ _⟩⟩
    | 6, ho =>
      obtain rfl := (Option.some.inj ho).symm
      have d20 : a.eval (.tmp 20) = .bool true := hdep _ (Array.mem_of_getElem? (i := 0) rfl) rfl _ _ rfl rfl
      exact ⟨rfl, QT.wp_value (BigFrame.run_move (.tmp 20) rfl wz) ⟨_, rfl, d20, Below.refl _ _⟩⟩
    | 7, ho =>
      obtain rfl := (Option.some.inj ho).symm
      have d21 : a.eval (.tmp 21) = .bool true := hdep _ (Array.mem_of_getElem? (i := 0) rfl) rfl _ _ rfl rfl
      exact ⟨QT.wanted_of rfl rfl rfl d21, wp_load_row 34 (.tmp 3) rfl g3 t3 34 CA (0, 0) _ ((hI.block _ hl3).trans HH.out) Tryd.underlying34 rfl HIO.out ⟨_, rfl, rfl, Below.refl _ _⟩⟩
    | 8, ho =>
      obtain rfl := (Option.some.inj ho).symm
      have d21 : a.eval (.tmp 21) = .bool true := hdep _ (Array.mem_of_getElem? (i := 1) rfl) rfl _ _ rfl rfl
      exact ⟨QT.wanted_of rfl rfl rfl d21, QT.wp_enter (v := .agg CZ) (f := 9) (args := #[]) (R := fun w' => Below wz.heap.size wz w') (by simp [go_sem]) ((HSM.out wz).mono fun _ _ ⟨h1, h2⟩ => ⟨h1, h2⟩) fun w' h => ⟨_, rfl, rfl, h⟩⟩
    | 9, ho =>
      obtain rfl := (Option.some.inj ho).symm
      have d22 : a.eval (.tmp 22) = .agg CA := hdep _ (Array.mem_of_getElem? (i := 0) rfl) rfl _ _ rfl rfl
      have d23 : a.eval (.tmp 23) = .agg CZ := hdep _ (Array.mem_of_getElem? (i := 1) rfl) rfl _ _ rfl rfl
      have d21 : a.eval (.tmp 21) = .bool true := hdep _ (Array.mem_of_getElem? (i := 3) rfl) rfl _ _ rfl rfl
      exact ⟨QT.wanted_of rfl rfl rfl d21, QT.wp_enter (v := .bool true) (f := 14) (args := #[.agg CA, .agg CZ]) (R := fun w' => Below wz.heap.size wz w') (by simp [go_sem, QT.nf d22, QT.nf d23]) ((HSS2.out wz (HO4.out.kept hI)).mono fun _ _ ⟨h1, h2⟩ => ⟨h1, h2⟩) fun w' h => ⟨_, rfl, rfl, h⟩⟩
    | 10, ho =>
      obtain rfl := (Option.some.inj ho).symm
      have d21 : a.eval (.tmp 21) = .bool true := hdep _ (Array.mem_of_getElem? (i := 0) rfl) rfl _ _ rfl rfl
      have d24 : a.eval (.tmp 24) = .bool true := hdep _ (Array.mem_of_getElem? (i := 1) rfl) rfl _ _ rfl rfl
      exact ⟨rfl, QT.wp_value (v := .bool true) (by simp [go_sem, QT.nf d21, QT.nf d24]) ⟨_, rfl, rfl, Below.refl _ _⟩⟩
    | 11, ho =>
      obtain rfl := (Option.some.inj ho).symm
      have d25 : a.eval (.tmp 25) = .bool true := hdep _ (Array.mem_of_getElem? (i := 0) rfl) rfl _ _ rfl rfl
      exact ⟨rfl, QT.wp_value (BigFrame.run_move (.tmp 25) rfl wz) ⟨_, rfl, d25, Below.refl _ _⟩⟩
    | 12, ho =>
      obtain rfl := (Option.some.inj ho).symm
      have d26 : a.eval (.tmp 26) = .bool true := hdep _ (Array.mem_of_getElem? (i := 0) rfl) rfl _ _ rfl rfl
      exact ⟨QT.wanted_of rfl rfl rfl d26, Bl.wp_build_as 34 #[] rfl ZO (by simpa using HZB.out) ⟨_, rfl, rfl, Below.refl _ _⟩⟩
    | 13, ho =>
      obtain rfl := (Option.some.inj ho).symm
      have d27 : a.eval (.tmp 27) = .agg ZO := hdep _ (Array.mem_of_getElem? (i := 0) rfl) rfl _ _ rfl rfl
      have d26 : a.eval (.tmp 26) = .bool true := hdep _ (Array.mem_of_getElem? (i := 2) rfl) rfl _ _ rfl rfl
      exact ⟨QT.wanted_of rfl rfl rfl d26, QT.wp_enter (v := .int .i64 2) (f := 20) (args := #[.agg ZO]) (R := fun w' => Below wz.heap.size wz w') (by simp [go_sem, QT.nf d27]) ((HMZ.out wz (HT4.out.kept hI)).mono fun _ _ ⟨h1, h2⟩ => ⟨h1, h2⟩) fun w' h => ⟨_, rfl, rfl, h⟩⟩
    | 14, ho =>
      obtain rfl := (Option.some.inj ho).symm
      have d28 : a.eval (.tmp 28) = .int .i64 2 := hdep _ (Array.mem_of_getElem? (i := 0) rfl) rfl _ _ rfl rfl
      have d26 : a.eval (.tmp 26) = .bool true := hdep _ (Array.mem_of_getElem? (i := 1) rfl) rfl _ _ rfl rfl
      exact ⟨QT.wanted_of rfl rfl rfl d26, QT.wp_value (v := .bool true) (by simp [go_sem, QT.nf d28]) ⟨_, rfl, rfl, Below.refl _ _⟩⟩
    | 15, ho =>
      obtain rfl := (Option.some.inj ho).symm
      have d26 : a.eval (.tmp 26) = .bool true := hdep _ (Array.mem_of_getElem? (i := 0) rfl) rfl _ _ rfl rfl
      have d29 : a.eval (.tmp 29) = .bool true := hdep _ (Array.mem_of_getElem? (i := 1) rfl) rfl _ _ rfl rfl
      exact ⟨rfl, QT.wp_value (v := .bool true) (by simp [go_sem, QT.nf d26, QT.nf d29]) ⟨_, rfl, rfl, Below.refl _ _⟩⟩
    | 16, ho =>
      obtain rfl := (Option.some.inj ho).symm
      have d30 : a.eval (.tmp 30) = .bool true := hdep _ (Array.mem_of_getElem? (i := 0) rfl) rfl _ _ rfl rfl
      exact ⟨rfl, QT.wp_value (BigFrame.run_assign (.tmp 30) rfl wz) ⟨_, rfl, d30, Below.refl _ _⟩⟩
    | n + 17, ho => simp at ho
  · have f0 : a.eval (.tmp 15) = .int .i64 0 := hf 0 _ _ rfl rfl
    have f1 : a.eval (.tmp 16) = .bool true := hf 1 _ _ rfl rfl
    have f2 : a.eval (.tmp 17) = .bool true := hf 2 _ _ rfl rfl
    have f3 : a.eval (.tmp 18) = .int .i64 0 := hf 3 _ _ rfl rfl
    have f4 : a.eval (.tmp 19) = .bool true := hf 4 _ _ rfl rfl
    have f5 : a.eval (.tmp 20) = .bool true := hf 5 _ _ rfl rfl
    have f6 : a.eval (.tmp 21) = .bool true := hf 6 _ _ rfl rfl
    have f7 : a.eval (.tmp 22) = .agg CA := hf 7 _ _ rfl rfl
    have f8 : a.eval (.tmp 23) = .agg CZ := hf 8 _ _ rfl rfl
    have f9 : a.eval (.tmp 24) = .bool true := hf 9 _ _ rfl rfl
    have f10 : a.eval (.tmp 25) = .bool true := hf 10 _ _ rfl rfl
    have f11 : a.eval (.tmp 26) = .bool true := hf 11 _ _ rfl rfl
    have f12 : a.eval (.tmp 27) = .agg ZO := hf 12 _ _ rfl rfl
    have f13 : a.eval (.tmp 28) = .int .i64 2 := hf 13 _ _ rfl rfl
    have f14 : a.eval (.tmp 29) = .bool true := hf 14 _ _ rfl rfl
    have f15 : a.eval (.tmp 30) = .bool true := hf 15 _ _ rfl rfl
    have f16 : a.eval (.tmp 0) = .bool true := hf 16 _ _ rfl rfl
    have ha := hag.puts [(15, .int .i64 0), (16, .bool true), (17, .bool true), (18, .int .i64 0), (19, .bool true), (20, .bool true), (21, .bool true), (22, .agg CA), (23, .agg CZ), (24, .bool true), (25, .bool true), (26, .bool true), (27, .agg ZO), (28, .int .i64 2), (29, .bool true), (30, .bool true), (0, .bool true)] rfl (by simp) (by simp only [List.forall_mem_cons, List.not_mem_nil, false_implies, implies_true, and_true]; exact ⟨f0, f1, f2, f3, f4, f5, f6, f7, f8, f9, f10, f11, f12, f13, f14, f15, f16⟩)
    subst ha
    clear hag hf f0 f1 f2 f3 f4 f5 f6 f7 f8 f9 f10 f11 f12 f13 f14 f15 f16
    simp only [List.foldl_cons, List.foldl_nil, Act.put, List.setIfInBounds_toArray, List.set_cons_succ, List.set_cons_zero]
    have HBI := Lib.hid (HB4.out.trans (hI.mono HB4.out.size))
    clear hI
    go_wp2_with fail
    go_ret
    exact ⟨rfl, HBI.out⟩


theorem great_eq (x : OriginD) : (200 < x.coins.length + x.seats.length + x.trusts.length) ∨ few x := by
  rcases Nat.lt_or_ge 200 (x.coins.length + x.seats.length + x.trusts.length) with h | h
  · exact Or.inl h
  · exact Or.inr ⟨by omega, by omega, by omega⟩
def greatB (x : OriginD) : Bool := decide (200 < x.coins.length + x.seats.length + x.trusts.length)
theorem great_no {x : OriginD} (h : greatB x = false) : few x := by
  have := of_decide_eq_false h
  exact ⟨by omega, by omega, by omega⟩
set_option maxRecDepth 100000 in
set_option maxHeartbeats 800000 in
theorem code_great {w : World} {x : OriginD} {c s t : Value} (h : OAt w x c s t) (hl : x.coins.length ≤ 1000000000000000000 ∧ x.seats.length ≤ 1000000000000000000 ∧ x.trusts.length ≤ 1000000000000000000) : Calls Tryd.prog 18 #[oV x c s t] w fun e w' => e = .returned (.bool (greatB x)) ∧ Below w.heap.size w w' := by
  obtain ⟨a1, k1, rfl, _⟩ := h.coins.form
  obtain ⟨a2, k2, rfl, _⟩ := h.seats.form
  obtain ⟨a3, k3, rfl, _⟩ := h.trusts.form
  unfold greatB oV
  obtain ⟨nc, hnc⟩ : ∃ n, x.coins.length = n := ⟨_, rfl⟩
  obtain ⟨ns, hns⟩ : ∃ n, x.seats.length = n := ⟨_, rfl⟩
  obtain ⟨nt, hnt⟩ : ∃ n, x.trusts.length = n := ⟨_, rfl⟩
  rw [hnc, hns, hnt] at h hl ⊢
  obtain ⟨h1, h2, h3, h4⟩ := box_o h
  have HP := Lib.hid h1
  have HBW := Lib.hid h3
  obtain ⟨l1, l2, l3⟩ := hl
  have w1 : IntKind.i64.wrap ((nc : Int) + (ns : Int)) = (nc : Int) + (ns : Int) := IntWalk.i64_in _ ⟨by omega, by omega⟩
  have w2 : IntKind.i64.wrap ((nc : Int) + (ns : Int) + (nt : Int)) = (nc : Int) + (ns : Int) + (nt : Int) := IntWalk.i64_in _ ⟨by omega, by omega⟩
  clear h1 h2 h3 h4 h
  obtain ⟨C, hC⟩ : ∃ C, (cellsO x (.slice a1 nc k1) (.slice a2 ns k2) (.slice a3 nt k3)).toArray = C := ⟨_, rfl⟩
  rw [hC] at HP HBW ⊢
  clear hC hnc hns hnt
  go_enter Tryd.func18, Tryd.ntmps18
  go_upto_region 1 with (fail)
  generalize w.alloc (.cells C 34) = W at HP HBW ⊢
  have c1 := HP.out.c
  have c2 := HP.out.s
  have c3 := HP.out.t
  go_wp2_with fail
  go_ret
  exact ⟨by rw [show decide (200 < nc + ns + nt) = decide ((200 : Int) < (nc : Int) + (ns : Int) + (nt : Int)) from decide_eq_decide.2 (by omega)]; rfl, HBW.out⟩

end Go.Proofs.YtdgaoebjbhomdaaDoor.Og
