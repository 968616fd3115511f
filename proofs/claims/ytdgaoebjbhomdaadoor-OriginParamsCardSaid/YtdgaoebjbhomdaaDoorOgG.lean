/- origin: the code's mayCoins, isPool, rise. -/
import Derived.Test.YtdgaoebjbhomdaaDoorOgF
import Derived.Test.YtdgaoebjbhomdaaDoorEqA
namespace Go.Proofs.YtdgaoebjbhomdaaDoor.Og
open Go.RowKit Go.Proofs.YtdgaoebjbhomdaaDoor.Sha Go.Proofs.YtdgaoebjbhomdaaDoor.Gr Go.Proofs.YtdgaoebjbhomdaaDoor.Digit Go.Proofs.YtdgaoebjbhomdaaDoor.Deed

theorem any_no {α : Type} {f : α → Bool} {L : List α} (h : ∀ j x, j < L.length → L[j]? = some x → f x = false) : L.any f = false := by
  rw [List.any_eq_false]
  intro x hx
  obtain ⟨j, hj⟩ := List.mem_iff_getElem?.1 hx
  rw [h j x (List.getElem?_eq_some_iff.1 hj).1 hj]
  simp
theorem any_yes {α : Type} {f : α → Bool} {L : List α} {j : Nat} {x : α} (hj : L[j]? = some x) (h : f x = true) : L.any f = true :=
  List.any_eq_true.2 ⟨x, List.mem_of_getElem? hj, h⟩
theorem geD {α : Type} [Inhabited α] {L : List α} {j : Nat} {x : α} (hj : L[j]? = some x) : L.getD j default = x := by rw [List.getD_eq_getElem?_getD, hj]; rfl
theorem eqb_h (a b : H32) : (a.1 == b.1) = decide (a = b) := by
  by_cases e : a = b
  · subst e
    simp
  · have : a.1 ≠ b.1 := fun e2 => e (Subtype.ext e2)
    simp [e, this]
theorem eq_h (a b : H32) (w : World) : (Op.equalIn 10000 29 (hV a) (hV b)).run Tryd.prog w = .ok (decide (a = b)) w := by
  have := eqIn_hash a.1 b.1 a.2 b.2 w
  rw [eqb_h] at this
  exact this

set_option maxRecDepth 100000 in
set_option maxHeartbeats 400000 in
theorem code_mayCoins1 (x : OutD) (w : World) : Calls Tryd.prog 72 #[.agg (KOut.enc x).toArray] w fun e w' => e = .returned (.bool (decide (x.am.toNat = 0))) ∧ Below w.heap.size w w' := by
  have HR := Lib.hid (Out_parts (range_new w (KOut.enc x) 52)).2.2
  obtain ⟨m, hm⟩ : ∃ m, x.am.toNat = m := ⟨_, rfl⟩
  rw [show nV x.am = .int .u64 (m : Int) by unfold nV; rw [hm], Nat.zero_add] at HR
  rw [hm]
  clear hm
  obtain ⟨C, hC⟩ : ∃ C, (KOut.enc x).toArray = C := ⟨_, rfl⟩
  rw [hC] at HR ⊢
  clear hC
  go_enter Tryd.func72, Tryd.ntmps72
  go_upto_region 1 with (fail)
  have HBW := Lib.hid (show Below w.heap.size w (w.alloc (.cells C 52)) from (Below.refl _ _).alloc (Nat.le_refl _) _)
  have hr := HR.out
  generalize w.alloc (.cells C 52) = W at HBW hr ⊢
  go_wp2
  go_ret
  exact ⟨by rw [show decide (m = 0) = decide ((m : Int) = 0) from decide_eq_decide.2 (by omega)]; rfl, HBW.out⟩
set_option maxRecDepth 100000 in
set_option maxHeartbeats 800000 in
theorem code_isPool1 (x : SeatD) (q : H32) (g : Nat) (w : World) (hg : w.heap[g]? = some (.cells (valsB q.1).toArray 29 (0, 0))) : Calls Tryd.prog 94 #[.agg (KSeat.enc x).toArray, .pointer (some ⟨g, 0, none⟩)] w fun e w' => e = .returned (.bool (decide (x.pool = q))) ∧ Below w.heap.size w w' := by
  have HR := Lib.hid (Seat_parts (range_new w (KSeat.enc x) 67)).pool
  have HEQ := Lib.hid (fun w => eq_h x.pool q w)
  have HI := Lib.hid (infoKH x.pool)
  have HIQ := Lib.hid (show (Tryd.prog.info? 29).map (·.size) = some (valsB q.1).toArray.size from KH.infoA q)
  have HH := Lib.hid (show (w.alloc (.cells (KSeat.enc x).toArray 67)).heap[g]? = some (.cells (valsB q.1).toArray 29 (0, 0)) from (((Below.refl _ _).alloc (Nat.le_refl _) _).block g (Array.getElem?_eq_some_iff.1 hg).1).trans hg)
  unfold hV at HEQ
  obtain ⟨CQ, hCQ⟩ : ∃ C, (valsB q.1).toArray = C := ⟨_, rfl⟩
  obtain ⟨CX, hCX⟩ : ∃ C, (valsB x.pool.1).toArray = C := ⟨_, rfl⟩
  have HCX := Lib.hid hCX
  simp only [hCQ, hCX] at HEQ HIQ HH
  clear hCQ hCX hg
  obtain ⟨C, hC⟩ : ∃ C, (KSeat.enc x).toArray = C := ⟨_, rfl⟩
  rw [hC] at HR HH ⊢
  clear hC
  go_enter Tryd.func94, Tryd.ntmps94
  go_upto_region 1 with (fail)
  have HBW := Lib.hid (show Below w.heap.size w (w.alloc (.cells C 67)) from (Below.refl _ _).alloc (Nat.le_refl _) _)
  generalize w.alloc (.cells C 67) = W at HBW HR HH ⊢
  obtain ⟨gb, hgb⟩ : ∃ n, w.heap.size = n := ⟨_, rfl⟩
  have HG := Lib.hid hgb
  rw [hgb] at HR HBW ⊢
  clear hgb
  have heq := HEQ.out
  go_wp2_with (first
    | (refine wpList_load_mid rfl 29 (.tmp 4) rfl gb 0 rfl (valsB x.pool.1) _ HR.out Tryd.underlying29 rfl HI.out ?_; rw [HCX.out]; go_frame)
    | (refine wpList_load_row rfl 29 (.tmp 1) rfl g rfl 29 CQ (0, 0) _ HH.out Tryd.underlying29 rfl HIQ.out ?_; go_frame))
  go_ret
  exact ⟨rfl, by rw [HG.out]; exact HBW.out⟩


set_option maxRecDepth 100000 in
set_option maxHeartbeats 1600000 in
theorem code_indexC  (v : Value) (L : List OutD) (w : World) (hT : KOut.At w v L) (hL : L.length ≤ 1000000) :
    Calls Tryd.prog 92 #[v, .func (.func 72) #[] #[]] w fun e w' => ∃ z : Int, e = .returned (.int .i64 z) ∧ decide (0 ≤ z) = L.any (fun x : OutD => decide (x.am.toNat = 0)) ∧ Below w.heap.size w w' := by
  obtain ⟨a, cap, rfl, hcap⟩ := hT.form
  have HT := Lib.hid hT
  clear hT
  have HCL := Lib.hid (show ∀ (x : OutD) (w' : World), Below w.heap.size w w' → Calls Tryd.prog 72 #[.agg (KOut.enc x).toArray] w' (fun e w'' => e = .returned (.bool ((fun x : OutD => decide (x.am.toNat = 0)) x)) ∧ Below w'.heap.size w' w'') from fun x w' hb => code_mayCoins1 x w')
  obtain ⟨F, hF⟩ : ∃ F : OutD → Bool, (fun x : OutD => decide (x.am.toNat = 0)) = F := ⟨_, rfl⟩
  rw [hF] at HCL ⊢
  clear hF
  go_enter Tryd.func92, Tryd.ntmps92
  go_upto_region 2 with (fail)
  go_loopw [8] (fun iv wr => ∃ i : Nat, i ≤ L.length ∧ iv = .int .i64 i ∧ (∀ j x, j < i → L[j]? = some x → F x = false) ∧ Below w.heap.size w wr) (fun iv _ => L.length - (intOf iv).toNat)
  case atStart => exact ⟨0, Nat.zero_le _, rfl, fun j x hj => absurd hj (Nat.not_lt_zero _), Below.refl _ _⟩
  case round =>
    obtain ⟨i, hi, rfl, hall, hb⟩ := hrel
    have HALL := Lib.hid hall
    have HB := Lib.hid hb
    clear hall hb
    by_cases hlt : i < L.length
    · obtain ⟨g, o, cap', ha, _, hr⟩ := (HT.out.kept HB.out).some (by omega)
      have hx := List.getElem?_eq_getElem hlt
      obtain ⟨x, hxx⟩ : ∃ x, L[i] = x := ⟨_, rfl⟩
      rw [hxx] at hx
      have HRX := Lib.hid (range_at hr hx)
      have HX := Lib.hid hx
      have HIX := Lib.hid (KOut.infoL x)
      injection ha with ha1 _ ha2
      subst ha1 ha2
      have hki : (i : Int) < (L.length : Int) := by omega
      have HC1 := Lib.hid (HCL.out x wr HB.out)
      obtain ⟨CX, hCX⟩ : ∃ C, (KOut.enc x).toArray = C := ⟨_, rfl⟩
      have HCX := Lib.hid hCX
      rw [hCX] at HC1
      obtain ⟨b, hb⟩ : ∃ b, F x = b := ⟨_, rfl⟩
      have HBB := Lib.hid hb
      rw [hb] at HC1
      clear hCX hxx hx hr hb
      cases b with
      | true =>
        go_wp2_with (first
          | (go_at_call 72; refine HC1.out.mono ?_; rintro e w1 ⟨rfl, hb1⟩)
          | (refine wpList_load_mid rfl 52 (.tmp 14) rfl g (o + i * 65) rfl (KOut.enc x) _ HRX.out Tryd.underlying52 rfl HIX.out ?_; rw [HCX.out]; go_frame))
        go_ret
        exact ⟨_, rfl, by rw [any_yes HX.out HBB.out]; simp, HB.out.trans (hb1.mono HB.out.size)⟩
      | false =>
        go_wp2_with (first
          | (go_at_call 72; refine HC1.out.mono ?_; rintro e w1 ⟨rfl, hb1⟩)
          | (refine wpList_load_mid rfl 52 (.tmp 14) rfl g (o + i * 65) rfl (KOut.enc x) _ HRX.out Tryd.underlying52 rfl HIX.out ?_; rw [HCX.out]; go_frame))
        go_roundw
        case rel => exact ⟨i + 1, by omega, by go_num, fun j y hj hy => by
          rcases Nat.lt_or_ge j i with h | h
          · exact HALL.out j y h hy
          · obtain rfl : j = i := by omega
            have h2 := HX.out
            rw [hy] at h2
            injection h2 with h2
            rw [h2]
            exact HBB.out, HB.out.trans (hb1.mono HB.out.size)⟩
        case measure => simp [intOf]; omega
    · obtain rfl : i = L.length := by omega
      go_wp2_with fail
      go_ret
      exact ⟨_, rfl, by rw [any_no HALL.out]; rfl, HB.out⟩
set_option maxRecDepth 100000 in
set_option maxHeartbeats 400000 in
theorem code_containsC  (v : Value) (L : List OutD) (w : World) (hT : KOut.At w v L) (hL : L.length ≤ 1000000) :
    Calls Tryd.prog 71 #[v, .func (.func 72) #[] #[]] w fun e w' => e = .returned (.bool (L.any (fun x : OutD => decide (x.am.toNat = 0)))) ∧ Below w.heap.size w w' := by
  have HI := Lib.hid (code_indexC  v L w hT hL)
  obtain ⟨b, hb⟩ : ∃ b, L.any (fun x : OutD => decide (x.am.toNat = 0)) = b := ⟨_, rfl⟩
  rw [hb] at HI ⊢
  clear hb
  go_enter Tryd.func71, Tryd.ntmps71
  go_wp2_with (go_at_call 92; refine HI.out.mono ?_; rintro e w1 ⟨z, rfl, hz, hb1⟩)
  go_ret
  exact ⟨by rw [← hz]; rfl, hb1⟩


set_option maxRecDepth 100000 in
set_option maxHeartbeats 1600000 in
theorem code_indexS (q : H32) (gq : Nat) (v : Value) (L : List SeatD) (w : World) (hT : KSeat.At w v L) (hL : L.length ≤ 1000000) (hg : w.heap[gq]? = some (.cells (valsB q.1).toArray 29 (0, 0))) :
    Calls Tryd.prog 105 #[v, .func (.func 94) #[] #[.pointer (some ⟨gq, 0, none⟩)]] w fun e w' => ∃ z : Int, e = .returned (.int .i64 z) ∧ decide (0 ≤ z) = L.any (fun s : SeatD => decide (s.pool = q)) ∧ Below w.heap.size w w' := by
  obtain ⟨a, cap, rfl, hcap⟩ := hT.form
  have HT := Lib.hid hT
  clear hT
  have HCL := Lib.hid (show ∀ (x : SeatD) (w' : World), Below w.heap.size w w' → Calls Tryd.prog 94 #[.agg (KSeat.enc x).toArray, .pointer (some ⟨gq, 0, none⟩)] w' (fun e w'' => e = .returned (.bool ((fun s : SeatD => decide (s.pool = q)) x)) ∧ Below w'.heap.size w' w'') from fun x w' hb => code_isPool1 x q gq w' ((hb.block gq (Array.getElem?_eq_some_iff.1 hg).1).trans hg))
  obtain ⟨F, hF⟩ : ∃ F : SeatD → Bool, (fun s : SeatD => decide (s.pool = q)) = F := ⟨_, rfl⟩
  rw [hF] at HCL ⊢
  clear hF
  go_enter Tryd.func105, Tryd.ntmps105
  go_upto_region 2 with (fail)
  go_loopw [8] (fun iv wr => ∃ i : Nat, i ≤ L.length ∧ iv = .int .i64 i ∧ (∀ j x, j < i → L[j]? = some x → F x = false) ∧ Below w.heap.size w wr) (fun iv _ => L.length - (intOf iv).toNat)
  case atStart => exact ⟨0, Nat.zero_le _, rfl, fun j x hj => absurd hj (Nat.not_lt_zero _), Below.refl _ _⟩
  case round =>
    obtain ⟨i, hi, rfl, hall, hb⟩ := hrel
    have HALL := Lib.hid hall
    have HB := Lib.hid hb
    clear hall hb
    by_cases hlt : i < L.length
    · obtain ⟨g, o, cap', ha, _, hr⟩ := (HT.out.kept HB.out).some (by omega)
      have hx := List.getElem?_eq_getElem hlt
      obtain ⟨x, hxx⟩ : ∃ x, L[i] = x := ⟨_, rfl⟩
      rw [hxx] at hx
      have HRX := Lib.hid (range_at hr hx)
      have HX := Lib.hid hx
      have HIX := Lib.hid (KSeat.infoL x)
      injection ha with ha1 _ ha2
      subst ha1 ha2
      have hki : (i : Int) < (L.length : Int) := by omega
      have HC1 := Lib.hid (HCL.out x wr HB.out)
      obtain ⟨CX, hCX⟩ : ∃ C, (KSeat.enc x).toArray = C := ⟨_, rfl⟩
      have HCX := Lib.hid hCX
      rw [hCX] at HC1
      obtain ⟨b, hb⟩ : ∃ b, F x = b := ⟨_, rfl⟩
      have HBB := Lib.hid hb
      rw [hb] at HC1
      clear hCX hxx hx hr hb
      cases b with
      | true =>
        go_wp2_with (first
          | (go_at_call 94; refine HC1.out.mono ?_; rintro e w1 ⟨rfl, hb1⟩)
          | (refine wpList_load_mid rfl 67 (.tmp 14) rfl g (o + i * 67) rfl (KSeat.enc x) _ HRX.out Tryd.underlying67 rfl HIX.out ?_; rw [HCX.out]; go_frame))
        go_ret
        exact ⟨_, rfl, by rw [any_yes HX.out HBB.out]; simp, HB.out.trans (hb1.mono HB.out.size)⟩
      | false =>
        go_wp2_with (first
          | (go_at_call 94; refine HC1.out.mono ?_; rintro e w1 ⟨rfl, hb1⟩)
          | (refine wpList_load_mid rfl 67 (.tmp 14) rfl g (o + i * 67) rfl (KSeat.enc x) _ HRX.out Tryd.underlying67 rfl HIX.out ?_; rw [HCX.out]; go_frame))
        go_roundw
        case rel => exact ⟨i + 1, by omega, by go_num, fun j y hj hy => by
          rcases Nat.lt_or_ge j i with h | h
          · exact HALL.out j y h hy
          · obtain rfl : j = i := by omega
            have h2 := HX.out
            rw [hy] at h2
            injection h2 with h2
            rw [h2]
            exact HBB.out, HB.out.trans (hb1.mono HB.out.size)⟩
        case measure => simp [intOf]; omega
    · obtain rfl : i = L.length := by omega
      go_wp2_with fail
      go_ret
      exact ⟨_, rfl, by rw [any_no HALL.out]; rfl, HB.out⟩
set_option maxRecDepth 100000 in
set_option maxHeartbeats 400000 in
theorem code_containsS (q : H32) (gq : Nat) (v : Value) (L : List SeatD) (w : World) (hT : KSeat.At w v L) (hL : L.length ≤ 1000000) (hg : w.heap[gq]? = some (.cells (valsB q.1).toArray 29 (0, 0))) :
    Calls Tryd.prog 93 #[v, .func (.func 94) #[] #[.pointer (some ⟨gq, 0, none⟩)]] w fun e w' => e = .returned (.bool (L.any (fun s : SeatD => decide (s.pool = q)))) ∧ Below w.heap.size w w' := by
  have HI := Lib.hid (code_indexS q gq v L w hT hL hg)
  obtain ⟨b, hb⟩ : ∃ b, L.any (fun s : SeatD => decide (s.pool = q)) = b := ⟨_, rfl⟩
  rw [hb] at HI ⊢
  clear hb
  go_enter Tryd.func93, Tryd.ntmps93
  go_wp2_with (go_at_call 105; refine HI.out.mono ?_; rintro e w1 ⟨z, rfl, hz, hb1⟩)
  go_ret
  exact ⟨by rw [← hz]; rfl, hb1⟩

end Go.Proofs.YtdgaoebjbhomdaaDoor.Og
