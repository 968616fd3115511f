/- origin: the code's mayCoins, isPool, rise. -/
import Derived.Test.YtdgaoebjbhomdaaDoorOgG
namespace Go.Proofs.YtdgaoebjbhomdaaDoor.Og
open Go.RowKit Go.Proofs.YtdgaoebjbhomdaaDoor.Sha Go.Proofs.YtdgaoebjbhomdaaDoor.Gr Go.Proofs.YtdgaoebjbhomdaaDoor.Digit Go.Proofs.YtdgaoebjbhomdaaDoor.Deed Go.Proofs.YtdgaoebjbhomdaaDoor.Tree

theorem coins_any (L : List OutD) : (!L.any fun x : OutD => decide (x.am.toNat = 0)) = allN L.length (coinI L) := by
  rw [Bool.eq_iff_iff, allN_iff, Bool.not_eq_true', List.any_eq_false]
  constructor
  · intro h i hi
    have h1 := h (L.getD i default) (by rw [List.getD_eq_getElem?_getD, List.getElem?_eq_getElem hi]; exact List.getElem_mem _)
    unfold coinI
    simp at h1 ⊢
    omega
  · intro h x hx
    obtain ⟨j, hj⟩ := List.mem_iff_getElem?.1 hx
    have h1 := h j (List.getElem?_eq_some_iff.1 hj).1
    unfold coinI at h1
    rw [geD hj] at h1
    simp at h1 ⊢
    omega
set_option maxRecDepth 100000 in
set_option maxHeartbeats 400000 in
theorem code_mayCoins (v : Value) (L : List OutD) (w : World) (hT : KOut.At w v L) (hL : L.length ≤ 1000000) : Calls Tryd.prog 46 #[v] w fun e w' => e = .returned (.bool (allN L.length (coinI L))) ∧ Below w.heap.size w w' := by
  have HC := Lib.hid (code_containsC v L w hT hL)
  rw [← coins_any]
  obtain ⟨b, hb⟩ : ∃ b, L.any (fun x : OutD => decide (x.am.toNat = 0)) = b := ⟨_, rfl⟩
  rw [hb] at HC ⊢
  clear hb
  go_enter Tryd.func46, Tryd.ntmps46
  go_wp2_with (go_at_call 71; refine HC.out.mono ?_; rintro e w1 ⟨rfl, hb1⟩)
  go_ret
  exact ⟨rfl, hb1⟩
set_option maxRecDepth 100000 in
set_option maxHeartbeats 400000 in
theorem code_isPool (v : Value) (L : List SeatD) (q : H32) (w : World) (hT : KSeat.At w v L) (hL : L.length ≤ 1000000) : Calls Tryd.prog 75 #[hV q, v] w fun e w' => e = .returned (.bool (hasP L q)) ∧ Below w.heap.size w w' := by
  have HBW := Lib.hid (show Below w.heap.size w (w.alloc (.cells (valsB q.1).toArray 29)) from (Below.refl _ _).alloc (Nat.le_refl _) _)
  have HC := Lib.hid (code_containsS q w.heap.size v L (w.alloc (.cells (valsB q.1).toArray 29)) (hT.kept HBW.out) hL (heap_alloc_new w _))
  unfold hasP hV
  obtain ⟨b, hb⟩ : ∃ b, L.any (fun s : SeatD => decide (s.pool = q)) = b := ⟨_, rfl⟩
  rw [hb] at HC ⊢
  clear hb
  obtain ⟨C, hC⟩ : ∃ C, (valsB q.1).toArray = C := ⟨_, rfl⟩
  rw [hC] at HC HBW ⊢
  clear hC
  go_enter Tryd.func75, Tryd.ntmps75
  go_upto_region 1 with (fail)
  generalize w.alloc (.cells C 29) = W at HC HBW ⊢
  go_wp2_with (go_at_call 93; refine HC.out.mono ?_; rintro e w1 ⟨rfl, hb1⟩)
  go_ret
  exact ⟨rfl, HBW.out.trans (hb1.mono HBW.out.size)⟩


set_option maxRecDepth 100000 in
set_option maxHeartbeats 800000 in
theorem code_keyKSeat (x : SeatD) (w : World) : Calls Tryd.prog 74 #[.agg (KSeat.enc x).toArray] w fun e w' => e = .returned (hV x.pool) ∧ Below w.heap.size w w' := by
  have hb0 : Below w.heap.size w (w.alloc (.cells (KSeat.enc x).toArray 67)) := (Below.refl _ _).alloc (Nat.le_refl _) _
  have hs0 : (w.alloc (.cells (KSeat.enc x).toArray 67)).heap.size = w.heap.size + 1 := by simp
  have hb1 : Below w.heap.size w ((w.alloc (.cells (KSeat.enc x).toArray 67)).alloc (.cells (List.replicate 32 (Value.int .u8 0)).toArray 29)) := hb0.alloc (by omega) _
  have hz : ((w.alloc (.cells (KSeat.enc x).toArray 67)).alloc (.cells (List.replicate 32 (Value.int .u8 0)).toArray 29)).heap[w.heap.size + 1]? = some (.cells (List.replicate 32 (Value.int .u8 0)).toArray 29 (0, 0)) := by rw [← hs0]; exact heap_alloc_new _ _
  have hr0 := Seat_parts (range_new w (KSeat.enc x) 67)
  have HR := Lib.hid (range_kept ((Below.refl _ _).alloc (Nat.le_refl _) (.cells (List.replicate 32 (Value.int .u8 0)).toArray 29)) hr0.pool)
  have HI := Lib.hid (infoKH x.pool)
  have HB := Lib.hid hb1
  have HZ := Lib.hid hz
  have HINF := Lib.hid (show (Tryd.prog.info? 29).map (·.size) = some (valsB x.pool.1).toArray.size from KH.infoA x.pool)
  have HZS := Lib.hid (show (List.replicate 32 (Value.int .u8 0)).toArray.size = (valsB x.pool.1).toArray.size by rw [valsB_size, x.pool.2]; rfl)
  have HONE := Lib.hid (show (valsB x.pool.1).toArray.all (·.oneCell') = true from KH.oneA x.pool)
  unfold hV
  obtain ⟨CX, hCX⟩ : ∃ C, (valsB x.pool.1).toArray = C := ⟨_, rfl⟩
  have HCX := Lib.hid hCX
  rw [hCX] at HINF HZS HONE ⊢
  obtain ⟨C, hC⟩ : ∃ C, (KSeat.enc x).toArray = C := ⟨_, rfl⟩
  rw [hC] at HR HB HZ ⊢
  obtain ⟨Z, hZ⟩ : ∃ Z, (List.replicate 32 (Value.int .u8 0)).toArray = Z := ⟨_, rfl⟩
  rw [hZ] at HR HB HZ HZS
  clear hCX hC hb0 hs0 hb1 hz hr0
  go_enter Tryd.func74, Tryd.ntmps74
  go_upto_region 1 with (fail)
  rw [zero32, hZ]
  clear hZ
  generalize (w.alloc (.cells C 67)).alloc (.cells Z 29) = W at HR HB HZ ⊢
  go_wp2_with (first
    | (refine wpList_load_mid rfl 29 (.tmp 3) rfl w.heap.size 0 rfl (valsB x.pool.1) _ HR.out Tryd.underlying29 rfl HI.out ?_; rw [HCX.out]; go_frame)
    | (refine wpList_store_row rfl 29 (.tmp 2) (.tmp 4) rfl (w.heap.size + 1) CX rfl rfl 29 Z HZ.out HINF.out HZS.out HONE.out ?_))
  refine bodyPost_ret (results_cell_row (p := 2) (ty := 29) Tryd.results74 _ _ (w.heap.size + 1) 29 CX (0, 0) _ rfl (setRow_heap _ _ _ _ _ _ HZ.out) Tryd.underlying29 rfl HINF.out) rfl ⟨rfl, below_setRow HB.out (by omega) _⟩
set_option maxRecDepth 100000 in
set_option maxHeartbeats 3200000 in
theorem code_riseKSeat (v : Value) (L : List SeatD) (w : World) (hT : KSeat.At w v L) (hL : L.length ≤ 1000000) :
    Calls Tryd.prog 73 #[v, .func (.func 74) #[] #[]] w fun e w' => e = .returned (.bool (allN L.length (upI poolK L))) ∧ Below w.heap.size w w' := by
  obtain ⟨a, cap, rfl, hcap⟩ := hT.form
  have HT := Lib.hid hT
  clear hT
  rw [ups]
  obtain ⟨r, hr⟩ : ∃ r, allN (L.length - 1) (fun i => Op.bytesLess (poolK (L.getD i default)) (poolK (L.getD (i + 1) default))) = r := ⟨_, rfl⟩
  have HRR := Lib.hid hr
  rw [hr]
  clear hr
  go_enter Tryd.func73, Tryd.ntmps73
  go_upto_region 2 with (fail)
  go_loopw [9] (fun iv wr => ∃ i : Nat, i ≤ L.length - 1 ∧ iv = .int .i64 i ∧ (∀ j, j < i → Op.bytesLess (poolK (L.getD j default)) (poolK (L.getD (j + 1) default)) = true) ∧ Below w.heap.size w wr) (fun iv _ => L.length - (intOf iv).toNat)
  case atStart => exact ⟨0, Nat.zero_le _, rfl, fun j hj => absurd hj (Nat.not_lt_zero _), Below.refl _ _⟩
  case round =>
    obtain ⟨i, hi, rfl, hall, hb⟩ := hrel
    have HALL := Lib.hid hall
    have HB := Lib.hid hb
    clear hall hb
    by_cases hlt : i < L.length - 1
    · obtain ⟨g, oo, cap', ha, _, hr⟩ := (HT.out.kept HB.out).some (by omega)
      have hx := List.getElem?_eq_getElem (show i < L.length by omega)
      have hy := List.getElem?_eq_getElem (show i + 1 < L.length by omega)
      obtain ⟨x, hxx⟩ : ∃ x, L[i] = x := ⟨_, rfl⟩
      obtain ⟨y, hyy⟩ : ∃ x, L[i + 1] = x := ⟨_, rfl⟩
      rw [hxx] at hx
      rw [hyy] at hy
      have HRX := Lib.hid (range_at hr hx)
      have HRY := Lib.hid (range_at hr hy)
      have HIX := Lib.hid (KSeat.infoL x)
      have HIY := Lib.hid (KSeat.infoL y)
      have HLESS := Lib.hid (show Op.bytesLess (poolK (L.getD i default)) (poolK (L.getD (i + 1) default)) = Op.bytesLess x.pool.1 y.pool.1 by rw [geD hx, geD hy])
      injection ha with ha1 _ ha2
      subst ha1 ha2
      have hki : (i : Int) < (L.length : Int) - 1 := by omega
      have hki2 : (i : Int) < (L.length : Int) := by omega
      have hkj : (i : Int) + 1 < (L.length : Int) := by omega
      obtain ⟨SX, hSX⟩ : ∃ S, bs x.pool.1 = S := ⟨_, rfl⟩
      obtain ⟨SY, hSY⟩ : ∃ S, bs y.pool.1 = S := ⟨_, rfl⟩
      have HSX := Lib.hid hSX
      have HSY := Lib.hid hSY
      obtain ⟨b, hbl⟩ : ∃ b, Op.bytesLess x.pool.1 y.pool.1 = b := ⟨_, rfl⟩
      rw [hbl] at HLESS
      have hbs : Op.bytesLess SX.toList SY.toList = b := by rw [← hSX, ← hSY, Lib.toList_data, Lib.toList_data]; exact hbl
      clear hx hy hxx hyy hr hSX hSY hbl
      go_upto_region 4 with (fail)
      refine QT.wp_region_facts (by kernel_rfl) (fun w' => Below wr.heap.size wr w') (fun n v w' => (([.val (.func (.func 74) #[] #[]), .val (.slice (some ⟨g, oo, none⟩) L.length cap), .val (.int .i64 (i : Int)), .val (.pointer (some ⟨g, oo + i * 67, none⟩)), .val (.agg (KSeat.enc x).toArray), .val (.agg (valsB x.pool.1).toArray), .val (.string SX), .val (.func (.func 74) #[] #[]), .val (.slice (some ⟨g, oo, none⟩) L.length cap), .val (.int .i64 (i : Int)), .val (.int .i64 ((i : Int) + 1)), .val (.pointer (some ⟨g, oo + (i + 1) * 67, none⟩)), .val (.agg (KSeat.enc y).toArray), .val (.agg (valsB y.pool.1).toArray), .val (.string SY), .val (.bool (!b))] : List FactO).getD n (.val undef) : FactO).holds v w') (by kernel_rfl) (by kernel_rfl) (Below.refl _ _).drew (fun w1 w2 h1 hb => h1.trans (hb.mono h1.size)) (fun n v w1 w2 h hb => FactO.kept _ v w1 w2 h hb) (fun n o ho a wz hI hag hdep => ?_) (fun a wz hI hag hf => ?_)
      · have t0 : a.eval (.tmp 0) = .slice (some ⟨g, oo, none⟩) L.length cap := hag.old 0 _ (by kernel_rfl) rfl
        have t1 : a.eval (.tmp 1) = .func (.func 74) #[] #[] := hag.old 1 _ (by kernel_rfl) rfl
        have t5 : a.eval (.tmp 5) = .int .i64 (i : Int) := hag.old 5 _ (by kernel_rfl) rfl
        have hw1 : IntKind.i64.wrap ((i : Int) + 1) = (i : Int) + 1 := IntWalk.i64_in _ ⟨by omega, by omega⟩
        have hi1 : (0 : Int) ≤ (i : Int) + 1 := by omega
        have hi2 : ((i : Int) + 1).toNat = i + 1 := by omega
        match n, ho with
        | 0, ho =>
          obtain rfl := (Option.some.inj ho).symm
          exact ⟨rfl, QT.wp_value (BigFrame.run_move (.tmp 1) rfl wz) ⟨_, rfl, t1, Below.refl _ _⟩⟩
        | 1, ho =>
          obtain rfl := (Option.some.inj ho).symm
          exact ⟨rfl, QT.wp_value (BigFrame.run_move (.tmp 0) rfl wz) ⟨_, rfl, t0, Below.refl _ _⟩⟩
        | 2, ho =>
          obtain rfl := (Option.some.inj ho).symm
          exact ⟨rfl, QT.wp_value (BigFrame.run_move (.tmp 5) rfl wz) ⟨_, rfl, t5, Below.refl _ _⟩⟩
        | 3, ho =>
          obtain rfl := (Option.some.inj ho).symm
          have d13 : a.eval (.tmp 13) = .slice (some ⟨g, oo, none⟩) L.length cap := hdep _ (Array.mem_of_getElem? (i := 0) rfl) rfl _ _ rfl rfl
          have d14 : a.eval (.tmp 14) = .int .i64 (i : Int) := hdep _ (Array.mem_of_getElem? (i := 1) rfl) rfl _ _ rfl rfl
          exact ⟨rfl, QT.wp_value (v := .pointer (some ⟨g, oo + i * 67, none⟩)) (by simp [go_sem, QT.nf d13, QT.nf d14, hki2]) ⟨_, rfl, rfl, Below.refl _ _⟩⟩
        | 4, ho =>
          obtain rfl := (Option.some.inj ho).symm
          have d15 : a.eval (.tmp 15) = .pointer (some ⟨g, oo + i * 67, none⟩) := hdep _ (Array.mem_of_getElem? (i := 0) rfl) rfl _ _ rfl rfl
          exact ⟨rfl, wp_load_mid 67 (.tmp 15) rfl g (oo + i * 67) d15 (KSeat.enc x) _ (range_kept hI HRX.out) Tryd.underlying67 rfl HIX.out ⟨_, rfl, rfl, Below.refl _ _⟩⟩
        | 5, ho =>
          obtain rfl := (Option.some.inj ho).symm
          have d12 : a.eval (.tmp 12) = .func (.func 74) #[] #[] := hdep _ (Array.mem_of_getElem? (i := 0) rfl) rfl _ _ rfl rfl
          have d16 : a.eval (.tmp 16) = .agg (KSeat.enc x).toArray := hdep _ (Array.mem_of_getElem? (i := 1) rfl) rfl _ _ rfl rfl
          exact ⟨rfl, QT.wp_enter (v := hV x.pool) (f := 74) (args := #[.agg (KSeat.enc x).toArray]) (R := fun w' => Below wz.heap.size wz w') (by simp [go_sem, QT.nf d12, QT.nf d16]) ((code_keyKSeat x wz).mono fun _ _ ⟨h1, h2⟩ => ⟨h1, h2⟩) fun w' h => ⟨_, rfl, rfl, h⟩⟩
        | 6, ho =>
          obtain rfl := (Option.some.inj ho).symm
          have d17 : a.eval (.tmp 17) = .agg (valsB x.pool.1).toArray := hdep _ (Array.mem_of_getElem? (i := 0) rfl) rfl _ _ rfl rfl
          exact ⟨rfl, QT.wp_enter (v := .string SX) (f := 30) (args := #[hV x.pool]) (R := fun w' => Below wz.heap.size wz w') (by simp [go_sem, QT.nf d17]) ((told (codeBytes x.pool wz) HSX.out).mono fun _ _ ⟨h1, h2⟩ => ⟨h1, h2⟩) fun w' h => ⟨_, rfl, rfl, h⟩⟩
        | 7, ho =>
          obtain rfl := (Option.some.inj ho).symm
          exact ⟨rfl, QT.wp_value (BigFrame.run_move (.tmp 1) rfl wz) ⟨_, rfl, t1, Below.refl _ _⟩⟩
        | 8, ho =>
          obtain rfl := (Option.some.inj ho).symm
          exact ⟨rfl, QT.wp_value (BigFrame.run_move (.tmp 0) rfl wz) ⟨_, rfl, t0, Below.refl _ _⟩⟩
        | 9, ho =>
          obtain rfl := (Option.some.inj ho).symm
          exact ⟨rfl, QT.wp_value (BigFrame.run_move (.tmp 5) rfl wz) ⟨_, rfl, t5, Below.refl _ _⟩⟩
        | 10, ho =>
          obtain rfl := (Option.some.inj ho).symm
          have d21 : a.eval (.tmp 21) = .int .i64 (i : Int) := hdep _ (Array.mem_of_getElem? (i := 0) rfl) rfl _ _ rfl rfl
          exact ⟨rfl, QT.wp_value (v := .int .i64 ((i : Int) + 1)) (by simp [go_sem, QT.nf d21, hw1]) ⟨_, rfl, rfl, Below.refl _ _⟩⟩
        | 11, ho =>
          obtain rfl := (Option.some.inj ho).symm
          have d20 : a.eval (.tmp 20) = .slice (some ⟨g, oo, none⟩) L.length cap := hdep _ (Array.mem_of_getElem? (i := 0) rfl) rfl _ _ rfl rfl
          have d22 : a.eval (.tmp 22) = .int .i64 ((i : Int) + 1) := hdep _ (Array.mem_of_getElem? (i := 1) rfl) rfl _ _ rfl rfl
          exact ⟨rfl, QT.wp_value (v := .pointer (some ⟨g, oo + (i + 1) * 67, none⟩)) (by simp [go_sem, QT.nf d20, QT.nf d22, hkj, hi1, hi2]) ⟨_, rfl, rfl, Below.refl _ _⟩⟩
        | 12, ho =>
          obtain rfl := (Option.some.inj ho).symm
          have d23 : a.eval (.tmp 23) = .pointer (some ⟨g, oo + (i + 1) * 67, none⟩) := hdep _ (Array.mem_of_getElem? (i := 0) rfl) rfl _ _ rfl rfl
          exact ⟨rfl, wp_load_mid 67 (.tmp 23) rfl g (oo + (i + 1) * 67) d23 (KSeat.enc y) _ (range_kept hI HRY.out) Tryd.underlying67 rfl HIY.out ⟨_, rfl, rfl, Below.refl _ _⟩⟩
        | 13, ho =>
          obtain rfl := (Option.some.inj ho).symm
          have d19 : a.eval (.tmp 19) = .func (.func 74) #[] #[] := hdep _ (Array.mem_of_getElem? (i := 0) rfl) rfl _ _ rfl rfl
          have d24 : a.eval (.tmp 24) = .agg (KSeat.enc y).toArray := hdep _ (Array.mem_of_getElem? (i := 1) rfl) rfl _ _ rfl rfl
          exact ⟨rfl, QT.wp_enter (v := hV y.pool) (f := 74) (args := #[.agg (KSeat.enc y).toArray]) (R := fun w' => Below wz.heap.size wz w') (by simp [go_sem, QT.nf d19, QT.nf d24]) ((code_keyKSeat y wz).mono fun _ _ ⟨h1, h2⟩ => ⟨h1, h2⟩) fun w' h => ⟨_, rfl, rfl, h⟩⟩
        | 14, ho =>
          obtain rfl := (Option.some.inj ho).symm
          have d25 : a.eval (.tmp 25) = .agg (valsB y.pool.1).toArray := hdep _ (Array.mem_of_getElem? (i := 0) rfl) rfl _ _ rfl rfl
          exact ⟨rfl, QT.wp_enter (v := .string SY) (f := 30) (args := #[hV y.pool]) (R := fun w' => Below wz.heap.size wz w') (by simp [go_sem, QT.nf d25]) ((told (codeBytes y.pool wz) HSY.out).mono fun _ _ ⟨h1, h2⟩ => ⟨h1, h2⟩) fun w' h => ⟨_, rfl, rfl, h⟩⟩
        | 15, ho =>
          obtain rfl := (Option.some.inj ho).symm
          have d18 : a.eval (.tmp 18) = .string SX := hdep _ (Array.mem_of_getElem? (i := 0) rfl) rfl _ _ rfl rfl
          have d26 : a.eval (.tmp 26) = .string SY := hdep _ (Array.mem_of_getElem? (i := 1) rfl) rfl _ _ rfl rfl
          exact ⟨rfl, QT.wp_value (v := .bool (!b)) (by simp [go_sem, QT.nf d18, QT.nf d26, binOp, Op.stringOp, hbs]) ⟨_, rfl, rfl, Below.refl _ _⟩⟩
        | n + 16, ho => simp at ho
      · have f0 : a.eval (.tmp 12) = .func (.func 74) #[] #[] := hf 0 _ _ rfl rfl
        have f1 : a.eval (.tmp 13) = .slice (some ⟨g, oo, none⟩) L.length cap := hf 1 _ _ rfl rfl
        have f2 : a.eval (.tmp 14) = .int .i64 (i : Int) := hf 2 _ _ rfl rfl
        have f3 : a.eval (.tmp 15) = .pointer (some ⟨g, oo + i * 67, none⟩) := hf 3 _ _ rfl rfl
        have f4 : a.eval (.tmp 16) = .agg (KSeat.enc x).toArray := hf 4 _ _ rfl rfl
        have f5 : a.eval (.tmp 17) = .agg (valsB x.pool.1).toArray := hf 5 _ _ rfl rfl
        have f6 : a.eval (.tmp 18) = .string SX := hf 6 _ _ rfl rfl
        have f7 : a.eval (.tmp 19) = .func (.func 74) #[] #[] := hf 7 _ _ rfl rfl
        have f8 : a.eval (.tmp 20) = .slice (some ⟨g, oo, none⟩) L.length cap := hf 8 _ _ rfl rfl
        have f9 : a.eval (.tmp 21) = .int .i64 (i : Int) := hf 9 _ _ rfl rfl
        have f10 : a.eval (.tmp 22) = .int .i64 ((i : Int) + 1) := hf 10 _ _ rfl rfl
        have f11 : a.eval (.tmp 23) = .pointer (some ⟨g, oo + (i + 1) * 67, none⟩) := hf 11 _ _ rfl rfl
        have f12 : a.eval (.tmp 24) = .agg (KSeat.enc y).toArray := hf 12 _ _ rfl rfl
        have f13 : a.eval (.tmp 25) = .agg (valsB y.pool.1).toArray := hf 13 _ _ rfl rfl
        have f14 : a.eval (.tmp 26) = .string SY := hf 14 _ _ rfl rfl
        have f15 : a.eval (.tmp 27) = .bool (!b) := hf 15 _ _ rfl rfl
        have ha := hag.puts [(12, .func (.func 74) #[] #[]), (13, .slice (some ⟨g, oo, none⟩) L.length cap), (14, .int .i64 (i : Int)), (15, .pointer (some ⟨g, oo + i * 67, none⟩)), (16, .agg (KSeat.enc x).toArray), (17, .agg (valsB x.pool.1).toArray), (18, .string SX), (19, .func (.func 74) #[] #[]), (20, .slice (some ⟨g, oo, none⟩) L.length cap), (21, .int .i64 (i : Int)), (22, .int .i64 ((i : Int) + 1)), (23, .pointer (some ⟨g, oo + (i + 1) * 67, none⟩)), (24, .agg (KSeat.enc y).toArray), (25, .agg (valsB y.pool.1).toArray), (26, .string SY), (27, .bool (!b))] rfl (by simp) (by simp only [List.forall_mem_cons, List.not_mem_nil, false_implies, implies_true, and_true]; exact ⟨f0, f1, f2, f3, f4, f5, f6, f7, f8, f9, f10, f11, f12, f13, f14, f15⟩)
        subst ha
        clear hag hf f0 f1 f2 f3 f4 f5 f6 f7 f8 f9 f10 f11 f12 f13 f14 f15
        simp only [List.foldl_cons, List.foldl_nil, Act.put, List.setIfInBounds_toArray, List.set_cons_succ, List.set_cons_zero]
        have HBI := Lib.hid hI
        clear hI
        cases b with
        | true =>
          go_wp2_with fail
          go_roundw
          case rel => exact ⟨i + 1, by omega, by go_num, fun j hj => by
            rcases Nat.lt_or_ge j i with h | h
            · exact HALL.out j h
            · obtain rfl : j = i := by omega
              exact HLESS.out, HB.out.trans (HBI.out.mono HB.out.size)⟩
          case measure => simp [intOf]; omega
        | false =>
          have hrr : r = false := by rw [← HRR.out]; exact allN_no i hlt HLESS.out
          subst hrr
          go_wp2_with fail
          go_ret
          exact ⟨rfl, HB.out.trans (HBI.out.mono HB.out.size)⟩
    · obtain rfl : i = L.length - 1 := by omega
      have hrr : r = true := by rw [← HRR.out]; exact allN_iff.2 HALL.out
      subst hrr
      have hnlt : ¬ ((L.length - 1 : Nat) : Int) < (L.length : Int) - 1 := by omega
      go_wp2_with fail
      go_ret
      exact ⟨rfl, HB.out⟩


set_option maxRecDepth 100000 in
set_option maxHeartbeats 800000 in
theorem code_keyKTrust (x : TrustD) (w : World) : Calls Tryd.prog 77 #[.agg (KTrust.enc x).toArray] w fun e w' => e = .returned (hV x.key) ∧ Below w.heap.size w w' := by
  have hb0 : Below w.heap.size w (w.alloc (.cells (KTrust.enc x).toArray 69)) := (Below.refl _ _).alloc (Nat.le_refl _) _
  have hs0 : (w.alloc (.cells (KTrust.enc x).toArray 69)).heap.size = w.heap.size + 1 := by simp
  have hb1 : Below w.heap.size w ((w.alloc (.cells (KTrust.enc x).toArray 69)).alloc (.cells (List.replicate 32 (Value.int .u8 0)).toArray 29)) := hb0.alloc (by omega) _
  have hz : ((w.alloc (.cells (KTrust.enc x).toArray 69)).alloc (.cells (List.replicate 32 (Value.int .u8 0)).toArray 29)).heap[w.heap.size + 1]? = some (.cells (List.replicate 32 (Value.int .u8 0)).toArray 29 (0, 0)) := by rw [← hs0]; exact heap_alloc_new _ _
  have hr0 := Trust_parts (range_new w (KTrust.enc x) 69)
  have HR := Lib.hid (range_kept ((Below.refl _ _).alloc (Nat.le_refl _) (.cells (List.replicate 32 (Value.int .u8 0)).toArray 29)) hr0.1)
  have HI := Lib.hid (infoKH x.key)
  have HB := Lib.hid hb1
  have HZ := Lib.hid hz
  have HINF := Lib.hid (show (Tryd.prog.info? 29).map (·.size) = some (valsB x.key.1).toArray.size from KH.infoA x.key)
  have HZS := Lib.hid (show (List.replicate 32 (Value.int .u8 0)).toArray.size = (valsB x.key.1).toArray.size by rw [valsB_size, x.key.2]; rfl)
  have HONE := Lib.hid (show (valsB x.key.1).toArray.all (·.oneCell') = true from KH.oneA x.key)
  unfold hV
  obtain ⟨CX, hCX⟩ : ∃ C, (valsB x.key.1).toArray = C := ⟨_, rfl⟩
  have HCX := Lib.hid hCX
  rw [hCX] at HINF HZS HONE ⊢
  obtain ⟨C, hC⟩ : ∃ C, (KTrust.enc x).toArray = C := ⟨_, rfl⟩
  rw [hC] at HR HB HZ ⊢
  obtain ⟨Z, hZ⟩ : ∃ Z, (List.replicate 32 (Value.int .u8 0)).toArray = Z := ⟨_, rfl⟩
  rw [hZ] at HR HB HZ HZS
  clear hCX hC hb0 hs0 hb1 hz hr0
  go_enter Tryd.func77, Tryd.ntmps77
  go_upto_region 1 with (fail)
  rw [zero32, hZ]
  clear hZ
  generalize (w.alloc (.cells C 69)).alloc (.cells Z 29) = W at HR HB HZ ⊢
  go_wp2_with (first
    | (refine wpList_load_mid rfl 29 (.tmp 3) rfl w.heap.size 0 rfl (valsB x.key.1) _ HR.out Tryd.underlying29 rfl HI.out ?_; rw [HCX.out]; go_frame)
    | (refine wpList_store_row rfl 29 (.tmp 2) (.tmp 4) rfl (w.heap.size + 1) CX rfl rfl 29 Z HZ.out HINF.out HZS.out HONE.out ?_))
  refine bodyPost_ret (results_cell_row (p := 2) (ty := 29) Tryd.results77 _ _ (w.heap.size + 1) 29 CX (0, 0) _ rfl (setRow_heap _ _ _ _ _ _ HZ.out) Tryd.underlying29 rfl HINF.out) rfl ⟨rfl, below_setRow HB.out (by omega) _⟩
set_option maxRecDepth 100000 in
set_option maxHeartbeats 3200000 in
theorem code_riseKTrust (v : Value) (L : List TrustD) (w : World) (hT : KTrust.At w v L) (hL : L.length ≤ 1000000) :
    Calls Tryd.prog 76 #[v, .func (.func 77) #[] #[]] w fun e w' => e = .returned (.bool (allN L.length (upI keyK L))) ∧ Below w.heap.size w w' := by
  obtain ⟨a, cap, rfl, hcap⟩ := hT.form
  have HT := Lib.hid hT
  clear hT
  rw [ups]
  obtain ⟨r, hr⟩ : ∃ r, allN (L.length - 1) (fun i => Op.bytesLess (keyK (L.getD i default)) (keyK (L.getD (i + 1) default))) = r := ⟨_, rfl⟩
  have HRR := Lib.hid hr
  rw [hr]
  clear hr
  go_enter Tryd.func76, Tryd.ntmps76
  go_upto_region 2 with (fail)
  go_loopw [9] (fun iv wr => ∃ i : Nat, i ≤ L.length - 1 ∧ iv = .int .i64 i ∧ (∀ j, j < i → Op.bytesLess (keyK (L.getD j default)) (keyK (L.getD (j + 1) default)) = true) ∧ Below w.heap.size w wr) (fun iv _ => L.length - (intOf iv).toNat)
  case atStart => exact ⟨0, Nat.zero_le _, rfl, fun j hj => absurd hj (Nat.not_lt_zero _), Below.refl _ _⟩
  case round =>
    obtain ⟨i, hi, rfl, hall, hb⟩ := hrel
    have HALL := Lib.hid hall
    have HB := Lib.hid hb
    clear hall hb
    by_cases hlt : i < L.length - 1
    · obtain ⟨g, oo, cap', ha, _, hr⟩ := (HT.out.kept HB.out).some (by omega)
      have hx := List.getElem?_eq_getElem (show i < L.length by omega)
      have hy := List.getElem?_eq_getElem (show i + 1 < L.length by omega)
      obtain ⟨x, hxx⟩ : ∃ x, L[i] = x := ⟨_, rfl⟩
      obtain ⟨y, hyy⟩ : ∃ x, L[i + 1] = x := ⟨_, rfl⟩
      rw [hxx] at hx
      rw [hyy] at hy
      have HRX := Lib.hid (range_at hr hx)
      have HRY := Lib.hid (range_at hr hy)
      have HIX := Lib.hid (KTrust.infoL x)
      have HIY := Lib.hid (KTrust.infoL y)
      have HLESS := Lib.hid (show Op.bytesLess (keyK (L.getD i default)) (keyK (L.getD (i + 1) default)) = Op.bytesLess x.key.1 y.key.1 by rw [geD hx, geD hy])
      injection ha with ha1 _ ha2
      subst ha1 ha2
      have hki : (i : Int) < (L.length : Int) - 1 := by omega
      have hki2 : (i : Int) < (L.length : Int) := by omega
      have hkj : (i : Int) + 1 < (L.length : Int) := by omega
      obtain ⟨SX, hSX⟩ : ∃ S, bs x.key.1 = S := ⟨_, rfl⟩
      obtain ⟨SY, hSY⟩ : ∃ S, bs y.key.1 = S := ⟨_, rfl⟩
      have HSX := Lib.hid hSX
      have HSY := Lib.hid hSY
      obtain ⟨b, hbl⟩ : ∃ b, Op.bytesLess x.key.1 y.key.1 = b := ⟨_, rfl⟩
      rw [hbl] at HLESS
      have hbs : Op.bytesLess SX.toList SY.toList = b := by rw [← hSX, ← hSY, Lib.toList_data, Lib.toList_data]; exact hbl
      clear hx hy hxx hyy hr hSX hSY hbl
      go_upto_region 4 with (fail)
      refine QT.wp_region_facts (by kernel_rfl) (fun w' => Below wr.heap.size wr w') (fun n v w' => (([.val (.func (.func 77) #[] #[]), .val (.slice (some ⟨g, oo, none⟩) L.length cap), .val (.int .i64 (i : Int)), .val (.pointer (some ⟨g, oo + i * 64, none⟩)), .val (.agg (KTrust.enc x).toArray), .val (.agg (valsB x.key.1).toArray), .val (.string SX), .val (.func (.func 77) #[] #[]), .val (.slice (some ⟨g, oo, none⟩) L.length cap), .val (.int .i64 (i : Int)), .val (.int .i64 ((i : Int) + 1)), .val (.pointer (some ⟨g, oo + (i + 1) * 64, none⟩)), .val (.agg (KTrust.enc y).toArray), .val (.agg (valsB y.key.1).toArray), .val (.string SY), .val (.bool (!b))] : List FactO).getD n (.val undef) : FactO).holds v w') (by kernel_rfl) (by kernel_rfl) (Below.refl _ _).drew (fun w1 w2 h1 hb => h1.trans (hb.mono h1.size)) (fun n v w1 w2 h hb => FactO.kept _ v w1 w2 h hb) (fun n o ho a wz hI hag hdep => ?_) (fun a wz hI hag hf => ?_)
      · have t0 : a.eval (.tmp 0) = .slice (some ⟨g, oo, none⟩) L.length cap := hag.old 0 _ (by kernel_rfl) rfl
        have t1 : a.eval (.tmp 1) = .func (.func 77) #[] #[] := hag.old 1 _ (by kernel_rfl) rfl
        have t5 : a.eval (.tmp 5) = .int .i64 (i : Int) := hag.old 5 _ (by kernel_rfl) rfl
        have hw1 : IntKind.i64.wrap ((i : Int) + 1) = (i : Int) + 1 := IntWalk.i64_in _ ⟨by omega, by omega⟩
        have hi1 : (0 : Int) ≤ (i : Int) + 1 := by omega
        have hi2 : ((i : Int) + 1).toNat = i + 1 := by omega
        match n, ho with
        | 0, ho =>
          obtain rfl := (Option.some.inj ho).symm
          exact ⟨rfl, QT.wp_value (BigFrame.run_move (.tmp 1) rfl wz) ⟨_, rfl, t1, Below.refl _ _⟩⟩
        | 1, ho =>
          obtain rfl := (Option.some.inj ho).symm
          exact ⟨rfl, QT.wp_value (BigFrame.run_move (.tmp 0) rfl wz) ⟨_, rfl, t0, Below.refl _ _⟩⟩
        | 2, ho =>
          obtain rfl := (Option.some.inj ho).symm
          exact ⟨rfl, QT.wp_value (BigFrame.run_move (.tmp 5) rfl wz) ⟨_, rfl, t5, Below.refl _ _⟩⟩
        | 3, ho =>
          obtain rfl := (Option.some.inj ho).symm
          have d13 : a.eval (.tmp 13) = .slice (some ⟨g, oo, none⟩) L.length cap := hdep _ (Array.mem_of_getElem? (i := 0) rfl) rfl _ _ rfl rfl
          have d14 : a.eval (.tmp 14) = .int .i64 (i : Int) := hdep _ (Array.mem_of_getElem? (i := 1) rfl) rfl _ _ rfl rfl
          exact ⟨rfl, QT.wp_value (v := .pointer (some ⟨g, oo + i * 64, none⟩)) (by simp [go_sem, QT.nf d13, QT.nf d14, hki2]) ⟨_, rfl, rfl, Below.refl _ _⟩⟩
        | 4, ho =>
          obtain rfl := (Option.some.inj ho).symm
          have d15 : a.eval (.tmp 15) = .pointer (some ⟨g, oo + i * 64, none⟩) := hdep _ (Array.mem_of_getElem? (i := 0) rfl) rfl _ _ rfl rfl
          exact ⟨rfl, wp_load_mid 69 (.tmp 15) rfl g (oo + i * 64) d15 (KTrust.enc x) _ (range_kept hI HRX.out) Tryd.underlying69 rfl HIX.out ⟨_, rfl, rfl, Below.refl _ _⟩⟩
        | 5, ho =>
          obtain rfl := (Option.some.inj ho).symm
          have d12 : a.eval (.tmp 12) = .func (.func 77) #[] #[] := hdep _ (Array.mem_of_getElem? (i := 0) rfl) rfl _ _ rfl rfl
          have d16 : a.eval (.tmp 16) = .agg (KTrust.enc x).toArray := hdep _ (Array.mem_of_getElem? (i := 1) rfl) rfl _ _ rfl rfl
          exact ⟨rfl, QT.wp_enter (v := hV x.key) (f := 77) (args := #[.agg (KTrust.enc x).toArray]) (R := fun w' => Below wz.heap.size wz w') (by simp [go_sem, QT.nf d12, QT.nf d16]) ((code_keyKTrust x wz).mono fun _ _ ⟨h1, h2⟩ => ⟨h1, h2⟩) fun w' h => ⟨_, rfl, rfl, h⟩⟩
        | 6, ho =>
          obtain rfl := (Option.some.inj ho).symm
          have d17 : a.eval (.tmp 17) = .agg (valsB x.key.1).toArray := hdep _ (Array.mem_of_getElem? (i := 0) rfl) rfl _ _ rfl rfl
          exact ⟨rfl, QT.wp_enter (v := .string SX) (f := 30) (args := #[hV x.key]) (R := fun w' => Below wz.heap.size wz w') (by simp [go_sem, QT.nf d17]) ((told (codeBytes x.key wz) HSX.out).mono fun _ _ ⟨h1, h2⟩ => ⟨h1, h2⟩) fun w' h => ⟨_, rfl, rfl, h⟩⟩
        | 7, ho =>
          obtain rfl := (Option.some.inj ho).symm
          exact ⟨rfl, QT.wp_value (BigFrame.run_move (.tmp 1) rfl wz) ⟨_, rfl, t1, Below.refl _ _⟩⟩
        | 8, ho =>
          obtain rfl := (Option.some.inj ho).symm
          exact ⟨rfl, QT.wp_value (BigFrame.run_move (.tmp 0) rfl wz) ⟨_, rfl, t0, Below.refl _ _⟩⟩
        | 9, ho =>
          obtain rfl := (Option.some.inj ho).symm
          exact ⟨rfl, QT.wp_value (BigFrame.run_move (.tmp 5) rfl wz) ⟨_, rfl, t5, Below.refl _ _⟩⟩
        | 10, ho =>
          obtain rfl := (Option.some.inj ho).symm
          have d21 : a.eval (.tmp 21) = .int .i64 (i : Int) := hdep _ (Array.mem_of_getElem? (i := 0) rfl) rfl _ _ rfl rfl
          exact ⟨rfl, QT.wp_value (v := .int .i64 ((i : Int) + 1)) (by simp [go_sem, QT.nf d21, hw1]) ⟨_, rfl, rfl, Below.refl _ _⟩⟩
        | 11, ho =>
          obtain rfl := (Option.some.inj ho).symm
          have d20 : a.eval (.tmp 20) = .slice (some ⟨g, oo, none⟩) L.length cap := hdep _ (Array.mem_of_getElem? (i := 0) rfl) rfl _ _ rfl rfl
          have d22 : a.eval (.tmp 22) = .int .i64 ((i : Int) + 1) := hdep _ (Array.mem_of_getElem? (i := 1) rfl) rfl _ _ rfl rfl
          exact ⟨rfl, QT.wp_value (v := .pointer (some ⟨g, oo + (i + 1) * 64, none⟩)) (by simp [go_sem, QT.nf d20, QT.nf d22, hkj, hi1, hi2]) ⟨_, rfl, rfl, Below.refl _ _⟩⟩
        | 12, ho =>
          obtain rfl := (Option.some.inj ho).symm
          have d23 : a.eval (.tmp 23) = .pointer (some ⟨g, oo + (i + 1) * 64, none⟩) := hdep _ (Array.mem_of_getElem? (i := 0) rfl) rfl _ _ rfl rfl
          exact ⟨rfl, wp_load_mid 69 (.tmp 23) rfl g (oo + (i + 1) * 64) d23 (KTrust.enc y) _ (range_kept hI HRY.out) Tryd.underlying69 rfl HIY.out ⟨_, rfl, rfl, Below.refl _ _⟩⟩
        | 13, ho =>
          obtain rfl := (Option.some.inj ho).symm
          have d19 : a.eval (.tmp 19) = .func (.func 77) #[] #[] := hdep _ (Array.mem_of_getElem? (i := 0) rfl) rfl _ _ rfl rfl
          have d24 : a.eval (.tmp 24) = .agg (KTrust.enc y).toArray := hdep _ (Array.mem_of_getElem? (i := 1) rfl) rfl _ _ rfl rfl
          exact ⟨rfl, QT.wp_enter (v := hV y.key) (f := 77) (args := #[.agg (KTrust.enc y).toArray]) (R := fun w' => Below wz.heap.size wz w') (by simp [go_sem, QT.nf d19, QT.nf d24]) ((code_keyKTrust y wz).mono fun _ _ ⟨h1, h2⟩ => ⟨h1, h2⟩) fun w' h => ⟨_, rfl, rfl, h⟩⟩
        | 14, ho =>
          obtain rfl := (Option.some.inj ho).symm
          have d25 : a.eval (.tmp 25) = .agg (valsB y.key.1).toArray := hdep _ (Array.mem_of_getElem? (i := 0) rfl) rfl _ _ rfl rfl
          exact ⟨rfl, QT.wp_enter (v := .string SY) (f := 30) (args := #[hV y.key]) (R := fun w' => Below wz.heap.size wz w') (by simp [go_sem, QT.nf d25]) ((told (codeBytes y.key wz) HSY.out).mono fun _ _ ⟨h1, h2⟩ => ⟨h1, h2⟩) fun w' h => ⟨_, rfl, rfl, h⟩⟩
        | 15, ho =>
          obtain rfl := (Option.some.inj ho).symm
          have d18 : a.eval (.tmp 18) = .string SX := hdep _ (Array.mem_of_getElem? (i := 0) rfl) rfl _ _ rfl rfl
          have d26 : a.eval (.tmp 26) = .string SY := hdep _ (Array.mem_of_getElem? (i := 1) rfl) rfl _ _ rfl rfl
          exact ⟨rfl, QT.wp_value (v := .bool (!b)) (by simp [go_sem, QT.nf d18, QT.nf d26, binOp, Op.stringOp, hbs]) ⟨_, rfl, rfl, Below.refl _ _⟩⟩
        | n + 16, ho => simp at ho
      · have f0 : a.eval (.tmp 12) = .func (.func 77) #[] #[] := hf 0 _ _ rfl rfl
        have f1 : a.eval (.tmp 13) = .slice (some ⟨g, oo, none⟩) L.length cap := hf 1 _ _ rfl rfl
        have f2 : a.eval (.tmp 14) = .int .i64 (i : Int) := hf 2 _ _ rfl rfl
        have f3 : a.eval (.tmp 15) = .pointer (some ⟨g, oo + i * 64, none⟩) := hf 3 _ _ rfl rfl
        have f4 : a.eval (.tmp 16) = .agg (KTrust.enc x).toArray := hf 4 _ _ rfl rfl
        have f5 : a.eval (.tmp 17) = .agg (valsB x.key.1).toArray := hf 5 _ _ rfl rfl
        have f6 : a.eval (.tmp 18) = .string SX := hf 6 _ _ rfl rfl
        have f7 : a.eval (.tmp 19) = .func (.func 77) #[] #[] := hf 7 _ _ rfl rfl
        have f8 : a.eval (.tmp 20) = .slice (some ⟨g, oo, none⟩) L.length cap := hf 8 _ _ rfl rfl
        have f9 : a.eval (.tmp 21) = .int .i64 (i : Int) := hf 9 _ _ rfl rfl
        have f10 : a.eval (.tmp 22) = .int .i64 ((i : Int) + 1) := hf 10 _ _ rfl rfl
        have f11 : a.eval (.tmp 23) = .pointer (some ⟨g, oo + (i + 1) * 64, none⟩) := hf 11 _ _ rfl rfl
        have f12 : a.eval (.tmp 24) = .agg (KTrust.enc y).toArray := hf 12 _ _ rfl rfl
        have f13 : a.eval (.tmp 25) = .agg (valsB y.key.1).toArray := hf 13 _ _ rfl rfl
        have f14 : a.eval (.tmp 26) = .string SY := hf 14 _ _ rfl rfl
        have f15 : a.eval (.tmp 27) = .bool (!b) := hf 15 _ _ rfl rfl
        have ha := hag.puts [(12, .func (.func 77) #[] #[]), (13, .slice (some ⟨g, oo, none⟩) L.length cap), (14, .int .i64 (i : Int)), (15, .pointer (some ⟨g, oo + i * 64, none⟩)), (16, .agg (KTrust.enc x).toArray), (17, .agg (valsB x.key.1).toArray), (18, .string SX), (19, .func (.func 77) #[] #[]), (20, .slice (some ⟨g, oo, none⟩) L.length cap), (21, .int .i64 (i : Int)), (22, .int .i64 ((i : Int) + 1)), (23, .pointer (some ⟨g, oo + (i + 1) * 64, none⟩)), (24, .agg (KTrust.enc y).toArray), (25, .agg (valsB y.key.1).toArray), (26, .string SY), (27, .bool (!b))] rfl (by simp) (by simp only [List.forall_mem_cons, List.not_mem_nil, false_implies, implies_true, and_true]; exact ⟨f0, f1, f2, f3, f4, f5, f6, f7, f8, f9, f10, f11, f12, f13, f14, f15⟩)
        subst ha
        clear hag hf f0 f1 f2 f3 f4 f5 f6 f7 f8 f9 f10 f11 f12 f13 f14 f15
        simp only [List.foldl_cons, List.foldl_nil, Act.put, List.setIfInBounds_toArray, List.set_cons_succ, List.set_cons_zero]
        have HBI := Lib.hid hI
        clear hI
        cases b with
        | true =>
          go_wp2_with fail
          go_roundw
          case rel => exact ⟨i + 1, by omega, by go_num, fun j hj => by
            rcases Nat.lt_or_ge j i with h | h
            · exact HALL.out j h
            · obtain rfl : j = i := by omega
              exact HLESS.out, HB.out.trans (HBI.out.mono HB.out.size)⟩
          case measure => simp [intOf]; omega
        | false =>
          have hrr : r = false := by rw [← HRR.out]; exact allN_no i hlt HLESS.out
          subst hrr
          go_wp2_with fail
          go_ret
          exact ⟨rfl, HB.out.trans (HBI.out.mono HB.out.size)⟩
    · obtain rfl : i = L.length - 1 := by omega
      have hrr : r = true := by rw [← HRR.out]; exact allN_iff.2 HALL.out
      subst hrr
      have hnlt : ¬ ((L.length - 1 : Nat) : Int) < (L.length : Int) - 1 := by omega
      go_wp2_with fail
      go_ret
      exact ⟨rfl, HB.out⟩

end Go.Proofs.YtdgaoebjbhomdaaDoor.Og
