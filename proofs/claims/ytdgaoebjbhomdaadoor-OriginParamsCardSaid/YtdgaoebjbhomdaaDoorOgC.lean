/- origin: the code's putCoin, putSeat, putTrust, putList. -/
import Derived.Test.YtdgaoebjbhomdaaDoorOgB
import Derived.Test.YtdgaoebjbhomdaaDoorQFt
namespace Go.Proofs.YtdgaoebjbhomdaaDoor.Og
open Go.RowKit Go.Proofs.YtdgaoebjbhomdaaDoor.Sha Go.Proofs.YtdgaoebjbhomdaaDoor.Gr Go.Proofs.YtdgaoebjbhomdaaDoor.Digit Go.Proofs.YtdgaoebjbhomdaaDoor.Deed

inductive FactO where
  | val (v : Value)
  | nums (L : List UInt64)
  | hs (L : List H32)
def FactO.holds : FactO → Value → World → Prop
  | .val v0, v, _ => v = v0
  | .nums L, v, w => KU.At w v L
  | .hs L, v, w => KH.At w v L
theorem FactO.kept (f : FactO) (v : Value) (w w' : World) (h : f.holds v w) (hb : Below w.heap.size w w') : f.holds v w' := by
  cases f with
  | val v0 => exact h
  | nums L => exact Kind.At.kept h hb
  | hs L => exact Kind.At.kept h hb
theorem told {f : FuncId} {args : Array Value} {w : World} {A B : ByteArray} (h : Calls Tryd.prog f args w fun e w' => e = .returned (.string A) ∧ Below w.heap.size w w') (e : A = B) : Calls Tryd.prog f args w fun e w' => e = .returned (.string B) ∧ Below w.heap.size w w' := e ▸ h
theorem nums_len (L : List UInt64) : (L.flatMap nL).length ≤ L.length * 10 := flat_le nL 10 nL_len L
theorem hs_len (L : List H32) : (L.flatMap fun x : H32 => x.1).length ≤ L.length * 32 := flat_le (fun x : H32 => x.1) 32 (fun x => Nat.le_of_eq x.2) L


set_option maxRecDepth 100000 in
set_option maxHeartbeats 1600000 in
theorem code_putCoin (x : OutD) (w : World) : Calls Tryd.prog 38 #[.agg (KOut.enc x).toArray] w fun e w' => e = .returned (.string (bs (outL x))) ∧ Below w.heap.size w w' := by
  have HR := Lib.hid (Out_parts (range_new w (KOut.enc x) KOut.T))
  have HBW := Lib.hid (show Below w.heap.size w (w.alloc (.cells (KOut.enc x).toArray KOut.T)) from (Below.refl _ _).alloc (Nat.le_refl _) _)
  have HLT := Lib.hid (show w.heap.size < (w.alloc (.cells (KOut.enc x).toArray KOut.T)).heap.size by simp)
  obtain ⟨S1, hS1⟩ : ∃ S, bs ([x.to_, x.st].flatMap fun x : H32 => x.1) = S := ⟨_, rfl⟩
  have hz1 : S1.size ≤ 1000 := by
    have := hs_len [x.to_, x.st]
    rw [← hS1, bs_size]
    simp only [List.length_cons, List.length_nil] at this
    omega
  obtain ⟨S2, hS2⟩ : ∃ S, bs ([x.am].flatMap nL) = S := ⟨_, rfl⟩
  have hz2 : S2.size ≤ 1000 := by
    have := nums_len [x.am]
    rw [← hS2, bs_size]
    simp only [List.length_cons, List.length_nil] at this
    omega
  have q1 := eq_false (show ¬ (9223372036854775807 < S1.size + S2.size) by omega)
  obtain ⟨S3, hS3⟩ : ∃ S, S1 ++ S2 = S := ⟨_, rfl⟩
  have HS := Lib.hid (show bs (outL x) = S3 by rw [← hS3, ← hS1, ← hS2, bs_app]; simp [outL])
  have HS1 := Lib.hid hS1
  have HS2 := Lib.hid hS2
  clear hS1 hS2 hz2 hz1
  have HI0 := Lib.hid (infoKH x.to_)
  have HI1 := Lib.hid (infoKH x.st)
  obtain ⟨C, hC⟩ : ∃ C, (KOut.enc x).toArray = C := ⟨_, rfl⟩
  rw [hC] at HR HBW HLT
  rw [hC]
  clear hC
  go_enter Tryd.func38, Tryd.ntmps38
  go_upto_region 1 with (fail)
  rw [show KOut.T = 52 from rfl] at HR HBW HLT
  generalize w.alloc (.cells C 52) = W at HR HBW HLT ⊢
  obtain ⟨g, hg⟩ : ∃ g, w.heap.size = g := ⟨_, rfl⟩
  have HG := Lib.hid hg
  rw [hg] at HR HBW HLT
  rw [hg]
  clear hg
  refine QT.wp_region_facts (by kernel_rfl) (fun w' => Below W.heap.size W w') (fun n v w' => (([.val (.pointer (some ⟨g, 0, none⟩)), .val (.agg (valsB x.to_.1).toArray), .val (.pointer (some ⟨g, 32, none⟩)), .val (.agg (valsB x.st.1).toArray), .hs [x.to_, x.st], .val (.string S1), .val (.pointer (some ⟨g, 64, none⟩)), .val (nV x.am), .nums [x.am], .val (.string S2), .val (.string S3), .val (.string S3)] : List FactO).getD n (.val undef) : FactO).holds v w') (by kernel_rfl) (by kernel_rfl) (Below.refl _ _).drew (fun w1 w2 h1 hb => h1.trans (hb.mono h1.size)) (fun n v w1 w2 h hb => FactO.kept _ v w1 w2 h hb) (fun n o ho a wz hI hag hdep => ?_) (fun a wz hI hag hf => ?_)
  · have t1 : a.eval (.tmp 1) = .pointer (some ⟨g, 0, none⟩) := hag.old 1 _ (by kernel_rfl) rfl
    have hlt := HLT.out
    have c64 : wz.cell? ⟨g, 64, none⟩ = some (nV x.am) := (hI.cell hlt).trans (by have := HR.out.2.2; rwa [Nat.zero_add] at this)
    match n, ho with
    | 0, ho =>
      obtain rfl := (Option.some.inj ho).symm
      exact ⟨rfl, QT.wp_value (v := .pointer (some ⟨g, 0, none⟩)) (by simp [go_sem, QT.nf t1]) ⟨_, rfl, rfl, Below.refl _ _⟩⟩
    | 1, ho =>
      obtain rfl := (Option.some.inj ho).symm
      have d3 : a.eval (.tmp 3) = .pointer (some ⟨g, 0, none⟩) := hdep _ (Array.mem_of_getElem? (i := 0) rfl) rfl _ _ rfl rfl
      exact ⟨rfl, wp_load_mid 29 (.tmp 3) rfl g 0 d3 (valsB x.to_.1) _ (range_kept hI (by have := HR.out.1; exact this)) Tryd.underlying29 rfl HI0.out ⟨_, rfl, rfl, Below.refl _ _⟩⟩
    | 2, ho =>
      obtain rfl := (Option.some.inj ho).symm
      exact ⟨rfl, QT.wp_value (v := .pointer (some ⟨g, 32, none⟩)) (by simp [go_sem, QT.nf t1]) ⟨_, rfl, rfl, Below.refl _ _⟩⟩
    | 3, ho =>
      obtain rfl := (Option.some.inj ho).symm
      have d5 : a.eval (.tmp 5) = .pointer (some ⟨g, 32, none⟩) := hdep _ (Array.mem_of_getElem? (i := 0) rfl) rfl _ _ rfl rfl
      exact ⟨rfl, wp_load_mid 29 (.tmp 5) rfl g 32 d5 (valsB x.st.1) _ (range_kept hI (by have := HR.out.2.1; rwa [Nat.zero_add] at this)) Tryd.underlying29 rfl HI1.out ⟨_, rfl, rfl, Below.refl _ _⟩⟩
    | 4, ho =>
      obtain rfl := (Option.some.inj ho).symm
      have d4 : a.eval (.tmp 4) = .agg (valsB x.to_.1).toArray := hdep _ (Array.mem_of_getElem? (i := 0) rfl) rfl _ _ rfl rfl
      have d6 : a.eval (.tmp 6) = .agg (valsB x.st.1).toArray := hdep _ (Array.mem_of_getElem? (i := 1) rfl) rfl _ _ rfl rfl
      exact ⟨rfl, wp_build_vals (K := KH) hV (fun _ => rfl) 122 2 _ rfl Tryd.underlying122 [x.to_, x.st] rfl (by decide) (by decide) (by simp [d4, d6]) fun w' h1 _ h3 _ => ⟨_, rfl, h1, h3⟩⟩
    | 5, ho =>
      obtain rfl := (Option.some.inj ho).symm
      have d7 : ((.hs [x.to_, x.st]) : FactO).holds (a.eval (.tmp 7)) wz := hdep _ (Array.mem_of_getElem? (i := 0) rfl) rfl _ _ rfl rfl
      obtain ⟨u, hu⟩ : ∃ u, a.eval (.tmp 7) = u := ⟨_, rfl⟩
      rw [hu] at d7
      exact ⟨rfl, QT.wp_enter (v := .string S1) (f := 36) (args := #[u]) (R := fun w' => Below wz.heap.size wz w') (by simp [go_sem, QT.nf hu]) ((told (code_hashes u [x.to_, x.st] wz d7 (by simp)) HS1.out).mono fun _ _ ⟨h1, h2⟩ => ⟨h1, h2⟩) fun w' h => ⟨_, rfl, rfl, h⟩⟩
    | 6, ho =>
      obtain rfl := (Option.some.inj ho).symm
      exact ⟨rfl, QT.wp_value (v := .pointer (some ⟨g, 64, none⟩)) (by simp [go_sem, QT.nf t1]) ⟨_, rfl, rfl, Below.refl _ _⟩⟩
    | 7, ho =>
      obtain rfl := (Option.some.inj ho).symm
      have d9 : a.eval (.tmp 9) = .pointer (some ⟨g, 64, none⟩) := hdep _ (Array.mem_of_getElem? (i := 0) rfl) rfl _ _ rfl rfl
      exact ⟨rfl, QT.wp_value (v := nV x.am) (by simp [go_sem, QT.nf d9, c64]) ⟨_, rfl, rfl, Below.refl _ _⟩⟩
    | 8, ho =>
      obtain rfl := (Option.some.inj ho).symm
      have d10 : a.eval (.tmp 10) = nV x.am := hdep _ (Array.mem_of_getElem? (i := 0) rfl) rfl _ _ rfl rfl
      exact ⟨rfl, wp_build_vals (K := KU) nV (fun _ => rfl) 76 1 _ rfl Tryd.underlying76 [x.am] rfl (by decide) (by decide) (by simp [d10]) fun w' h1 _ h3 _ => ⟨_, rfl, h1, h3⟩⟩
    | 9, ho =>
      obtain rfl := (Option.some.inj ho).symm
      have d11 : ((.nums [x.am]) : FactO).holds (a.eval (.tmp 11)) wz := hdep _ (Array.mem_of_getElem? (i := 0) rfl) rfl _ _ rfl rfl
      obtain ⟨u, hu⟩ : ∃ u, a.eval (.tmp 11) = u := ⟨_, rfl⟩
      rw [hu] at d11
      exact ⟨rfl, QT.wp_enter (v := .string S2) (f := 35) (args := #[u]) (R := fun w' => Below wz.heap.size wz w') (by simp [go_sem, QT.nf hu]) ((told (code_numbers u [x.am] wz d11 (by simp)) HS2.out).mono fun _ _ ⟨h1, h2⟩ => ⟨h1, h2⟩) fun w' h => ⟨_, rfl, rfl, h⟩⟩
    | 10, ho =>
      obtain rfl := (Option.some.inj ho).symm
      have d8 : a.eval (.tmp 8) = .string S1 := hdep _ (Array.mem_of_getElem? (i := 0) rfl) rfl _ _ rfl rfl
      have d12 : a.eval (.tmp 12) = .string S2 := hdep _ (Array.mem_of_getElem? (i := 1) rfl) rfl _ _ rfl rfl
      exact ⟨rfl, QT.wp_value (v := .string S3) (by simp [go_sem, QT.nf d8, QT.nf d12, q1, hS3]) ⟨_, rfl, rfl, Below.refl _ _⟩⟩
    | 11, ho =>
      obtain rfl := (Option.some.inj ho).symm
      have d13 : a.eval (.tmp 13) = .string S3 := hdep _ (Array.mem_of_getElem? (i := 0) rfl) rfl _ _ rfl rfl
      exact ⟨rfl, QT.wp_value (BigFrame.run_assign (.tmp 13) rfl wz) ⟨_, rfl, d13, Below.refl _ _⟩⟩
    | n + 12, ho => simp at ho
  · have f0 : a.eval (.tmp 3) = .pointer (some ⟨g, 0, none⟩) := hf 0 _ _ rfl rfl
    have f1 : a.eval (.tmp 4) = .agg (valsB x.to_.1).toArray := hf 1 _ _ rfl rfl
    have f2 : a.eval (.tmp 5) = .pointer (some ⟨g, 32, none⟩) := hf 2 _ _ rfl rfl
    have f3 : a.eval (.tmp 6) = .agg (valsB x.st.1).toArray := hf 3 _ _ rfl rfl
    obtain ⟨u4, f4⟩ : ∃ u, a.eval (.tmp 7) = u := ⟨_, rfl⟩
    have y4 : ((.hs [x.to_, x.st]) : FactO).holds (a.eval (.tmp 7)) wz := hf 4 _ _ rfl rfl
    rw [f4] at y4
    have f5 : a.eval (.tmp 8) = .string S1 := hf 5 _ _ rfl rfl
    have f6 : a.eval (.tmp 9) = .pointer (some ⟨g, 64, none⟩) := hf 6 _ _ rfl rfl
    have f7 : a.eval (.tmp 10) = nV x.am := hf 7 _ _ rfl rfl
    obtain ⟨u8, f8⟩ : ∃ u, a.eval (.tmp 11) = u := ⟨_, rfl⟩
    have y8 : ((.nums [x.am]) : FactO).holds (a.eval (.tmp 11)) wz := hf 8 _ _ rfl rfl
    rw [f8] at y8
    have f9 : a.eval (.tmp 12) = .string S2 := hf 9 _ _ rfl rfl
    have f10 : a.eval (.tmp 13) = .string S3 := hf 10 _ _ rfl rfl
    have f11 : a.eval (.tmp 2) = .string S3 := hf 11 _ _ rfl rfl
    have ha := hag.puts [(3, .pointer (some ⟨g, 0, none⟩)), (4, .agg (valsB x.to_.1).toArray), (5, .pointer (some ⟨g, 32, none⟩)), (6, .agg (valsB x.st.1).toArray), (7, u4), (8, .string S1), (9, .pointer (some ⟨g, 64, none⟩)), (10, nV x.am), (11, u8), (12, .string S2), (13, .string S3), (2, .string S3)] rfl (by simp) (by simp only [List.forall_mem_cons, List.not_mem_nil, false_implies, implies_true, and_true]; exact ⟨f0, f1, f2, f3, f4, f5, f6, f7, f8, f9, f10, f11⟩)
    subst ha
    clear hag hf f0 f1 f2 f3 f4 f5 f6 f7 f8 f9 f10 f11
    simp only [List.foldl_cons, List.foldl_nil, Act.put, List.setIfInBounds_toArray, List.set_cons_succ, List.set_cons_zero]
    have hlt2 := HLT.out
    go_wp2_with fail
    go_ret
    exact ⟨by rw [HS.out]; rfl, by rw [HG.out]; exact HBW.out.trans (hI.mono (by have := HBW.out.size; omega))⟩


set_option maxRecDepth 100000 in
set_option maxHeartbeats 1600000 in
theorem code_putSeat (x : SeatD) (w : World) : Calls Tryd.prog 40 #[.agg (KSeat.enc x).toArray] w fun e w' => e = .returned (.string (bs (seatL x))) ∧ Below w.heap.size w w' := by
  have HR := Lib.hid (Seat_parts (range_new w (KSeat.enc x) KSeat.T))
  have HBW := Lib.hid (show Below w.heap.size w (w.alloc (.cells (KSeat.enc x).toArray KSeat.T)) from (Below.refl _ _).alloc (Nat.le_refl _) _)
  have HLT := Lib.hid (show w.heap.size < (w.alloc (.cells (KSeat.enc x).toArray KSeat.T)).heap.size by simp)
  obtain ⟨S1, hS1⟩ : ∃ S, bs ([x.pool, x.key].flatMap fun x : H32 => x.1) = S := ⟨_, rfl⟩
  have hz1 : S1.size ≤ 1000 := by
    have := hs_len [x.pool, x.key]
    rw [← hS1, bs_size]
    simp only [List.length_cons, List.length_nil] at this
    omega
  obtain ⟨S2, hS2⟩ : ∃ S, bs ([x.pledge, x.cost, x.margin].flatMap nL) = S := ⟨_, rfl⟩
  have hz2 : S2.size ≤ 1000 := by
    have := nums_len [x.pledge, x.cost, x.margin]
    rw [← hS2, bs_size]
    simp only [List.length_cons, List.length_nil] at this
    omega
  have q1 := eq_false (show ¬ (9223372036854775807 < S1.size + S2.size) by omega)
  obtain ⟨S3, hS3⟩ : ∃ S, S1 ++ S2 = S := ⟨_, rfl⟩
  have HS := Lib.hid (show bs (seatL x) = S3 by rw [← hS3, ← hS1, ← hS2, bs_app]; simp [seatL])
  have HS1 := Lib.hid hS1
  have HS2 := Lib.hid hS2
  clear hS1 hS2 hz2 hz1
  have HI0 := Lib.hid (infoKH x.pool)
  have HI1 := Lib.hid (infoKH x.key)
  obtain ⟨C, hC⟩ : ∃ C, (KSeat.enc x).toArray = C := ⟨_, rfl⟩
  rw [hC] at HR HBW HLT
  rw [hC]
  clear hC
  go_enter Tryd.func40, Tryd.ntmps40
  go_upto_region 1 with (fail)
  rw [show KSeat.T = 67 from rfl] at HR HBW HLT
  generalize w.alloc (.cells C 67) = W at HR HBW HLT ⊢
  obtain ⟨g, hg⟩ : ∃ g, w.heap.size = g := ⟨_, rfl⟩
  have HG := Lib.hid hg
  rw [hg] at HR HBW HLT
  rw [hg]
  clear hg
  refine QT.wp_region_facts (by kernel_rfl) (fun w' => Below W.heap.size W w') (fun n v w' => (([.val (.pointer (some ⟨g, 0, none⟩)), .val (.agg (valsB x.pool.1).toArray), .val (.pointer (some ⟨g, 32, none⟩)), .val (.agg (valsB x.key.1).toArray), .hs [x.pool, x.key], .val (.string S1), .val (.pointer (some ⟨g, 64, none⟩)), .val (nV x.pledge), .val (.pointer (some ⟨g, 65, none⟩)), .val (nV x.cost), .val (.pointer (some ⟨g, 66, none⟩)), .val (nV x.margin), .nums [x.pledge, x.cost, x.margin], .val (.string S2), .val (.string S3), .val (.string S3)] : List FactO).getD n (.val undef) : FactO).holds v w') (by kernel_rfl) (by kernel_rfl) (Below.refl _ _).drew (fun w1 w2 h1 hb => h1.trans (hb.mono h1.size)) (fun n v w1 w2 h hb => FactO.kept _ v w1 w2 h hb) (fun n o ho a wz hI hag hdep => ?_) (fun a wz hI hag hf => ?_)
  · have t1 : a.eval (.tmp 1) = .pointer (some ⟨g, 0, none⟩) := hag.old 1 _ (by kernel_rfl) rfl
    have hlt := HLT.out
    have c64 : wz.cell? ⟨g, 64, none⟩ = some (nV x.pledge) := (hI.cell hlt).trans (by have := HR.out.pledge; rwa [Nat.zero_add] at this)
    have c65 : wz.cell? ⟨g, 65, none⟩ = some (nV x.cost) := (hI.cell hlt).trans (by have := HR.out.cost; rwa [Nat.zero_add] at this)
    have c66 : wz.cell? ⟨g, 66, none⟩ = some (nV x.margin) := (hI.cell hlt).trans (by have := HR.out.margin; rwa [Nat.zero_add] at this)
    match n, ho with
    | 0, ho =>
      obtain rfl := (Option.some.inj ho).symm
      exact ⟨rfl, QT.wp_value (v := .pointer (some ⟨g, 0, none⟩)) (by simp [go_sem, QT.nf t1]) ⟨_, rfl, rfl, Below.refl _ _⟩⟩
    | 1, ho =>
      obtain rfl := (Option.some.inj ho).symm
      have d3 : a.eval (.tmp 3) = .pointer (some ⟨g, 0, none⟩) := hdep _ (Array.mem_of_getElem? (i := 0) rfl) rfl _ _ rfl rfl
      exact ⟨rfl, wp_load_mid 29 (.tmp 3) rfl g 0 d3 (valsB x.pool.1) _ (range_kept hI HR.out.pool) Tryd.underlying29 rfl HI0.out ⟨_, rfl, rfl, Below.refl _ _⟩⟩
    | 2, ho =>
      obtain rfl := (Option.some.inj ho).symm
      exact ⟨rfl, QT.wp_value (v := .pointer (some ⟨g, 32, none⟩)) (by simp [go_sem, QT.nf t1]) ⟨_, rfl, rfl, Below.refl _ _⟩⟩
    | 3, ho =>
      obtain rfl := (Option.some.inj ho).symm
      have d5 : a.eval (.tmp 5) = .pointer (some ⟨g, 32, none⟩) := hdep _ (Array.mem_of_getElem? (i := 0) rfl) rfl _ _ rfl rfl
      exact ⟨rfl, wp_load_mid 29 (.tmp 5) rfl g 32 d5 (valsB x.key.1) _ (range_kept hI (by have := HR.out.key; rwa [Nat.zero_add] at this)) Tryd.underlying29 rfl HI1.out ⟨_, rfl, rfl, Below.refl _ _⟩⟩
    | 4, ho =>
      obtain rfl := (Option.some.inj ho).symm
      have d4 : a.eval (.tmp 4) = .agg (valsB x.pool.1).toArray := hdep _ (Array.mem_of_getElem? (i := 0) rfl) rfl _ _ rfl rfl
      have d6 : a.eval (.tmp 6) = .agg (valsB x.key.1).toArray := hdep _ (Array.mem_of_getElem? (i := 1) rfl) rfl _ _ rfl rfl
      exact ⟨rfl, wp_build_vals (K := KH) hV (fun _ => rfl) 122 2 _ rfl Tryd.underlying122 [x.pool, x.key] rfl (by decide) (by decide) (by simp [d4, d6]) fun w' h1 _ h3 _ => ⟨_, rfl, h1, h3⟩⟩
    | 5, ho =>
      obtain rfl := (Option.some.inj ho).symm
      have d7 : ((.hs [x.pool, x.key]) : FactO).holds (a.eval (.tmp 7)) wz := hdep _ (Array.mem_of_getElem? (i := 0) rfl) rfl _ _ rfl rfl
      obtain ⟨u, hu⟩ : ∃ u, a.eval (.tmp 7) = u := ⟨_, rfl⟩
      rw [hu] at d7
      exact ⟨rfl, QT.wp_enter (v := .string S1) (f := 36) (args := #[u]) (R := fun w' => Below wz.heap.size wz w') (by simp [go_sem, QT.nf hu]) ((told (code_hashes u [x.pool, x.key] wz d7 (by simp)) HS1.out).mono fun _ _ ⟨h1, h2⟩ => ⟨h1, h2⟩) fun w' h => ⟨_, rfl, rfl, h⟩⟩
    | 6, ho =>
      obtain rfl := (Option.some.inj ho).symm
      exact ⟨rfl, QT.wp_value (v := .pointer (some ⟨g, 64, none⟩)) (by simp [go_sem, QT.nf t1]) ⟨_, rfl, rfl, Below.refl _ _⟩⟩
    | 7, ho =>
      obtain rfl := (Option.some.inj ho).symm
      have d9 : a.eval (.tmp 9) = .pointer (some ⟨g, 64, none⟩) := hdep _ (Array.mem_of_getElem? (i := 0) rfl) rfl _ _ rfl rfl
      exact ⟨rfl, QT.wp_value (v := nV x.pledge) (by simp [go_sem, QT.nf d9, c64]) ⟨_, rfl, rfl, Below.refl _ _⟩⟩
    | 8, ho =>
      obtain rfl := (Option.some.inj ho).symm
      exact ⟨rfl, QT.wp_value (v := .pointer (some ⟨g, 65, none⟩)) (by simp [go_sem, QT.nf t1]) ⟨_, rfl, rfl, Below.refl _ _⟩⟩
    | 9, ho =>
      obtain rfl := (Option.some.inj ho).symm
      have d11 : a.eval (.tmp 11) = .pointer (some ⟨g, 65, none⟩) := hdep _ (Array.mem_of_getElem? (i := 0) rfl) rfl _ _ rfl rfl
      exact ⟨rfl, QT.wp_value (v := nV x.cost) (by simp [go_sem, QT.nf d11, c65]) ⟨_, rfl, rfl, Below.refl _ _⟩⟩
    | 10, ho =>
      obtain rfl := (Option.some.inj ho).symm
      exact ⟨rfl, QT.wp_value (v := .pointer (some ⟨g, 66, none⟩)) (by simp [go_sem, QT.nf t1]) ⟨_, rfl, rfl, Below.refl _ _⟩⟩
    | 11, ho =>
      obtain rfl := (Option.some.inj ho).symm
      have d13 : a.eval (.tmp 13) = .pointer (some ⟨g, 66, none⟩) := hdep _ (Array.mem_of_getElem? (i := 0) rfl) rfl _ _ rfl rfl
      exact ⟨rfl, QT.wp_value (v := nV x.margin) (by simp [go_sem, QT.nf d13, c66]) ⟨_, rfl, rfl, Below.refl _ _⟩⟩
    | 12, ho =>
      obtain rfl := (Option.some.inj ho).symm
      have d10 : a.eval (.tmp 10) = nV x.pledge := hdep _ (Array.mem_of_getElem? (i := 0) rfl) rfl _ _ rfl rfl
      have d12 : a.eval (.tmp 12) = nV x.cost := hdep _ (Array.mem_of_getElem? (i := 1) rfl) rfl _ _ rfl rfl
      have d14 : a.eval (.tmp 14) = nV x.margin := hdep _ (Array.mem_of_getElem? (i := 2) rfl) rfl _ _ rfl rfl
      exact ⟨rfl, wp_build_vals (K := KU) nV (fun _ => rfl) 76 3 _ rfl Tryd.underlying76 [x.pledge, x.cost, x.margin] rfl (by decide) (by decide) (by simp [d10, d12, d14]) fun w' h1 _ h3 _ => ⟨_, rfl, h1, h3⟩⟩
    | 13, ho =>
      obtain rfl := (Option.some.inj ho).symm
      have d15 : ((.nums [x.pledge, x.cost, x.margin]) : FactO).holds (a.eval (.tmp 15)) wz := hdep _ (Array.mem_of_getElem? (i := 0) rfl) rfl _ _ rfl rfl
      obtain ⟨u, hu⟩ : ∃ u, a.eval (.tmp 15) = u := ⟨_, rfl⟩
      rw [hu] at d15
      exact ⟨rfl, QT.wp_enter (v := .string S2) (f := 35) (args := #[u]) (R := fun w' => Below wz.heap.size wz w') (by simp [go_sem, QT.nf hu]) ((told (code_numbers u [x.pledge, x.cost, x.margin] wz d15 (by simp)) HS2.out).mono fun _ _ ⟨h1, h2⟩ => ⟨h1, h2⟩) fun w' h => ⟨_, rfl, rfl, h⟩⟩
    | 14, ho =>
      obtain rfl := (Option.some.inj ho).symm
      have d8 : a.eval (.tmp 8) = .string S1 := hdep _ (Array.mem_of_getElem? (i := 0) rfl) rfl _ _ rfl rfl
      have d16 : a.eval (.tmp 16) = .string S2 := hdep _ (Array.mem_of_getElem? (i := 1) rfl) rfl _ _ rfl rfl
      exact ⟨rfl, QT.wp_value (v := .string S3) (by simp [go_sem, QT.nf d8, QT.nf d16, q1, hS3]) ⟨_, rfl, rfl, Below.refl _ _⟩⟩
    | 15, ho =>
      obtain rfl := (Option.some.inj ho).symm
      have d17 : a.eval (.tmp 17) = .string S3 := hdep _ (Array.mem_of_getElem? (i := 0) rfl) rfl _ _ rfl rfl
      exact ⟨rfl, QT.wp_value (BigFrame.run_assign (.tmp 17) rfl wz) ⟨_, rfl, d17, Below.refl _ _⟩⟩
    | n + 16, ho => simp at ho
  · have f0 : a.eval (.tmp 3) = .pointer (some ⟨g, 0, none⟩) := hf 0 _ _ rfl rfl
    have f1 : a.eval (.tmp 4) = .agg (valsB x.pool.1).toArray := hf 1 _ _ rfl rfl
    have f2 : a.eval (.tmp 5) = .pointer (some ⟨g, 32, none⟩) := hf 2 _ _ rfl rfl
    have f3 : a.eval (.tmp 6) = .agg (valsB x.key.1).toArray := hf 3 _ _ rfl rfl
    obtain ⟨u4, f4⟩ : ∃ u, a.eval (.tmp 7) = u := ⟨_, rfl⟩
    have y4 : ((.hs [x.pool, x.key]) : FactO).holds (a.eval (.tmp 7)) wz := hf 4 _ _ rfl rfl
    rw [f4] at y4
    have f5 : a.eval (.tmp 8) = .string S1 := hf 5 _ _ rfl rfl
    have f6 : a.eval (.tmp 9) = .pointer (some ⟨g, 64, none⟩) := hf 6 _ _ rfl rfl
    have f7 : a.eval (.tmp 10) = nV x.pledge := hf 7 _ _ rfl rfl
    have f8 : a.eval (.tmp 11) = .pointer (some ⟨g, 65, none⟩) := hf 8 _ _ rfl rfl
    have f9 : a.eval (.tmp 12) = nV x.cost := hf 9 _ _ rfl rfl
    have f10 : a.eval (.tmp 13) = .pointer (some ⟨g, 66, none⟩) := hf 10 _ _ rfl rfl
    have f11 : a.eval (.tmp 14) = nV x.margin := hf 11 _ _ rfl rfl
    obtain ⟨u12, f12⟩ : ∃ u, a.eval (.tmp 15) = u := ⟨_, rfl⟩
    have y12 : ((.nums [x.pledge, x.cost, x.margin]) : FactO).holds (a.eval (.tmp 15)) wz := hf 12 _ _ rfl rfl
    rw [f12] at y12
    have f13 : a.eval (.tmp 16) = .string S2 := hf 13 _ _ rfl rfl
    have f14 : a.eval (.tmp 17) = .string S3 := hf 14 _ _ rfl rfl
    have f15 : a.eval (.tmp 2) = .string S3 := hf 15 _ _ rfl rfl
    have ha := hag.puts [(3, .pointer (some ⟨g, 0, none⟩)), (4, .agg (valsB x.pool.1).toArray), (5, .pointer (some ⟨g, 32, none⟩)), (6, .agg (valsB x.key.1).toArray), (7, u4), (8, .string S1), (9, .pointer (some ⟨g, 64, none⟩)), (10, nV x.pledge), (11, .pointer (some ⟨g, 65, none⟩)), (12, nV x.cost), (13, .pointer (some ⟨g, 66, none⟩)), (14, nV x.margin), (15, u12), (16, .string S2), (17, .string S3), (2, .string S3)] rfl (by simp) (by simp only [List.forall_mem_cons, List.not_mem_nil, false_implies, implies_true, and_true]; exact ⟨f0, f1, f2, f3, f4, f5, f6, f7, f8, f9, f10, f11, f12, f13, f14, f15⟩)
    subst ha
    clear hag hf f0 f1 f2 f3 f4 f5 f6 f7 f8 f9 f10 f11 f12 f13 f14 f15
    simp only [List.foldl_cons, List.foldl_nil, Act.put, List.setIfInBounds_toArray, List.set_cons_succ, List.set_cons_zero]
    have hlt2 := HLT.out
    go_wp2_with fail
    go_ret
    exact ⟨by rw [HS.out]; rfl, by rw [HG.out]; exact HBW.out.trans (hI.mono (by have := HBW.out.size; omega))⟩


set_option maxRecDepth 100000 in
set_option maxHeartbeats 1600000 in
theorem code_putTrust (x : TrustD) (w : World) : Calls Tryd.prog 42 #[.agg (KTrust.enc x).toArray] w fun e w' => e = .returned (.string (bs (trustL x))) ∧ Below w.heap.size w w' := by
  have HR := Lib.hid (Trust_parts (range_new w (KTrust.enc x) KTrust.T))
  have HBW := Lib.hid (show Below w.heap.size w (w.alloc (.cells (KTrust.enc x).toArray KTrust.T)) from (Below.refl _ _).alloc (Nat.le_refl _) _)
  have HLT := Lib.hid (show w.heap.size < (w.alloc (.cells (KTrust.enc x).toArray KTrust.T)).heap.size by simp)
  obtain ⟨S1, hS1⟩ : ∃ S, bs ([x.key, x.pool].flatMap fun x : H32 => x.1) = S := ⟨_, rfl⟩
  have hz1 : S1.size ≤ 1000 := by
    have := hs_len [x.key, x.pool]
    rw [← hS1, bs_size]
    simp only [List.length_cons, List.length_nil] at this
    omega
  have HS := Lib.hid (show bs (trustL x) = S1 by rw [← hS1]; simp [trustL])
  have HS1 := Lib.hid hS1
  clear hS1 hz1
  have HI0 := Lib.hid (infoKH x.key)
  have HI1 := Lib.hid (infoKH x.pool)
  obtain ⟨C, hC⟩ : ∃ C, (KTrust.enc x).toArray = C := ⟨_, rfl⟩
  rw [hC] at HR HBW HLT
  rw [hC]
  clear hC
  go_enter Tryd.func42, Tryd.ntmps42
  go_upto_region 1 with (fail)
  rw [show KTrust.T = 69 from rfl] at HR HBW HLT
  generalize w.alloc (.cells C 69) = W at HR HBW HLT ⊢
  obtain ⟨g, hg⟩ : ∃ g, w.heap.size = g := ⟨_, rfl⟩
  have HG := Lib.hid hg
  rw [hg] at HR HBW HLT
  rw [hg]
  clear hg
  have HI := Lib.hid HR.out.1
  have HII := Lib.hid (show W.rangeAt g 32 (valsB x.pool.1) by have := HR.out.2; rwa [Nat.zero_add] at this)
  have HCH := Lib.hid (fun v w h => told (code_hashes v [x.key, x.pool] w h (by simp)) HS1.out)
  go_wp2_with (first
    | (go_at_call 36; refine (HCH.out _ _ hat).mono ?_; rintro e w1 ⟨rfl, hb1⟩)
    | (refine wpList_load_mid rfl 29 (.tmp 3) rfl g 0 rfl (valsB x.key.1) _ HI.out Tryd.underlying29 rfl HI0.out ?_; go_frame)
    | (refine wpList_load_mid rfl 29 (.tmp 5) rfl g 32 rfl (valsB x.pool.1) _ HII.out Tryd.underlying29 rfl HI1.out ?_; go_frame)
    | (refine wpList_build_vals (K := KH) rfl hV (fun _ => rfl) 122 2 _ rfl Tryd.underlying122 [x.key, x.pool] rfl (by decide) (by decide) (by simp [Act.eval]) ?_; intro wv hat hhv hbv hsv; go_frame))
  go_ret
  exact ⟨by rw [HS.out]; rfl, by rw [HG.out]; exact HBW.out.trans ((hbv.trans (hb1.mono hbv.size)).mono (by have := HBW.out.size; have := HG.out; omega))⟩

end Go.Proofs.YtdgaoebjbhomdaaDoor.Og
