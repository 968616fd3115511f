/- origin: the code's Put, Total. -/
import Derived.Test.YtdgaoebjbhomdaaDoorOgJ
namespace Go.Proofs.YtdgaoebjbhomdaaDoor.Og
open Go.RowKit Go.Proofs.YtdgaoebjbhomdaaDoor.Sha Go.Proofs.YtdgaoebjbhomdaaDoor.Gr Go.Proofs.YtdgaoebjbhomdaaDoor.Digit Go.Proofs.YtdgaoebjbhomdaaDoor.Deed Go.Proofs.YtdgaoebjbhomdaaDoor.Tree

theorem split15 (l : List UInt64) (h : l.length = 15) : l = [l.getD 0 0, l.getD 1 0, l.getD 2 0, l.getD 3 0, l.getD 4 0] ++ ((l.drop 5).take 8 ++ [l.getD 13 0, l.getD 14 0]) := by
  rcases l with _ | ⟨a0, l⟩
  · simp at h
  rcases l with _ | ⟨a1, l⟩
  · simp at h
  rcases l with _ | ⟨a2, l⟩
  · simp at h
  rcases l with _ | ⟨a3, l⟩
  · simp at h
  rcases l with _ | ⟨a4, l⟩
  · simp at h
  rcases l with _ | ⟨a5, l⟩
  · simp at h
  rcases l with _ | ⟨a6, l⟩
  · simp at h
  rcases l with _ | ⟨a7, l⟩
  · simp at h
  rcases l with _ | ⟨a8, l⟩
  · simp at h
  rcases l with _ | ⟨a9, l⟩
  · simp at h
  rcases l with _ | ⟨a10, l⟩
  · simp at h
  rcases l with _ | ⟨a11, l⟩
  · simp at h
  rcases l with _ | ⟨a12, l⟩
  · simp at h
  rcases l with _ | ⟨a13, l⟩
  · simp at h
  rcases l with _ | ⟨a14, l⟩
  · simp at h
  rcases l with _ | ⟨a15, l⟩
  · rfl
  · simp at h

theorem slice8 (b : Nat) (w : World) : (Instr.sliceAt 27 (.pointer (some ⟨b, 5, none⟩)) none none none).run Tryd.prog w = .ok (.slice (some ⟨b, 5, none⟩) 8 8) w := by
  simp [go_sem, Instr.sliceAt]
theorem params_at {w : World} {g : Nat} {l : List UInt64} (hl : ((l.drop 5).take 8).length = 8) (h : w.rangeAt g 5 (((l.drop 5).take 8).map nV)) : KU.At w (.slice (some ⟨g, 5, none⟩) 8 8) ((l.drop 5).take 8) := by
  refine Or.inr ⟨g, 5, 8, by rw [hl], by omega, by omega, ?_⟩
  have hf : ∀ L : List UInt64, KU.flat L = L.map nV := fun L => by
    unfold Kind.flat
    induction L with
    | nil => rfl
    | cons x L ih => rw [List.flatMap_cons, ih]; rfl
  rw [hf]
  exact h
theorem list_len {α : Type} (f : α → List UInt8) (m : Nat) (hf : ∀ x, (f x).length ≤ m) (L : List α) (hL : L.length ≤ 32) : (listL f L).length ≤ 10 + 32 * m := by
  have h1 := putL_len L.length
  have h2 := flat_le f m hf L
  have h3 : L.length * m ≤ 32 * m := Nat.mul_le_mul_right _ hL
  unfold listL
  rw [List.length_append]
  omega


set_option maxRecDepth 100000 in
set_option maxHeartbeats 6400000 in
theorem code_Put {w : World} {o : OriginD} {c s t : Value} (h : OAt w o c s t) (ht : Tab w) : Calls Tryd.prog 19 #[oV o c s t] w fun e w' => e = .returned (.tuple #[.string (if mayO o = true then bs (origL o) else ⟨#[]⟩), .int .i64 (mayE o : Nat)]) ∧ Below w.heap.size w w' := by
  have HM := Lib.hid (fun w (h : OAt w o c s t) (ht : Tab w) => code_May h ht)
  have hlm := fun hm : mayO o = true => cnt_lens (Bool.and_eq_true_iff.1 hm).1
  have hn := h.n
  unfold mayE at HM ⊢
  obtain ⟨b, hb⟩ : ∃ b, mayO o = b := ⟨_, rfl⟩
  simp only [hb] at HM hlm
  rw [hb]
  clear hb
  unfold oV at HM
  have HIO := Lib.hid (show (Tryd.prog.info? 34).map (·.size) = some (cellsO o c s t).toArray.size by rw [List.size_toArray]; exact info_O h)
  have HHW := Lib.hid (heap_alloc_new w (.cells (cellsO o c s t).toArray 34))
  have HTW := Lib.hid (ht.kept (show Below w.heap.size w (w.alloc (.cells (cellsO o c s t).toArray 34)) from (Below.refl _ _).alloc (Nat.le_refl _) _))
  cases b with
  | false =>
    simp only [Bool.false_eq_true, if_false] at HM ⊢
    obtain ⟨h1, h2, h3, h4⟩ := box_o h
    unfold oV
    have HP := Lib.hid h1
    have HO := Lib.hid h2
    have HBW := Lib.hid h3
    have HLT := Lib.hid h4
    clear h1 h2 h3 h4
    obtain ⟨C, hC⟩ : ∃ C, (cellsO o c s t).toArray = C := ⟨_, rfl⟩
    have HC := Lib.hid hC
    rw [hC] at HP HO HBW HLT HIO HHW HTW
    simp only [hC] at HM
    rw [hC]
    clear hC
    go_enter Tryd.func19, Tryd.ntmps19
    go_upto_region 1 with (fail)
    generalize w.alloc (.cells C 34) = W at HP HO HBW HLT HHW HTW ⊢
    obtain ⟨g, hg⟩ : ∃ g, w.heap.size = g := ⟨_, rfl⟩
    have HG := Lib.hid hg
    rw [hg] at HP HBW HLT HHW
    rw [hg]
    clear hg
    go_wp2_with (first
      | (go_at_call 20; refine (HM.out _ HO.out HTW.out).mono ?_; rintro e w1 ⟨rfl, hb⟩; have HB1 := Lib.hid hb; clear hb)
      | (refine wpList_load_row rfl 34 (.tmp 1) rfl g rfl 34 C (0, 0) _ HHW.out Tryd.underlying34 rfl HIO.out ?_; go_frame))
    go_ret2
    exact ⟨rfl, by rw [HG.out]; exact HBW.out.trans (HB1.out.mono (by have := HBW.out.size; have := HG.out; omega))⟩
  | true =>
    simp only [if_true] at HM ⊢
    have hl := hlm rfl
    have hplen := params_len hn
    obtain ⟨S1, hS1⟩ : ∃ S, bs ([o.n.getD 0 0, o.n.getD 1 0, o.n.getD 2 0, o.n.getD 3 0, o.n.getD 4 0].flatMap nL) = S := ⟨_, rfl⟩
    have zS1 : S1.size ≤ 10000 := by
      have := nums_len [o.n.getD 0 0, o.n.getD 1 0, o.n.getD 2 0, o.n.getD 3 0, o.n.getD 4 0]
      rw [← hS1, bs_size]
      simp only [List.length_cons, List.length_nil] at this
      omega
    obtain ⟨S2, hS2⟩ : ∃ S, bs (((o.n.drop 5).take 8).flatMap nL) = S := ⟨_, rfl⟩
    have zS2 : S2.size ≤ 10000 := by
      have := nums_len ((o.n.drop 5).take 8)
      rw [← hS2, bs_size]
      rw [hplen] at this
      omega
    obtain ⟨S3, hS3⟩ : ∃ S, bs ([o.n.getD 13 0, o.n.getD 14 0].flatMap nL) = S := ⟨_, rfl⟩
    have zS3 : S3.size ≤ 10000 := by
      have := nums_len [o.n.getD 13 0, o.n.getD 14 0]
      rw [← hS3, bs_size]
      simp only [List.length_cons, List.length_nil] at this
      omega
    obtain ⟨S4, hS4⟩ : ∃ S, bs ([o.no].flatMap fun x : H32 => x.1) = S := ⟨_, rfl⟩
    have zS4 : S4.size ≤ 10000 := by
      have := hs_len [o.no]
      rw [← hS4, bs_size]
      simp only [List.length_cons, List.length_nil] at this
      omega
    obtain ⟨S5, hS5⟩ : ∃ S, bs (listL outL o.coins) = S := ⟨_, rfl⟩
    have zS5 : S5.size ≤ 10000 := by
      have := list_len outL 200 outL_le o.coins hl.1
      rw [← hS5, bs_size]
      omega
    obtain ⟨S6, hS6⟩ : ∃ S, bs (listL seatL o.seats) = S := ⟨_, rfl⟩
    have zS6 : S6.size ≤ 10000 := by
      have := list_len seatL 200 seatL_le o.seats (Nat.le_trans hl.2.1 (by decide))
      rw [← hS6, bs_size]
      omega
    obtain ⟨S7, hS7⟩ : ∃ S, bs (listL trustL o.trusts) = S := ⟨_, rfl⟩
    have zS7 : S7.size ≤ 10000 := by
      have := list_len trustL 200 trustL_le o.trusts hl.2.2
      rw [← hS7, bs_size]
      omega
    obtain ⟨T2, hT2⟩ : ∃ S, S1 ++ S2 = S := ⟨_, rfl⟩
    have zT2 : T2.size = S1.size + S2.size := by rw [← hT2, ByteArray.size_append]
    have q2 := eq_false (show ¬ (9223372036854775807 < S1.size + S2.size) by omega)
    obtain ⟨T3, hT3⟩ : ∃ S, T2 ++ S3 = S := ⟨_, rfl⟩
    have zT3 : T3.size = T2.size + S3.size := by rw [← hT3, ByteArray.size_append]
    have q3 := eq_false (show ¬ (9223372036854775807 < T2.size + S3.size) by omega)
    obtain ⟨T4, hT4⟩ : ∃ S, T3 ++ S4 = S := ⟨_, rfl⟩
    have zT4 : T4.size = T3.size + S4.size := by rw [← hT4, ByteArray.size_append]
    have q4 := eq_false (show ¬ (9223372036854775807 < T3.size + S4.size) by omega)
    obtain ⟨T5, hT5⟩ : ∃ S, T4 ++ S5 = S := ⟨_, rfl⟩
    have zT5 : T5.size = T4.size + S5.size := by rw [← hT5, ByteArray.size_append]
    have q5 := eq_false (show ¬ (9223372036854775807 < T4.size + S5.size) by omega)
    obtain ⟨T6, hT6⟩ : ∃ S, T5 ++ S6 = S := ⟨_, rfl⟩
    have zT6 : T6.size = T5.size + S6.size := by rw [← hT6, ByteArray.size_append]
    have q6 := eq_false (show ¬ (9223372036854775807 < T5.size + S6.size) by omega)
    obtain ⟨T7, hT7⟩ : ∃ S, T6 ++ S7 = S := ⟨_, rfl⟩
    have zT7 : T7.size = T6.size + S7.size := by rw [← hT7, ByteArray.size_append]
    have q7 := eq_false (show ¬ (9223372036854775807 < T6.size + S7.size) by omega)
    have HSUM := Lib.hid (show bs (origL o) = T7 by
      rw [← hT7, ← hT6, ← hT5, ← hT4, ← hT3, ← hT2, ← hS1, ← hS2, ← hS3, ← hS4, ← hS5, ← hS6, ← hS7]
      simp only [bs_app]
      unfold origL
      conv => lhs; rw [split15 o.n hn]
      simp only [List.flatMap_append, List.flatMap_singleton, List.append_assoc])
    rw [HSUM.out]
    have HS1 := Lib.hid hS1
    clear hS1 zS1
    have HS2 := Lib.hid hS2
    clear hS2 zS2
    have HS3 := Lib.hid hS3
    clear hS3 zS3
    have HS4 := Lib.hid hS4
    clear hS4 zS4
    have HS5 := Lib.hid hS5
    clear hS5 zS5
    have HS6 := Lib.hid hS6
    clear hS6 zS6
    have HS7 := Lib.hid hS7
    clear hS7 zS7
    clear zT2 zT3 zT4 zT5 zT6 zT7
    have HIN := Lib.hid (infoKH o.no)
    have HHL := Lib.hid hl
    have HPL := Lib.hid hplen
    obtain ⟨h1, h2, h3, h4⟩ := box_o h
    unfold oV
    have HP := Lib.hid h1
    have HO := Lib.hid h2
    have HBW := Lib.hid h3
    have HLT := Lib.hid h4
    clear h1 h2 h3 h4
    obtain ⟨C, hC⟩ : ∃ C, (cellsO o c s t).toArray = C := ⟨_, rfl⟩
    have HC := Lib.hid hC
    rw [hC] at HP HO HBW HLT HIO HHW HTW
    simp only [hC] at HM
    rw [hC]
    clear hC
    go_enter Tryd.func19, Tryd.ntmps19
    go_upto_region 1 with (fail)
    generalize w.alloc (.cells C 34) = W at HP HO HBW HLT HHW HTW ⊢
    obtain ⟨g, hg⟩ : ∃ g, w.heap.size = g := ⟨_, rfl⟩
    have HG := Lib.hid hg
    rw [hg] at HP HBW HLT HHW
    rw [hg]
    clear hg
    go_upto_region 2 with (first
      | (go_at_call 20; refine (HM.out _ HO.out HTW.out).mono ?_; rintro e w1 ⟨rfl, hb⟩; have HB1 := Lib.hid hb; clear hb)
      | (refine wpList_load_row rfl 34 (.tmp 1) rfl g rfl 34 C (0, 0) _ HHW.out Tryd.underlying34 rfl HIO.out ?_; go_frame))
    have HP1 := Lib.hid (HP.out.kept HLT.out HB1.out)
    have HO1 := Lib.hid (HO.out.kept HB1.out)
    have hlt1 := Nat.lt_of_lt_of_le HLT.out HB1.out.size
    go_upto_region 4 with (fail)
    refine QT.wp_region_facts (by kernel_rfl) (fun w' => Below w1.heap.size w1 w') (fun n v w' => (((.val (.pointer (some ⟨g, 0, none⟩)) :: .val (nV (o.n.getD 0 0)) :: .val (.pointer (some ⟨g, 1, none⟩)) :: .val (nV (o.n.getD 1 0)) :: .val (.pointer (some ⟨g, 2, none⟩)) :: .val (nV (o.n.getD 2 0)) :: .val (.pointer (some ⟨g, 3, none⟩)) :: .val (nV (o.n.getD 3 0)) :: .val (.pointer (some ⟨g, 4, none⟩)) :: .val (nV (o.n.getD 4 0)) :: .nums [o.n.getD 0 0, o.n.getD 1 0, o.n.getD 2 0, o.n.getD 3 0, o.n.getD 4 0] :: .val (.string S1) :: .val (.pointer (some ⟨g, 5, none⟩)) :: .nums ((o.n.drop 5).take 8) :: .val (.string S2) :: .val (.string T2) :: .val (.pointer (some ⟨g, 13, none⟩)) :: .val (nV (o.n.getD 13 0)) :: .val (.pointer (some ⟨g, 14, none⟩)) :: .val (nV (o.n.getD 14 0)) :: .nums [o.n.getD 13 0, o.n.getD 14 0] :: .val (.string S3) :: .val (.string T3) :: .val (.pointer (some ⟨g, 15, none⟩)) :: .val (.agg (valsB o.no.1).toArray) :: .hs [o.no] :: .val (.string S4) :: .val (.string T4) :: .val (.pointer (some ⟨g, 47, none⟩)) :: .val (c) :: .val (.string S5) :: .val (.string T5) :: .val (.pointer (some ⟨g, 48, none⟩)) :: .val (s) :: .val (.string S6) :: .val (.string T6) :: .val (.pointer (some ⟨g, 49, none⟩)) :: .val (t) :: .val (.string S7) :: .val (.string T7) :: .val (.string T7) :: .val (.int .i64 0) :: []) : List FactO).getD n (.val undef) : FactO).holds v w') (by kernel_rfl) (by kernel_rfl) (Below.refl _ _).drew (fun w1 w2 h1 hb => h1.trans (hb.mono h1.size)) (fun n v w1 w2 h hb => FactO.kept _ v w1 w2 h hb) (fun n o ho a wz hI hag hdep => ?_) (fun a wz hI hag hf => ?_)
    · have t1 : a.eval (.tmp 1) = .pointer (some ⟨g, 0, none⟩) := hag.old 1 _ (by kernel_rfl) rfl
      match n, ho with
      | 0, ho =>
        obtain rfl := (Option.some.inj ho).symm
        exact ⟨rfl, QT.wp_value (v := .pointer (some ⟨g, 0, none⟩)) (by simp [go_sem, QT.nf t1]) ⟨_, rfl, rfl, Below.refl _ _⟩⟩
      | 1, ho =>
        obtain rfl := (Option.some.inj ho).symm
        have d10 : a.eval (.tmp 10) = .pointer (some ⟨g, 0, none⟩) := hdep _ (Array.mem_of_getElem? (i := 0) rfl) rfl _ _ rfl rfl
        exact ⟨rfl, QT.wp_value (v := nV (o.n.getD 0 0)) (by simp [go_sem, QT.nf d10, (hI.cell hlt1).trans (HP1.out.num 0 (by decide))]) ⟨_, rfl, rfl, Below.refl _ _⟩⟩
      | 2, ho =>
        obtain rfl := (Option.some.inj ho).symm
        exact ⟨rfl, QT.wp_value (v := .pointer (some ⟨g, 1, none⟩)) (by simp [go_sem, QT.nf t1]) ⟨_, rfl, rfl, Below.refl _ _⟩⟩
      | 3, ho =>
        obtain rfl := (Option.some.inj ho).symm
        have d12 : a.eval (.tmp 12) = .pointer (some ⟨g, 1, none⟩) := hdep _ (Array.mem_of_getElem? (i := 0) rfl) rfl _ _ rfl rfl
        exact ⟨rfl, QT.wp_value (v := nV (o.n.getD 1 0)) (by simp [go_sem, QT.nf d12, (hI.cell hlt1).trans (HP1.out.num 1 (by decide))]) ⟨_, rfl, rfl, Below.refl _ _⟩⟩
      | 4, ho =>
        obtain rfl := (Option.some.inj ho).symm
        exact ⟨rfl, QT.wp_value (v := .pointer (some ⟨g, 2, none⟩)) (by simp [go_sem, QT.nf t1]) ⟨_, rfl, rfl, Below.refl _ _⟩⟩
      | 5, ho =>
        obtain rfl := (Option.some.inj ho).symm
        have d14 : a.eval (.tmp 14) = .pointer (some ⟨g, 2, none⟩) := hdep _ (Array.mem_of_getElem? (i := 0) rfl) rfl _ _ rfl rfl
        exact ⟨rfl, QT.wp_value (v := nV (o.n.getD 2 0)) (by simp [go_sem, QT.nf d14, (hI.cell hlt1).trans (HP1.out.num 2 (by decide))]) ⟨_, rfl, rfl, Below.refl _ _⟩⟩
      | 6, ho =>
        obtain rfl := (Option.some.inj ho).symm
        exact ⟨rfl, QT.wp_value (v := .pointer (some ⟨g, 3, none⟩)) (by simp [go_sem, QT.nf t1]) ⟨_, rfl, rfl, Below.refl _ _⟩⟩
      | 7, ho =>
        obtain rfl := (Option.some.inj ho).symm
        have d16 : a.eval (.tmp 16) = .pointer (some ⟨g, 3, none⟩) := hdep _ (Array.mem_of_getElem? (i := 0) rfl) rfl _ _ rfl rfl
        exact ⟨rfl, QT.wp_value (v := nV (o.n.getD 3 0)) (by simp [go_sem, QT.nf d16, (hI.cell hlt1).trans (HP1.out.num 3 (by decide))]) ⟨_, rfl, rfl, Below.refl _ _⟩⟩
      | 8, ho =>
        obtain rfl := (Option.some.inj ho).symm
        exact ⟨rfl, QT.wp_value (v := .pointer (some ⟨g, 4, none⟩)) (by simp [go_sem, QT.nf t1]) ⟨_, rfl, rfl, Below.refl _ _⟩⟩
      | 9, ho =>
        obtain rfl := (Option.some.inj ho).symm
        have d18 : a.eval (.tmp 18) = .pointer (some ⟨g, 4, none⟩) := hdep _ (Array.mem_of_getElem? (i := 0) rfl) rfl _ _ rfl rfl
        exact ⟨rfl, QT.wp_value (v := nV (o.n.getD 4 0)) (by simp [go_sem, QT.nf d18, (hI.cell hlt1).trans (HP1.out.num 4 (by decide))]) ⟨_, rfl, rfl, Below.refl _ _⟩⟩
      | 10, ho =>
        obtain rfl := (Option.some.inj ho).symm
        have d11 : a.eval (.tmp 11) = nV (o.n.getD 0 0) := hdep _ (Array.mem_of_getElem? (i := 0) rfl) rfl _ _ rfl rfl
        have d13 : a.eval (.tmp 13) = nV (o.n.getD 1 0) := hdep _ (Array.mem_of_getElem? (i := 1) rfl) rfl _ _ rfl rfl
        have d15 : a.eval (.tmp 15) = nV (o.n.getD 2 0) := hdep _ (Array.mem_of_getElem? (i := 2) rfl) rfl _ _ rfl rfl
        have d17 : a.eval (.tmp 17) = nV (o.n.getD 3 0) := hdep _ (Array.mem_of_getElem? (i := 3) rfl) rfl _ _ rfl rfl
        have d19 : a.eval (.tmp 19) = nV (o.n.getD 4 0) := hdep _ (Array.mem_of_getElem? (i := 4) rfl) rfl _ _ rfl rfl
        exact ⟨rfl, wp_build_vals (K := KU) nV (fun _ => rfl) 76 5 _ rfl Tryd.underlying76 [o.n.getD 0 0, o.n.getD 1 0, o.n.getD 2 0, o.n.getD 3 0, o.n.getD 4 0] rfl (by decide) (by decide) (by simp [d11, d13, d15, d17, d19]) fun w' h1 _ h3 _ => ⟨_, rfl, h1, h3⟩⟩
      | 11, ho =>
        obtain rfl := (Option.some.inj ho).symm
        have d20 : ((.nums [o.n.getD 0 0, o.n.getD 1 0, o.n.getD 2 0, o.n.getD 3 0, o.n.getD 4 0]) : FactO).holds (a.eval (.tmp 20)) wz := hdep _ (Array.mem_of_getElem? (i := 0) rfl) rfl _ _ rfl rfl
        obtain ⟨u, hu⟩ : ∃ u, a.eval (.tmp 20) = u := ⟨_, rfl⟩
        rw [hu] at d20
        exact ⟨rfl, QT.wp_enter (v := .string S1) (f := 35) (args := #[u]) (R := fun w' => Below wz.heap.size wz w') (by simp [go_sem, QT.nf hu]) ((told (code_numbers u [o.n.getD 0 0, o.n.getD 1 0, o.n.getD 2 0, o.n.getD 3 0, o.n.getD 4 0] wz d20 (by simp)) HS1.out).mono fun _ _ ⟨h1, h2⟩ => ⟨h1, h2⟩) fun w' h => ⟨_, rfl, rfl, h⟩⟩
      | 12, ho =>
        obtain rfl := (Option.some.inj ho).symm
        exact ⟨rfl, QT.wp_value (v := .pointer (some ⟨g, 5, none⟩)) (by simp [go_sem, QT.nf t1]) ⟨_, rfl, rfl, Below.refl _ _⟩⟩
      | 13, ho =>
        obtain rfl := (Option.some.inj ho).symm
        have d22 : a.eval (.tmp 22) = .pointer (some ⟨g, 5, none⟩) := hdep _ (Array.mem_of_getElem? (i := 0) rfl) rfl _ _ rfl rfl
        exact ⟨rfl, QT.wp_value (v := .slice (some ⟨g, 5, none⟩) 8 8) (by simp [go_sem, QT.nf d22, slice8]) ⟨_, rfl, params_at HPL.out (range_params (range_kept hI HP1.out.ns)), Below.refl _ _⟩⟩
      | 14, ho =>
        obtain rfl := (Option.some.inj ho).symm
        have d23 : ((.nums ((o.n.drop 5).take 8)) : FactO).holds (a.eval (.tmp 23)) wz := hdep _ (Array.mem_of_getElem? (i := 0) rfl) rfl _ _ rfl rfl
        obtain ⟨u, hu⟩ : ∃ u, a.eval (.tmp 23) = u := ⟨_, rfl⟩
        rw [hu] at d23
        exact ⟨rfl, QT.wp_enter (v := .string S2) (f := 35) (args := #[u]) (R := fun w' => Below wz.heap.size wz w') (by simp [go_sem, QT.nf hu]) ((told (code_numbers u ((o.n.drop 5).take 8) wz d23 (by rw [HPL.out]; decide)) HS2.out).mono fun _ _ ⟨h1, h2⟩ => ⟨h1, h2⟩) fun w' h => ⟨_, rfl, rfl, h⟩⟩
      | 15, ho =>
        obtain rfl := (Option.some.inj ho).symm
        have d21 : a.eval (.tmp 21) = .string S1 := hdep _ (Array.mem_of_getElem? (i := 0) rfl) rfl _ _ rfl rfl
        have d24 : a.eval (.tmp 24) = .string S2 := hdep _ (Array.mem_of_getElem? (i := 1) rfl) rfl _ _ rfl rfl
        exact ⟨rfl, QT.wp_value (v := .string T2) (by simp [go_sem, QT.nf d21, QT.nf d24, q2, hT2]) ⟨_, rfl, rfl, Below.refl _ _⟩⟩
      | 16, ho =>
        obtain rfl := (Option.some.inj ho).symm
        exact ⟨rfl, QT.wp_value (v := .pointer (some ⟨g, 13, none⟩)) (by simp [go_sem, QT.nf t1]) ⟨_, rfl, rfl, Below.refl _ _⟩⟩
      | 17, ho =>
        obtain rfl := (Option.some.inj ho).symm
        have d26 : a.eval (.tmp 26) = .pointer (some ⟨g, 13, none⟩) := hdep _ (Array.mem_of_getElem? (i := 0) rfl) rfl _ _ rfl rfl
        exact ⟨rfl, QT.wp_value (v := nV (o.n.getD 13 0)) (by simp [go_sem, QT.nf d26, (hI.cell hlt1).trans (HP1.out.num 13 (by decide))]) ⟨_, rfl, rfl, Below.refl _ _⟩⟩
      | 18, ho =>
        obtain rfl := (Option.some.inj ho).symm
        exact ⟨rfl, QT.wp_value (v := .pointer (some ⟨g, 14, none⟩)) (by simp [go_sem, QT.nf t1]) ⟨_, rfl, rfl, Below.refl _ _⟩⟩
      | 19, ho =>
        obtain rfl := (Option.some.inj ho).symm
        have d28 : a.eval (.tmp 28) = .pointer (some ⟨g, 14, none⟩) := hdep _ (Array.mem_of_getElem? (i := 0) rfl) rfl _ _ rfl rfl
        exact ⟨rfl, QT.wp_value (v := nV (o.n.getD 14 0)) (by simp [go_sem, QT.nf d28, (hI.cell hlt1).trans (HP1.out.num 14 (by decide))]) ⟨_, rfl, rfl, Below.refl _ _⟩⟩
      | 20, ho =>
        obtain rfl := (Option.some.inj ho).symm
        have d27 : a.eval (.tmp 27) = nV (o.n.getD 13 0) := hdep _ (Array.mem_of_getElem? (i := 0) rfl) rfl _ _ rfl rfl
        have d29 : a.eval (.tmp 29) = nV (o.n.getD 14 0) := hdep _ (Array.mem_of_getElem? (i := 1) rfl) rfl _ _ rfl rfl
        exact ⟨rfl, wp_build_vals (K := KU) nV (fun _ => rfl) 76 2 _ rfl Tryd.underlying76 [o.n.getD 13 0, o.n.getD 14 0] rfl (by decide) (by decide) (by simp [d27, d29]) fun w' h1 _ h3 _ => ⟨_, rfl, h1, h3⟩⟩
      | 21, ho =>
        obtain rfl := (Option.some.inj ho).symm
        have d30 : ((.nums [o.n.getD 13 0, o.n.getD 14 0]) : FactO).holds (a.eval (.tmp 30)) wz := hdep _ (Array.mem_of_getElem? (i := 0) rfl) rfl _ _ rfl rfl
        obtain ⟨u, hu⟩ : ∃ u, a.eval (.tmp 30) = u := ⟨_, rfl⟩
        rw [hu] at d30
        exact ⟨rfl, QT.wp_enter (v := .string S3) (f := 35) (args := #[u]) (R := fun w' => Below wz.heap.size wz w') (by simp [go_sem, QT.nf hu]) ((told (code_numbers u [o.n.getD 13 0, o.n.getD 14 0] wz d30 (by simp)) HS3.out).mono fun _ _ ⟨h1, h2⟩ => ⟨h1, h2⟩) fun w' h => ⟨_, rfl, rfl, h⟩⟩
      | 22, ho =>
        obtain rfl := (Option.some.inj ho).symm
        have d25 : a.eval (.tmp 25) = .string T2 := hdep _ (Array.mem_of_getElem? (i := 0) rfl) rfl _ _ rfl rfl
        have d31 : a.eval (.tmp 31) = .string S3 := hdep _ (Array.mem_of_getElem? (i := 1) rfl) rfl _ _ rfl rfl
        exact ⟨rfl, QT.wp_value (v := .string T3) (by simp [go_sem, QT.nf d25, QT.nf d31, q3, hT3]) ⟨_, rfl, rfl, Below.refl _ _⟩⟩
      | 23, ho =>
        obtain rfl := (Option.some.inj ho).symm
        exact ⟨rfl, QT.wp_value (v := .pointer (some ⟨g, 15, none⟩)) (by simp [go_sem, QT.nf t1]) ⟨_, rfl, rfl, Below.refl _ _⟩⟩
      | 24, ho =>
        obtain rfl := (Option.some.inj ho).symm
        have d33 : a.eval (.tmp 33) = .pointer (some ⟨g, 15, none⟩) := hdep _ (Array.mem_of_getElem? (i := 0) rfl) rfl _ _ rfl rfl
        exact ⟨rfl, wp_load_mid 29 (.tmp 33) rfl g 15 d33 (valsB o.no.1) _ (range_kept hI HP1.out.no) Tryd.underlying29 rfl HIN.out ⟨_, rfl, rfl, Below.refl _ _⟩⟩
      | 25, ho =>
        obtain rfl := (Option.some.inj ho).symm
        have d34 : a.eval (.tmp 34) = .agg (valsB o.no.1).toArray := hdep _ (Array.mem_of_getElem? (i := 0) rfl) rfl _ _ rfl rfl
        exact ⟨rfl, wp_build_vals (K := KH) hV (fun _ => rfl) 122 1 _ rfl Tryd.underlying122 [o.no] rfl (by decide) (by decide) (by simp [d34]) fun w' h1 _ h3 _ => ⟨_, rfl, h1, h3⟩⟩
      | 26, ho =>
        obtain rfl := (Option.some.inj ho).symm
        have d35 : ((.hs [o.no]) : FactO).holds (a.eval (.tmp 35)) wz := hdep _ (Array.mem_of_getElem? (i := 0) rfl) rfl _ _ rfl rfl
        obtain ⟨u, hu⟩ : ∃ u, a.eval (.tmp 35) = u := ⟨_, rfl⟩
        rw [hu] at d35
        exact ⟨rfl, QT.wp_enter (v := .string S4) (f := 36) (args := #[u]) (R := fun w' => Below wz.heap.size wz w') (by simp [go_sem, QT.nf hu]) ((told (code_hashes u [o.no] wz d35 (by simp)) HS4.out).mono fun _ _ ⟨h1, h2⟩ => ⟨h1, h2⟩) fun w' h => ⟨_, rfl, rfl, h⟩⟩
      | 27, ho =>
        obtain rfl := (Option.some.inj ho).symm
        have d32 : a.eval (.tmp 32) = .string T3 := hdep _ (Array.mem_of_getElem? (i := 0) rfl) rfl _ _ rfl rfl
        have d36 : a.eval (.tmp 36) = .string S4 := hdep _ (Array.mem_of_getElem? (i := 1) rfl) rfl _ _ rfl rfl
        exact ⟨rfl, QT.wp_value (v := .string T4) (by simp [go_sem, QT.nf d32, QT.nf d36, q4, hT4]) ⟨_, rfl, rfl, Below.refl _ _⟩⟩
      | 28, ho =>
        obtain rfl := (Option.some.inj ho).symm
        exact ⟨rfl, QT.wp_value (v := .pointer (some ⟨g, 47, none⟩)) (by simp [go_sem, QT.nf t1]) ⟨_, rfl, rfl, Below.refl _ _⟩⟩
      | 29, ho =>
        obtain rfl := (Option.some.inj ho).symm
        have d38 : a.eval (.tmp 38) = .pointer (some ⟨g, 47, none⟩) := hdep _ (Array.mem_of_getElem? (i := 0) rfl) rfl _ _ rfl rfl
        exact ⟨rfl, QT.wp_value (v := c) (by simp [go_sem, QT.nf d38, (hI.cell hlt1).trans HP1.out.c]) ⟨_, rfl, rfl, Below.refl _ _⟩⟩
      | 30, ho =>
        obtain rfl := (Option.some.inj ho).symm
        have d39 : a.eval (.tmp 39) = c := hdep _ (Array.mem_of_getElem? (i := 0) rfl) rfl _ _ rfl rfl
        exact ⟨rfl, QT.wp_enter (v := .string S5) (f := 37) (args := #[c, .func (.func 38) #[] #[]]) (R := fun w' => Below wz.heap.size wz w') (by simp [go_sem, QT.nf d39]) ((told (code_listC c o.coins wz (HO1.out.coins.kept hI) (by have := HHL.out; omega)) HS5.out).mono fun _ _ ⟨h1, h2⟩ => ⟨h1, h2⟩) fun w' h => ⟨_, rfl, rfl, h⟩⟩
      | 31, ho =>
        obtain rfl := (Option.some.inj ho).symm
        have d37 : a.eval (.tmp 37) = .string T4 := hdep _ (Array.mem_of_getElem? (i := 0) rfl) rfl _ _ rfl rfl
        have d40 : a.eval (.tmp 40) = .string S5 := hdep _ (Array.mem_of_getElem? (i := 1) rfl) rfl _ _ rfl rfl
        exact ⟨rfl, QT.wp_value (v := .string T5) (by simp [go_sem, QT.nf d37, QT.nf d40, q5, hT5]) ⟨_, rfl, rfl, Below.refl _ _⟩⟩
      | 32, ho =>
        obtain rfl := (Option.some.inj ho).symm
        exact ⟨rfl, QT.wp_value (v := .pointer (some ⟨g, 48, none⟩)) (by simp [go_sem, QT.nf t1]) ⟨_, rfl, rfl, Below.refl _ _⟩⟩
      | 33, ho =>
        obtain rfl := (Option.some.inj ho).symm
        have d42 : a.eval (.tmp 42) = .pointer (some ⟨g, 48, none⟩) := hdep _ (Array.mem_of_getElem? (i := 0) rfl) rfl _ _ rfl rfl
        exact ⟨rfl, QT.wp_value (v := s) (by simp [go_sem, QT.nf d42, (hI.cell hlt1).trans HP1.out.s]) ⟨_, rfl, rfl, Below.refl _ _⟩⟩
      | 34, ho =>
        obtain rfl := (Option.some.inj ho).symm
        have d43 : a.eval (.tmp 43) = s := hdep _ (Array.mem_of_getElem? (i := 0) rfl) rfl _ _ rfl rfl
        exact ⟨rfl, QT.wp_enter (v := .string S6) (f := 39) (args := #[s, .func (.func 40) #[] #[]]) (R := fun w' => Below wz.heap.size wz w') (by simp [go_sem, QT.nf d43]) ((told (code_listS s o.seats wz (HO1.out.seats.kept hI) (by have := HHL.out; omega)) HS6.out).mono fun _ _ ⟨h1, h2⟩ => ⟨h1, h2⟩) fun w' h => ⟨_, rfl, rfl, h⟩⟩
      | 35, ho =>
        obtain rfl := (Option.some.inj ho).symm
        have d41 : a.eval (.tmp 41) = .string T5 := hdep _ (Array.mem_of_getElem? (i := 0) rfl) rfl _ _ rfl rfl
        have d44 : a.eval (.tmp 44) = .string S6 := hdep _ (Array.mem_of_getElem? (i := 1) rfl) rfl _ _ rfl rfl
        exact ⟨rfl, QT.wp_value (v := .string T6) (by simp [go_sem, QT.nf d41, QT.nf d44, q6, hT6]) ⟨_, rfl, rfl, Below.refl _ _⟩⟩
      | 36, ho =>
        obtain rfl := (Option.some.inj ho).symm
        exact ⟨rfl, QT.wp_value (v := .pointer (some ⟨g, 49, none⟩)) (by simp [go_sem, QT.nf t1]) ⟨_, rfl, rfl, Below.refl _ _⟩⟩
      | 37, ho =>
        obtain rfl := (Option.some.inj ho).symm
        have d46 : a.eval (.tmp 46) = .pointer (some ⟨g, 49, none⟩) := hdep _ (Array.mem_of_getElem? (i := 0) rfl) rfl _ _ rfl rfl
        exact ⟨rfl, QT.wp_value (v := t) (by simp [go_sem, QT.nf d46, (hI.cell hlt1).trans HP1.out.t]) ⟨_, rfl, rfl, Below.refl _ _⟩⟩
      | 38, ho =>
        obtain rfl := (Option.some.inj ho).symm
        have d47 : a.eval (.tmp 47) = t := hdep _ (Array.mem_of_getElem? (i := 0) rfl) rfl _ _ rfl rfl
        exact ⟨rfl, QT.wp_enter (v := .string S7) (f := 41) (args := #[t, .func (.func 42) #[] #[]]) (R := fun w' => Below wz.heap.size wz w') (by simp [go_sem, QT.nf d47]) ((told (code_listT t o.trusts wz (HO1.out.trusts.kept hI) (by have := HHL.out; omega)) HS7.out).mono fun _ _ ⟨h1, h2⟩ => ⟨h1, h2⟩) fun w' h => ⟨_, rfl, rfl, h⟩⟩
      | 39, ho =>
        obtain rfl := (Option.some.inj ho).symm
        have d45 : a.eval (.tmp 45) = .string T6 := hdep _ (Array.mem_of_getElem? (i := 0) rfl) rfl _ _ rfl rfl
        have d48 : a.eval (.tmp 48) = .string S7 := hdep _ (Array.mem_of_getElem? (i := 1) rfl) rfl _ _ rfl rfl
        exact ⟨rfl, QT.wp_value (v := .string T7) (by simp [go_sem, QT.nf d45, QT.nf d48, q7, hT7]) ⟨_, rfl, rfl, Below.refl _ _⟩⟩
      | 40, ho =>
        obtain rfl := (Option.some.inj ho).symm
        have d49 : a.eval (.tmp 49) = .string T7 := hdep _ (Array.mem_of_getElem? (i := 0) rfl) rfl _ _ rfl rfl
        exact ⟨rfl, QT.wp_value (BigFrame.run_assign (.tmp 49) rfl wz) ⟨_, rfl, d49, Below.refl _ _⟩⟩
      | 41, ho =>
        obtain rfl := (Option.some.inj ho).symm
        exact ⟨rfl, QT.wp_value (v := .int .i64 0) (by simp [go_sem]) ⟨_, rfl, rfl, Below.refl _ _⟩⟩
      | n + 42, ho => simp at ho
    · have f0 : a.eval (.tmp 10) = .pointer (some ⟨g, 0, none⟩) := hf 0 _ _ rfl rfl
      have f1 : a.eval (.tmp 11) = nV (o.n.getD 0 0) := hf 1 _ _ rfl rfl
      have f2 : a.eval (.tmp 12) = .pointer (some ⟨g, 1, none⟩) := hf 2 _ _ rfl rfl
      have f3 : a.eval (.tmp 13) = nV (o.n.getD 1 0) := hf 3 _ _ rfl rfl
      have f4 : a.eval (.tmp 14) = .pointer (some ⟨g, 2, none⟩) := hf 4 _ _ rfl rfl
      have f5 : a.eval (.tmp 15) = nV (o.n.getD 2 0) := hf 5 _ _ rfl rfl
      have f6 : a.eval (.tmp 16) = .pointer (some ⟨g, 3, none⟩) := hf 6 _ _ rfl rfl
      have f7 : a.eval (.tmp 17) = nV (o.n.getD 3 0) := hf 7 _ _ rfl rfl
      have f8 : a.eval (.tmp 18) = .pointer (some ⟨g, 4, none⟩) := hf 8 _ _ rfl rfl
      have f9 : a.eval (.tmp 19) = nV (o.n.getD 4 0) := hf 9 _ _ rfl rfl
      obtain ⟨u10, f10⟩ : ∃ u, a.eval (.tmp 20) = u := ⟨_, rfl⟩
      have y10 : ((.nums [o.n.getD 0 0, o.n.getD 1 0, o.n.getD 2 0, o.n.getD 3 0, o.n.getD 4 0]) : FactO).holds (a.eval (.tmp 20)) wz := hf 10 _ _ rfl rfl
      rw [f10] at y10
      have f11 : a.eval (.tmp 21) = .string S1 := hf 11 _ _ rfl rfl
      have f12 : a.eval (.tmp 22) = .pointer (some ⟨g, 5, none⟩) := hf 12 _ _ rfl rfl
      obtain ⟨u13, f13⟩ : ∃ u, a.eval (.tmp 23) = u := ⟨_, rfl⟩
      have y13 : ((.nums ((o.n.drop 5).take 8)) : FactO).holds (a.eval (.tmp 23)) wz := hf 13 _ _ rfl rfl
      rw [f13] at y13
      have f14 : a.eval (.tmp 24) = .string S2 := hf 14 _ _ rfl rfl
      have f15 : a.eval (.tmp 25) = .string T2 := hf 15 _ _ rfl rfl
      have f16 : a.eval (.tmp 26) = .pointer (some ⟨g, 13, none⟩) := hf 16 _ _ rfl rfl
      have f17 : a.eval (.tmp 27) = nV (o.n.getD 13 0) := hf 17 _ _ rfl rfl
      have f18 : a.eval (.tmp 28) = .pointer (some ⟨g, 14, none⟩) := hf 18 _ _ rfl rfl
      have f19 : a.eval (.tmp 29) = nV (o.n.getD 14 0) := hf 19 _ _ rfl rfl
      obtain ⟨u20, f20⟩ : ∃ u, a.eval (.tmp 30) = u := ⟨_, rfl⟩
      have y20 : ((.nums [o.n.getD 13 0, o.n.getD 14 0]) : FactO).holds (a.eval (.tmp 30)) wz := hf 20 _ _ rfl rfl
      rw [f20] at y20
      have f21 : a.eval (.tmp 31) = .string S3 := hf 21 _ _ rfl rfl
      have f22 : a.eval (.tmp 32) = .string T3 := hf 22 _ _ rfl rfl
      have f23 : a.eval (.tmp 33) = .pointer (some ⟨g, 15, none⟩) := hf 23 _ _ rfl rfl
      have f24 : a.eval (.tmp 34) = .agg (valsB o.no.1).toArray := hf 24 _ _ rfl rfl
      obtain ⟨u25, f25⟩ : ∃ u, a.eval (.tmp 35) = u := ⟨_, rfl⟩
      have y25 : ((.hs [o.no]) : FactO).holds (a.eval (.tmp 35)) wz := hf 25 _ _ rfl rfl
      rw [f25] at y25
      have f26 : a.eval (.tmp 36) = .string S4 := hf 26 _ _ rfl rfl
      have f27 : a.eval (.tmp 37) = .string T4 := hf 27 _ _ rfl rfl
      have f28 : a.eval (.tmp 38) = .pointer (some ⟨g, 47, none⟩) := hf 28 _ _ rfl rfl
      have f29 : a.eval (.tmp 39) = c := hf 29 _ _ rfl rfl
      have f30 : a.eval (.tmp 40) = .string S5 := hf 30 _ _ rfl rfl
      have f31 : a.eval (.tmp 41) = .string T5 := hf 31 _ _ rfl rfl
      have f32 : a.eval (.tmp 42) = .pointer (some ⟨g, 48, none⟩) := hf 32 _ _ rfl rfl
      have f33 : a.eval (.tmp 43) = s := hf 33 _ _ rfl rfl
      have f34 : a.eval (.tmp 44) = .string S6 := hf 34 _ _ rfl rfl
      have f35 : a.eval (.tmp 45) = .string T6 := hf 35 _ _ rfl rfl
      have f36 : a.eval (.tmp 46) = .pointer (some ⟨g, 49, none⟩) := hf 36 _ _ rfl rfl
      have f37 : a.eval (.tmp 47) = t := hf 37 _ _ rfl rfl
      have f38 : a.eval (.tmp 48) = .string S7 := hf 38 _ _ rfl rfl
      have f39 : a.eval (.tmp 49) = .string T7 := hf 39 _ _ rfl rfl
      have f40 : a.eval (.tmp 2) = .string T7 := hf 40 _ _ rfl rfl
      have f41 : a.eval (.tmp 3) = .int .i64 0 := hf 41 _ _ rfl rfl
      have ha := hag.puts ((10, .pointer (some ⟨g, 0, none⟩)) :: (11, nV (o.n.getD 0 0)) :: (12, .pointer (some ⟨g, 1, none⟩)) :: (13, nV (o.n.getD 1 0)) :: (14, .pointer (some ⟨g, 2, none⟩)) :: (15, nV (o.n.getD 2 0)) :: (16, .pointer (some ⟨g, 3, none⟩)) :: (17, nV (o.n.getD 3 0)) :: (18, .pointer (some ⟨g, 4, none⟩)) :: (19, nV (o.n.getD 4 0)) :: (20, u10) :: (21, .string S1) :: (22, .pointer (some ⟨g, 5, none⟩)) :: (23, u13) :: (24, .string S2) :: (25, .string T2) :: (26, .pointer (some ⟨g, 13, none⟩)) :: (27, nV (o.n.getD 13 0)) :: (28, .pointer (some ⟨g, 14, none⟩)) :: (29, nV (o.n.getD 14 0)) :: (30, u20) :: (31, .string S3) :: (32, .string T3) :: (33, .pointer (some ⟨g, 15, none⟩)) :: (34, .agg (valsB o.no.1).toArray) :: (35, u25) :: (36, .string S4) :: (37, .string T4) :: (38, .pointer (some ⟨g, 47, none⟩)) :: (39, c) :: (40, .string S5) :: (41, .string T5) :: (42, .pointer (some ⟨g, 48, none⟩)) :: (43, s) :: (44, .string S6) :: (45, .string T6) :: (46, .pointer (some ⟨g, 49, none⟩)) :: (47, t) :: (48, .string S7) :: (49, .string T7) :: (2, .string T7) :: (3, .int .i64 0) :: []) rfl (by simp) (by simp only [List.forall_mem_cons, List.not_mem_nil, false_implies, implies_true, and_true]; exact ⟨f0, f1, f2, f3, f4, f5, f6, f7, f8, f9, f10, f11, f12, f13, f14, f15, f16, f17, f18, f19, f20, f21, f22, f23, f24, f25, f26, f27, f28, f29, f30, f31, f32, f33, f34, f35, f36, f37, f38, f39, f40, f41⟩)
      subst ha
      clear hag hf f0 f1 f2 f3 f4 f5 f6 f7 f8 f9 f10 f11 f12 f13 f14 f15 f16 f17 f18 f19 f20 f21 f22 f23 f24 f25 f26 f27 f28 f29 f30 f31 f32 f33 f34 f35 f36 f37 f38 f39 f40 f41
      simp only [List.foldl_cons, List.foldl_nil, Act.put, List.setIfInBounds_toArray, List.set_cons_succ, List.set_cons_zero]
      have HBI := Lib.hid hI
      clear hI
      go_wp2_with fail
      go_ret2
      exact ⟨rfl, by rw [HG.out]; exact HBW.out.trans ((HB1.out.trans (HBI.out.mono HB1.out.size)).mono (by have := HBW.out.size; have := HG.out; omega))⟩


theorem may_tot {o : OriginD} (h : mayO o = true) : totE o = (sumN o, 0) := by
  unfold mayO totB at h
  simp only [Bool.and_eq_true, decide_eq_true_eq] at h
  have := h.2.2.2.2.2.2
  unfold totE
  rw [if_pos (by omega)]
set_option maxRecDepth 100000 in
set_option maxHeartbeats 1600000 in
theorem code_Total {w : World} {o : OriginD} {c s t : Value} (h : OAt w o c s t) (ht : Tab w) : Calls Tryd.prog 8 #[oV o c s t] w fun e w' => e = .returned (.tuple #[.int .u64 (if mayO o = true then sumN o else 0 : Nat), .int .i64 (mayE o : Nat)]) ∧ Below w.heap.size w w' := by
  have HM := Lib.hid (fun w (h : OAt w o c s t) (ht : Tab w) => code_May h ht)
  have hlm := fun hm : mayO o = true => cnt_lens (Bool.and_eq_true_iff.1 hm).1
  have htm := fun hm : mayO o = true => may_tot hm
  have HTT := Lib.hid (fun w (h : OAt w o c s t) (hl : o.coins.length ≤ 1000000) => code_total h hl)
  unfold mayE at HM ⊢
  obtain ⟨⟨r1, r2⟩, hR⟩ : ∃ R, totE o = R := ⟨_, rfl⟩
  rw [hR] at HTT
  simp only [hR] at htm
  obtain ⟨b, hb⟩ : ∃ b, mayO o = b := ⟨_, rfl⟩
  simp only [hb] at HM hlm htm
  rw [hb]
  obtain ⟨m, hm⟩ : ∃ n, sumN o = n := ⟨_, rfl⟩
  rw [hm] at htm ⊢
  clear hb hR hm
  unfold oV at HM HTT
  have HIO := Lib.hid (show (Tryd.prog.info? 34).map (·.size) = some (cellsO o c s t).toArray.size by rw [List.size_toArray]; exact info_O h)
  have HHW := Lib.hid (heap_alloc_new w (.cells (cellsO o c s t).toArray 34))
  have HTW := Lib.hid (ht.kept (show Below w.heap.size w (w.alloc (.cells (cellsO o c s t).toArray 34)) from (Below.refl _ _).alloc (Nat.le_refl _) _))
  cases b with
  | false =>
    clear htm hlm
    simp only [Bool.false_eq_true, if_false] at HM ⊢
    obtain ⟨h1, h2, h3, h4⟩ := box_o h
    unfold oV
    have HP := Lib.hid h1
    have HO := Lib.hid h2
    have HBW := Lib.hid h3
    have HLT := Lib.hid h4
    clear h1 h2 h3 h4
    obtain ⟨C, hC⟩ : ∃ C, (cellsO o c s t).toArray = C := ⟨_, rfl⟩
    have HC := Lib.hid hC
    rw [hC] at HP HO HBW HLT HIO HHW HTW
    simp only [hC] at HM HTT
    rw [hC]
    clear hC
    go_enter Tryd.func8, Tryd.ntmps8
    go_upto_region 1 with (fail)
    generalize w.alloc (.cells C 34) = W at HP HO HBW HLT HHW HTW ⊢
    obtain ⟨g, hg⟩ : ∃ g, w.heap.size = g := ⟨_, rfl⟩
    have HG := Lib.hid hg
    rw [hg] at HP HBW HLT HHW
    rw [hg]
    clear hg
    go_wp2_with (first
      | (go_at_call 20; refine (HM.out _ HO.out HTW.out).mono ?_; rintro e w1 ⟨rfl, hb⟩; have HB1 := Lib.hid hb; clear hb)
      | (refine wpList_load_row rfl 34 (.tmp 1) rfl g rfl 34 C (0, 0) _ HHW.out Tryd.underlying34 rfl HIO.out ?_; go_frame))
    go_ret2
    exact ⟨rfl, by rw [HG.out]; exact HBW.out.trans (HB1.out.mono (by have := HBW.out.size; have := HG.out; omega))⟩
  | true =>
    have hl := hlm rfl
    obtain ⟨rfl, rfl⟩ := Prod.mk.inj (htm rfl)
    clear hlm htm
    have HL := Lib.hid (Nat.le_trans hl.1 (show 32 ≤ 1000000 by decide))
    clear hl
    simp only [if_true] at HM ⊢
    obtain ⟨h1, h2, h3, h4⟩ := box_o h
    unfold oV
    have HP := Lib.hid h1
    have HO := Lib.hid h2
    have HBW := Lib.hid h3
    have HLT := Lib.hid h4
    clear h1 h2 h3 h4
    obtain ⟨C, hC⟩ : ∃ C, (cellsO o c s t).toArray = C := ⟨_, rfl⟩
    have HC := Lib.hid hC
    rw [hC] at HP HO HBW HLT HIO HHW HTW
    simp only [hC] at HM HTT
    rw [hC]
    clear hC
    go_enter Tryd.func8, Tryd.ntmps8
    go_upto_region 1 with (fail)
    generalize w.alloc (.cells C 34) = W at HP HO HBW HLT HHW HTW ⊢
    obtain ⟨g, hg⟩ : ∃ g, w.heap.size = g := ⟨_, rfl⟩
    have HG := Lib.hid hg
    rw [hg] at HP HBW HLT HHW
    rw [hg]
    clear hg
    go_wp2_with (first
      | (go_at_call 21; refine (HTT.out _ (HO.out.kept HB1.out) HL.out).mono ?_; rintro e w2 ⟨rfl, hb⟩; have HB2 := Lib.hid (HB1.out.trans (hb.mono HB1.out.size)); clear hb)
      | (go_at_call 20; refine (HM.out _ HO.out HTW.out).mono ?_; rintro e w1 ⟨rfl, hb⟩; have HB1 := Lib.hid hb; have HH1 := Lib.hid ((HB1.out.block g HLT.out).trans HHW.out); clear hb)
      | (refine wpList_load_row rfl 34 (.tmp 1) rfl g rfl 34 C (0, 0) _ HH1.out Tryd.underlying34 rfl HIO.out ?_; go_frame)
      | (refine wpList_load_row rfl 34 (.tmp 1) rfl g rfl 34 C (0, 0) _ HHW.out Tryd.underlying34 rfl HIO.out ?_; go_frame))
    go_ret2
    exact ⟨rfl, by rw [HG.out]; exact HBW.out.trans (HB2.out.mono (by have := HBW.out.size; have := HG.out; omega))⟩

end Go.Proofs.YtdgaoebjbhomdaaDoor.Og
