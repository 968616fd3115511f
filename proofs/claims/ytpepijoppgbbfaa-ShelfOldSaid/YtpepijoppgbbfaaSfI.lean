/- shelf: is: a range over a shelf, held against a list. -/
import Derived.Test.YtpepijoppgbbfaaSfD
import Derived.Test.YtpepijoppgbbfaaQFt
namespace Go.Proofs.Ytpepijoppgbbfaa.Shf
open Go.RowKit Go.Shelf Go.Proofs.Ytpepijoppgbbfaa.Gr
attribute [local go_sem] Oper.semAt_some

/-- What an operation leaves. -/
inductive FactV where
  | val (v : Value)
def FactV.holds : FactV → Value → World → Prop
  | .val v0, v, _ => v = v0
theorem FactV.kept (f : FactV) (v : Value) (w w' : World) (h : f.holds v w) (_ : Below w.heap.size w w') : f.holds v w' := by
  cases f with
  | val v0 => exact h

theorem cells_grown {W W' : World} {row : Option Nat} (hg : W.grownBy W' row) (hr : ∀ r, row = some r → ∃ o : Obj, W.heap[r]? = some o ∧ o.isCells = false) {g : Nat} {cs : Array Value} {t : TypeId} {fr : Nat × Nat} (h : W.heap[g]? = some (.cells cs t fr)) : W'.heap[g]? = some (.cells cs t fr) := by
  rw [hg.block g (Array.getElem?_eq_some_iff.1 h).1 (fun e => by
    obtain ⟨o, ho, hc⟩ := hr g e.symm
    rw [h] at ho
    injection ho with ho
    subst ho
    cases hc)]
  exact h
theorem at_grown {α : Type} {P : Program} {K : Kind P α} {W W' : World} {row : Option Nat} (hg : W.grownBy W' row) (hr : ∀ r, row = some r → ∃ o : Obj, W.heap[r]? = some o ∧ o.isCells = false) {v : Value} {L : List α} (h : K.At W v L) : K.At W' v L := by
  rcases h with h | ⟨g, o, cap, hv, h0, hc, hx⟩
  · exact Or.inl h
  · exact Or.inr ⟨g, o, cap, hv, h0, hc, fun j u hj => cell_kept (hx j u hj) hg hr⟩

/-- What is so between two rounds of is. -/
structure IsI (w : World) (S : Array Value) (l : List Th) (v : Value) (g2 g3 g4 g5 : Nat) (pre : List Th) (W : World) : Prop where
  part : pre <+: l
  shelf : W.heap[g2]? = some (.cells S 24 (0, 0))
  list : W.heap[g3]? = some (.cells #[v] 37 (0, 0))
  ans : W.heap[g4]? = some (.cells #[.bool false] 4 (0, 0))
  at_ : W.heap[g5]? = some (.cells #[.int .i64 (pre.length : Int)] 3 (0, 0))
  below : Below w.heap.size w W
theorem IsI.own {w : World} {S : Array Value} {l : List Th} {v : Value} {g2 g3 g4 g5 B : Nat} (hB : w.heap.size ≤ B) : OwnFrom B (IsI w S l v g2 g3 g4 g5) := fun _ _ _ _ h hg hr =>
  have hr' := fun r e => (hr r e).2
  ⟨h.part, cells_grown hg hr' h.shelf, cells_grown hg hr' h.list, cells_grown hg hr' h.ans, cells_grown hg hr' h.at_, h.below.grown hg h.below.size (fun k e => Nat.le_trans hB (hr k e).1)⟩
theorem prefix_snoc {α : Type} {pre l : List α} {x : α} (h : pre <+: l) (hx : l[pre.length]? = some x) : pre ++ [x] <+: l := by
  obtain ⟨t, rfl⟩ := h
  rw [List.getElem?_append_right (Nat.le_refl _), Nat.sub_self] at hx
  cases t with
  | nil => simp at hx
  | cons y t =>
    simp at hx
    subst hx
    exact ⟨t, by simp⟩
theorem prefix_not {α : Type} {pre l : List α} {x y : α} (hy : l[pre.length]? = some y) (hne : x ≠ y) : ¬ pre ++ [x] <+: l := by
  rintro ⟨t, rfl⟩
  rw [List.append_assoc, List.getElem?_append_right (Nat.le_refl _), Nat.sub_self] at hy
  simp at hy
  exact hne hy
theorem IsI.step {w : World} {S : Array Value} {l : List Th} {v : Value} {g2 g3 g4 g5 : Nat} {pre : List Th} {W : World} {x : Th} (h : IsI w S l v g2 g3 g4 g5 pre W) (hx : l[pre.length]? = some x) (hB : w.heap.size ≤ g5) (hg : g2 < g3 ∧ g3 < g4 ∧ g4 < g5) :
    IsI w S l v g2 g3 g4 g5 (pre ++ [x]) (W.setCell ⟨g5, 0, none⟩ (.int .i64 ((pre.length : Int) + 1))) := by
  have hb := h.below.setCell (p := ⟨g5, 0, none⟩) hB (.int .i64 ((pre.length : Int) + 1))
  rw [setCell_eq_setRow W g5 0 _ _ _ _ h.at_] at hb ⊢
  refine ⟨prefix_snoc h.part hx, (setRow_other _ _ _ _ (by omega)).trans h.shelf, (setRow_other _ _ _ _ (by omega)).trans h.list, (setRow_other _ _ _ _ (by omega)).trans h.ans, ?_, hb⟩
  rw [setRow_heap _ _ _ _ _ _ h.at_]
  simp
theorem keepC_step {n₀ n₁ : Nat} {W : World} {g : Nat} {v : Value} (h0 : n₀ ≤ g) (h1 : g < n₁) {cur : Array Value} {t : TypeId} {fr : Nat × Nat} (hg : W.heap[g]? = some (.cells cur t fr)) : KeepC n₀ n₁ W (W.setCell ⟨g, 0, none⟩ v) :=
  ⟨(KeepsOthers.setCell W _ v).size, fun k cs t fr hk hc => by
    rw [setCell_eq_setRow W g 0 _ _ _ _ hg, setRow_other _ _ _ _ (show k ≠ g by omega)]
    exact hc⟩

set_option maxRecDepth 100000 in
set_option maxHeartbeats 6400000 in
theorem ref_is (S : Array Value) (l : List Th) (v : Value) (w : World) (hS : ShelfAt w.heap.size w S l) (hM : KT.At w v l) (hl : l.length ≤ 10000000000) :
    Calls Try.prog 20 #[.agg S, v] w fun e w' => e = .returned (.bool true) ∧ Below w.heap.size w w' := by
  have HL := Lib.hid (fun w hS => code_LenS S l w hS hl)
  have HA := Lib.hid (fun n₀ w hS hn => code_AllS S l n₀ w hS hn)
  have HRW := Lib.hid hS.row
  obtain ⟨av, cap, rfl, hcap⟩ := hM.form
  have HS := Lib.hid hS
  have HM := Lib.hid hM
  have HSB := Lib.hid (fun (w' : World) (h : Below w.heap.size w w') => hS.below h h.size)
  clear hS hM
  refine (callsIn_wide (n := 4)).1 (callsIn_of_wp_marks Try.func20 rfl trivial ?_ rfl)
  refine wpIn_wide.2 ?_
  simp only [Try.ntmps20, List.size_toArray, List.length_cons, List.length_nil, Nat.reduceAdd, Nat.reduceSub, Array.replicate_succ, Array.replicate_zero, List.push_toArray, List.append_toArray, List.nil_append, List.cons_append]
  go_upto_region 1 with (fail)
  have hw1 : ((w.alloc (.cells S 24))).heap.size = w.heap.size + 1 := by simp
  have hs0 : ((((w.alloc (.cells S 24))).alloc (.cells #[.slice av l.length cap] 37)).alloc (.cells #[.bool false] 4)).heap.size = w.heap.size + 3 := by simp
  have H2 := Lib.hid ((Below.heap_alloc _ (.cells #[.bool false] 4) w.heap.size (by simp; omega)).trans (heap_alloc2_old w (.cells S 24) (.cells #[.slice av l.length cap] 37)))
  have H3 := Lib.hid ((Below.heap_alloc _ (.cells #[.bool false] 4) (w.heap.size + 1) (by simp)).trans (heap_alloc2_new w (.cells S 24) (.cells #[.slice av l.length cap] 37)))
  have H4 := Lib.hid (show ((((w.alloc (.cells S 24))).alloc (.cells #[.slice av l.length cap] 37)).alloc (.cells #[.bool false] 4)).heap[w.heap.size + 1 + 1]? = some (.cells #[.bool false] 4 (0, 0)) by
    have h := heap_alloc2_new (w.alloc (.cells S 24)) (.cells #[.slice av l.length cap] 37) (.cells #[.bool false] 4)
    rw [hw1] at h
    exact h)
  have HBW := Lib.hid (show Below w.heap.size w ((((w.alloc (.cells S 24))).alloc (.cells #[.slice av l.length cap] 37)).alloc (.cells #[.bool false] 4)) from (((Below.refl _ _).alloc (Nat.le_refl _) _).alloc (by simp) _).alloc (by simp; omega) _)
  clear hw1
  generalize ((((w.alloc (.cells S 24))).alloc (.cells #[.slice av l.length cap] 37)).alloc (.cells #[.bool false] 4)) = W at H2 H3 H4 HBW hs0 ⊢
  obtain ⟨g2, hg2⟩ : ∃ x, w.heap.size = x := ⟨_, rfl⟩
  obtain ⟨g3, hg3⟩ : ∃ x, g2 + 1 = x := ⟨_, rfl⟩
  obtain ⟨g4, hg4⟩ : ∃ x, g3 + 1 = x := ⟨_, rfl⟩
  rw [hg2] at H2 H3 H4 HBW HSB hs0
  rw [hg3] at H3 H4
  rw [hg4] at H4
  rw [hg2, hg3, hg4]
  have HGE := Lib.hid hg2
  have HLT := Lib.hid (show g2 < g3 ∧ g3 < g4 ∧ g4 < W.heap.size by omega)
  have HSW := Lib.hid (fun (w' : World) (h : Below W.heap.size W w') => HSB.out w' (HBW.out.trans (h.mono (by have := HLT.out; omega))))
  clear hg2 hg3 hg4 hs0
  refine QT.wp_region_facts (by kernel_rfl) (fun w' => Below W.heap.size W w') (fun n v w' => (([.val (.agg S), .val (.int .i64 (l.length : Int)), .val (.slice av l.length cap), .val (.int .i64 (l.length : Int)), .val (.bool false)] : List FactV).getD n (.val undef) : FactV).holds v w') (by kernel_rfl) (by kernel_rfl) (Below.refl _ _).drew (fun w1 w2 h1 hb => h1.trans (hb.mono h1.size)) (fun n v w1 w2 h hb => FactV.kept _ v w1 w2 h hb) (fun n o ho a wz hI hag hdep => ?_) (fun a wz hI hag hf => ?_)
  · have t2 : a.eval (.tmp 2) = .pointer (some ⟨g2, 0, none⟩) := hag.old 2 _ (by kernel_rfl) rfl
    have t3 : a.eval (.tmp 3) = .pointer (some ⟨g3, 0, none⟩) := hag.old 3 _ (by kernel_rfl) rfl
    have c3 : wz.cell? ⟨g3, 0, none⟩ = some (.slice av l.length cap) := by rw [Lib.cell_of_heap ((hI.block g3 (by have := HLT.out; omega)).trans H3.out)]; rfl
    match n, ho with
    | 0, ho =>
      obtain rfl := (Option.some.inj ho).symm
      exact ⟨rfl, wp_load_row 24 (.tmp 2) rfl g2 t2 24 S (0, 0) _ ((hI.block g2 (by have := HLT.out; omega)).trans H2.out) Try.underlying24 rfl HRW.out.info ⟨_, rfl, rfl, Below.refl _ _⟩⟩
    | 1, ho =>
      obtain rfl := (Option.some.inj ho).symm
      have d8 : a.eval (.tmp 8) = .agg S := hdep _ (Array.mem_of_getElem? (i := 0) rfl) rfl _ _ rfl rfl
      exact ⟨rfl, QT.wp_enter (f := 19) (args := #[.agg S]) (by simp [go_sem, QT.nf d8]) (HL.out wz (HSW.out wz hI)) fun w' hb => ⟨_, rfl, rfl, hb⟩⟩
    | 2, ho =>
      obtain rfl := (Option.some.inj ho).symm
      exact ⟨rfl, QT.wp_value (v := .slice av l.length cap) (by simp [go_sem, QT.nf t3, c3]) ⟨_, rfl, rfl, Below.refl _ _⟩⟩
    | 3, ho =>
      obtain rfl := (Option.some.inj ho).symm
      have d10 : a.eval (.tmp 10) = .slice av l.length cap := hdep _ (Array.mem_of_getElem? (i := 0) rfl) rfl _ _ rfl rfl
      exact ⟨rfl, QT.wp_value (v := .int .i64 (l.length : Int)) (by simp [go_sem, QT.nf d10]) ⟨_, rfl, rfl, Below.refl _ _⟩⟩
    | 4, ho =>
      obtain rfl := (Option.some.inj ho).symm
      have d9 : a.eval (.tmp 9) = .int .i64 (l.length : Int) := hdep _ (Array.mem_of_getElem? (i := 0) rfl) rfl _ _ rfl rfl
      have d11 : a.eval (.tmp 11) = .int .i64 (l.length : Int) := hdep _ (Array.mem_of_getElem? (i := 1) rfl) rfl _ _ rfl rfl
      exact ⟨rfl, QT.wp_value (v := .bool false) (by simp [go_sem, QT.nf d9, QT.nf d11]) ⟨_, rfl, rfl, Below.refl _ _⟩⟩
    | n + 5, ho => simp at ho
  · have f0 : a.eval (.tmp 8) = .agg S := hf 0 _ _ rfl rfl
    have f1 : a.eval (.tmp 9) = .int .i64 (l.length : Int) := hf 1 _ _ rfl rfl
    have f2 : a.eval (.tmp 10) = .slice av l.length cap := hf 2 _ _ rfl rfl
    have f3 : a.eval (.tmp 11) = .int .i64 (l.length : Int) := hf 3 _ _ rfl rfl
    have f4 : a.eval (.tmp 12) = .bool false := hf 4 _ _ rfl rfl
    have ha := hag.puts [(8, .agg S), (9, .int .i64 (l.length : Int)), (10, .slice av l.length cap), (11, .int .i64 (l.length : Int)), (12, .bool false)] rfl (by simp) (by simp only [List.forall_mem_cons, List.not_mem_nil, false_implies, implies_true, and_true]; exact ⟨f0, f1, f2, f3, f4⟩)
    subst ha
    clear hag hf f0 f1 f2 f3 f4
    simp only [List.foldl_cons, List.foldl_nil, Act.put, List.setIfInBounds_toArray, List.set_cons_succ, List.set_cons_zero]
    rename World => w7
    have H27 := Lib.hid ((hI.block g2 (by have := HLT.out; omega)).trans H2.out)
    have H37 := Lib.hid ((hI.block g3 (by have := HLT.out; omega)).trans H3.out)
    have H47 := Lib.hid ((hI.block g4 (by have := HLT.out; omega)).trans H4.out)
    have HB7 := Lib.hid (HBW.out.trans (hI.mono (by have := HLT.out; omega)))
    have HL7 := Lib.hid (show g2 < g3 ∧ g3 < g4 ∧ g4 < w7.heap.size by have := HLT.out; have := hI.size; omega)
    clear hI H2 H3 H4 HBW HLT HSW
    go_upto_region 4 with (fail)
    have hb8 : Below w7.heap.size w7 (w7.alloc (.cells #[.int .i64 0] 3)) := (Below.refl _ _).alloc (Nat.le_refl _) _
    have h58 := heap_alloc_new w7 (.cells #[.int .i64 0] 3)
    have hs8 : (w7.alloc (.cells #[.int .i64 0] 3)).heap.size = w7.heap.size + 1 := by simp
    generalize w7.alloc (.cells #[.int .i64 0] 3) = w8 at hb8 h58 hs8 ⊢
    obtain ⟨g5, hg5⟩ : ∃ g, w7.heap.size = g := ⟨_, rfl⟩
    rw [hg5] at h58 hs8 hb8 HL7
    rw [hg5]
    have H28 := Lib.hid ((hb8.block g2 (by have := HL7.out; omega)).trans H27.out)
    have H38 := Lib.hid ((hb8.block g3 (by have := HL7.out; omega)).trans H37.out)
    have H48 := Lib.hid ((hb8.block g4 (by have := HL7.out; omega)).trans H47.out)
    have H58 := Lib.hid h58
    have HB8 := Lib.hid (HB7.out.trans (hb8.mono (by have := HL7.out; omega)))
    have HL8 := Lib.hid (show g2 < g3 ∧ g3 < g4 ∧ g4 < g5 ∧ g5 < w8.heap.size by have := HL7.out; omega)
    have HS8 := Lib.hid (show ShelfAt w.heap.size w8 S l from HS.out.below (by rw [HGE.out]; exact HB8.out) (Nat.le_refl _))
    have HC := Lib.hid (HA.out w.heap.size w8 HS8.out (by rw [HGE.out]; have := HL8.out; omega))
    clear hb8 h58 hs8 hg5 H27 H37 H47 HB7 HL7 HA
    go_wp2_with (refine wpList_load_row rfl 24 (.tmp 2) rfl g2 rfl 24 S (0, 0) _ H28.out Try.underlying24 rfl HRW.out.info ?_)
    refine HC.out.mono ?_
    rintro e w9 ⟨f, lb, rfl, hb9, heg, hseq⟩
    have H29 := Lib.hid ((hb9.block g2 (by have := HL8.out; omega)).trans H28.out)
    have H39 := Lib.hid ((hb9.block g3 (by have := HL8.out; omega)).trans H38.out)
    have H49 := Lib.hid ((hb9.block g4 (by have := HL8.out; omega)).trans H48.out)
    have H59 := Lib.hid ((hb9.block g5 (by have := HL8.out; omega)).trans H58.out)
    have HB9 := Lib.hid (HB8.out.trans (hb9.mono (by have := HL8.out; omega)))
    have HL9 := Lib.hid (show g2 < g3 ∧ g3 < g4 ∧ g4 < g5 ∧ g5 < w8.heap.size ∧ w8.heap.size ≤ w9.heap.size by have := HL8.out; have := hb9.size; omega)
    have HEG := Lib.hid heg
    have HSQ := Lib.hid hseq
    clear hb9 heg hseq H28 H38 H48 H58 HB8 HL8 HC HS8
    go_wp2_with fail
    refine (wpIn_wide (n := 4)).1 ?_
    have h0 : IsI w S l (.slice av l.length cap) g2 g3 g4 g5 [] w9 := ⟨List.nil_prefix, H29.out, H39.out, H49.out, H59.out, by rw [HGE.out]; exact HB9.out⟩
    refine wpIn_rangeFunc_ownF rfl (by decide) (gf := f) (lb := lb) rfl trivial HEG.out (HSQ.out (4 - 1)) KeepC.trans (fun W l o o' _ h1 h2 _ => KeepC.putObj W l o o' h1 h2) (Below.refl _ _) (fun _ => rfl)
      (IsI w S l (.slice av l.length cap) g2 g3 g4 g5) (fun c pre _ => c = .ret ∧ ¬ pre <+: l) (IsI.own (by rw [HGE.out]; have := HL9.out; omega)) (fun c _ _ _ _ h _ _ => h) h0
      (fun x => { tmps := #[.agg S, .slice av l.length cap, .pointer (some ⟨g2, 0, none⟩), .pointer (some ⟨g3, 0, none⟩), .pointer (some ⟨g4, 0, none⟩), .pointer (some ⟨g5, 0, none⟩), .string x.1, .int .u64 x.2, .agg S, .int .i64 (l.length : Int), .slice av l.length cap, .int .i64 (l.length : Int), .bool false, .agg S, .func (.func f) #[] lb, .string x.1, .int .u64 x.2, undef, undef, undef, undef, undef, undef, undef, undef, undef, undef, undef, undef, undef, undef, undef, undef, undef, undef, undef, undef, undef, undef, undef, undef, undef, undef, undef, undef, undef, undef, undef, undef, undef, undef, undef], defers := [] }) ?assign ?body ?done ?stop
    case assign =>
      intro l0 x W K hK
      unfold encT
      gi_wp2
      exact hK
    case body =>
      rintro l0 pre x W hi hlen
      have hx := List.getElem?_eq_getElem hlen
      obtain ⟨y, hyy⟩ : ∃ y, l[pre.length] = y := ⟨_, rfl⟩
      rw [hyy] at hx
      obtain ⟨g, o, cap', hav, _, hr⟩ := (HM.out.kept hi.below).some (by omega)
      injection hav with hav1 _ hav2
      subst hav1 hav2
      have hkey := thing_key hr hx
      have hval := thing_val hr hx
      have c5 : W.cell? ⟨g5, 0, none⟩ = some (.int .i64 (pre.length : Int)) := by rw [Lib.cell_of_heap hi.at_]; rfl
      have f5 : W.frozen? ⟨g5, 0, none⟩ = false := by simp [World.frozen?, hi.at_]
      have c3 : W.cell? ⟨g3, 0, none⟩ = some (.slice (some ⟨g, o, none⟩) l.length cap) := by rw [Lib.cell_of_heap hi.list]; rfl
      have c4 : W.cell? ⟨g4, 0, none⟩ = some (.bool false) := by rw [Lib.cell_of_heap hi.ans]; rfl
      have f4 : W.frozen? ⟨g4, 0, none⟩ = false := by simp [World.frozen?, hi.ans]
      have HSTEP := Lib.hid (fun (e : x = y) => hi.step (x := x) (by rw [e]; exact hx) (by rw [HGE.out]; have := HL9.out; omega) ⟨HL9.out.1, HL9.out.2.1, HL9.out.2.2.1⟩)
      have HNOT := Lib.hid (fun (e : x ≠ y) => prefix_not hx e)
      have HKC := Lib.hid (fun v => @keepC_step w.heap.size w8.heap.size W g5 v (by rw [HGE.out]; have := HL9.out; omega) HL9.out.2.2.2.1 _ _ _ hi.at_)
      have hne : ¬ (pre.length : Int) = (l.length : Int) := by omega
      have hlt : (pre.length : Int) < (l.length : Int) := by omega
      obtain ⟨i, hii⟩ : ∃ i, pre.length = i := ⟨_, rfl⟩
      rw [hii] at hkey hval c5 HSTEP hne hlt
      have hnb : ((i : Int) == (l.length : Int)) = false := by rw [beq_eq_false_iff_ne]; exact hne
      clear hx hyy hr hi hlen hii
      by_cases hk : y.1 = x.1
      · by_cases hz : y.2 = x.2
        · obtain rfl : x = y := Prod.ext hk.symm hz.symm
          have HST := Lib.hid (HSTEP.out rfl)
          clear HSTEP HNOT hk hz
          gi_wp2
          exact ⟨KeepsOthers.setCell _ _ _, HKC.out _, HST.out⟩
        · have hn := HNOT.out (fun e => hz (by rw [e]))
          have hzi : ¬ (y.2 : Int) = (x.2 : Int) := by omega
          have hzb : ((y.2 : Int) == (x.2 : Int)) = false := by rw [beq_eq_false_iff_ne]; exact hzi
          have HN := Lib.hid hn
          rw [hk] at hkey
          clear HSTEP HNOT hk hz hn
          gi_wp2
          exact ⟨KeepsOthers.setCell _ _ _, rfl, HN.out⟩
      · have hn := HNOT.out (fun e => hk (by rw [e]))
        have hkb : (y.1.toList == x.1.toList) = false := by rw [same_eq]; exact decide_eq_false hk
        have HN := Lib.hid hn
        clear HSTEP HNOT hn
        gi_wp2
        exact ⟨KeepsOthers.setCell _ _ _, rfl, HN.out⟩
    case done =>
      intro D ys W hD hys hi hK
      have HD := Lib.hid (show w.heap.size ≤ D by rw [HGE.out]; have := HL9.out; omega)
      rw [hys] at hi
      have H2 := Lib.hid hi.shelf
      have H3 := Lib.hid hi.list
      have H4 := Lib.hid hi.ans
      have H5 := Lib.hid hi.at_
      have HBW := Lib.hid hi.below
      have HK := Lib.hid hK
      have HLW := Lib.hid (show g2 < W.heap.size ∧ g3 < W.heap.size ∧ g4 < W.heap.size ∧ g5 < W.heap.size from ⟨(Array.getElem?_eq_some_iff.1 hi.shelf).1, (Array.getElem?_eq_some_iff.1 hi.list).1, (Array.getElem?_eq_some_iff.1 hi.ans).1, (Array.getElem?_eq_some_iff.1 hi.at_).1⟩)
      have HSW := Lib.hid (fun (w' : World) (h : Below W.heap.size W w') => HSB.out w' (by rw [← HGE.out]; exact hi.below.trans (h.mono hi.below.size)))
      clear hys hi hK
      go_upto_region 10 with (fail)
      refine QT.wp_region_facts_tail 11 (by kernel_rfl) (fun w' => Below W.heap.size W w') (fun n v w' => (([.val (.int .i64 (l.length : Int)), .val (.slice av l.length cap), .val (.int .i64 (l.length : Int)), .val (.bool true), .val (.bool true), .val (.agg S), .val (.int .i64 (l.length : Int)), .val (.slice av l.length cap), .val (.int .i64 (l.length : Int)), .val (.bool true), .val (.bool true)] : List FactV).getD n (.val undef) : FactV).holds v w') (by kernel_rfl) (by kernel_rfl) (Below.refl _ _).drew (fun w1 w2 h1 hb => h1.trans (hb.mono h1.size)) (fun n v w1 w2 h hb => FactV.kept _ v w1 w2 h hb) (fun n o hn ho a wz hI hag hdep => ?_) (fun a wz hI hag hf => ?_)
      · have t2 : a.eval (.tmp 2) = .pointer (some ⟨g2, 0, none⟩) := hag.old 2 _ (by kernel_rfl) rfl
        have t3 : a.eval (.tmp 3) = .pointer (some ⟨g3, 0, none⟩) := hag.old 3 _ (by kernel_rfl) rfl
        have t4 : a.eval (.tmp 4) = .pointer (some ⟨g4, 0, none⟩) := hag.old 4 _ (by kernel_rfl) rfl
        have t5 : a.eval (.tmp 5) = .pointer (some ⟨g5, 0, none⟩) := hag.old 5 _ (by kernel_rfl) rfl
        have c3 : wz.cell? ⟨g3, 0, none⟩ = some (.slice av l.length cap) := by rw [Lib.cell_of_heap ((hI.block g3 (by have := HLW.out; omega)).trans H3.out)]; rfl
        have c5 : wz.cell? ⟨g5, 0, none⟩ = some (.int .i64 (l.length : Int)) := by rw [Lib.cell_of_heap ((hI.block g5 (by have := HLW.out; omega)).trans H5.out)]; rfl
        match n, ho with
        | 0, ho =>
          obtain rfl := (Option.some.inj ho).symm
          exact ⟨rfl, QT.wp_value (v := .int .i64 (l.length : Int)) (by simp [go_sem, QT.nf t5, c5]) ⟨_, rfl, rfl, Below.refl _ _⟩⟩
        | 1, ho =>
          obtain rfl := (Option.some.inj ho).symm
          exact ⟨rfl, QT.wp_value (v := .slice av l.length cap) (by simp [go_sem, QT.nf t3, c3]) ⟨_, rfl, rfl, Below.refl _ _⟩⟩
        | 2, ho =>
          obtain rfl := (Option.some.inj ho).symm
          have d42 : a.eval (.tmp 42) = .slice av l.length cap := hdep _ (Array.mem_of_getElem? (i := 0) rfl) rfl _ _ rfl rfl
          exact ⟨rfl, QT.wp_value (v := .int .i64 (l.length : Int)) (by simp [go_sem, QT.nf d42]) ⟨_, rfl, rfl, Below.refl _ _⟩⟩
        | 3, ho =>
          obtain rfl := (Option.some.inj ho).symm
          have d41 : a.eval (.tmp 41) = .int .i64 (l.length : Int) := hdep _ (Array.mem_of_getElem? (i := 0) rfl) rfl _ _ rfl rfl
          have d43 : a.eval (.tmp 43) = .int .i64 (l.length : Int) := hdep _ (Array.mem_of_getElem? (i := 1) rfl) rfl _ _ rfl rfl
          exact ⟨rfl, QT.wp_value (v := .bool true) (by simp [go_sem, QT.nf d41, QT.nf d43]) ⟨_, rfl, rfl, Below.refl _ _⟩⟩
        | 4, ho =>
          obtain rfl := (Option.some.inj ho).symm
          have d44 : a.eval (.tmp 44) = .bool true := hdep _ (Array.mem_of_getElem? (i := 0) rfl) rfl _ _ rfl rfl
          exact ⟨rfl, QT.wp_value (BigFrame.run_move (.tmp 44) rfl wz) ⟨_, rfl, d44, Below.refl _ _⟩⟩
        | 5, ho =>
          obtain rfl := (Option.some.inj ho).symm
          have d45 : a.eval (.tmp 45) = .bool true := hdep _ (Array.mem_of_getElem? (i := 0) rfl) rfl _ _ rfl rfl
          exact ⟨QT.wanted_of rfl rfl rfl d45, wp_load_row 24 (.tmp 2) rfl g2 t2 24 S (0, 0) _ ((hI.block g2 (by have := HLW.out; omega)).trans H2.out) Try.underlying24 rfl HRW.out.info ⟨_, rfl, rfl, Below.refl _ _⟩⟩
        | 6, ho =>
          obtain rfl := (Option.some.inj ho).symm
          have d46 : a.eval (.tmp 46) = .agg S := hdep _ (Array.mem_of_getElem? (i := 0) rfl) rfl _ _ rfl rfl
          have d45 : a.eval (.tmp 45) = .bool true := hdep _ (Array.mem_of_getElem? (i := 2) rfl) rfl _ _ rfl rfl
          exact ⟨QT.wanted_of rfl rfl rfl d45, QT.wp_enter (f := 19) (args := #[.agg S]) (by simp [go_sem, QT.nf d46]) (HL.out wz (HSW.out wz hI)) fun w' hb => ⟨_, rfl, rfl, hb⟩⟩
        | 7, ho =>
          obtain rfl := (Option.some.inj ho).symm
          have d45 : a.eval (.tmp 45) = .bool true := hdep _ (Array.mem_of_getElem? (i := 0) rfl) rfl _ _ rfl rfl
          exact ⟨QT.wanted_of rfl rfl rfl d45, QT.wp_value (v := .slice av l.length cap) (by simp [go_sem, QT.nf t3, c3]) ⟨_, rfl, rfl, Below.refl _ _⟩⟩
        | 8, ho =>
          obtain rfl := (Option.some.inj ho).symm
          have d48 : a.eval (.tmp 48) = .slice av l.length cap := hdep _ (Array.mem_of_getElem? (i := 0) rfl) rfl _ _ rfl rfl
          have d45 : a.eval (.tmp 45) = .bool true := hdep _ (Array.mem_of_getElem? (i := 1) rfl) rfl _ _ rfl rfl
          exact ⟨QT.wanted_of rfl rfl rfl d45, QT.wp_value (v := .int .i64 (l.length : Int)) (by simp [go_sem, QT.nf d48]) ⟨_, rfl, rfl, Below.refl _ _⟩⟩
        | 9, ho =>
          obtain rfl := (Option.some.inj ho).symm
          have d47 : a.eval (.tmp 47) = .int .i64 (l.length : Int) := hdep _ (Array.mem_of_getElem? (i := 0) rfl) rfl _ _ rfl rfl
          have d49 : a.eval (.tmp 49) = .int .i64 (l.length : Int) := hdep _ (Array.mem_of_getElem? (i := 1) rfl) rfl _ _ rfl rfl
          have d45 : a.eval (.tmp 45) = .bool true := hdep _ (Array.mem_of_getElem? (i := 2) rfl) rfl _ _ rfl rfl
          exact ⟨QT.wanted_of rfl rfl rfl d45, QT.wp_value (v := .bool true) (by simp [go_sem, QT.nf d47, QT.nf d49]) ⟨_, rfl, rfl, Below.refl _ _⟩⟩
        | 10, ho =>
          obtain rfl := (Option.some.inj ho).symm
          have d45 : a.eval (.tmp 45) = .bool true := hdep _ (Array.mem_of_getElem? (i := 0) rfl) rfl _ _ rfl rfl
          have d50 : a.eval (.tmp 50) = .bool true := hdep _ (Array.mem_of_getElem? (i := 1) rfl) rfl _ _ rfl rfl
          exact ⟨rfl, QT.wp_value (v := .bool true) (by simp [go_sem, QT.nf d45, QT.nf d50]) ⟨_, rfl, rfl, Below.refl _ _⟩⟩
        | n + 11, ho => omega
      · have f0 : a.eval (.tmp 41) = .int .i64 (l.length : Int) := hf 0 _ _ (by omega) rfl rfl
        have f1 : a.eval (.tmp 42) = .slice av l.length cap := hf 1 _ _ (by omega) rfl rfl
        have f2 : a.eval (.tmp 43) = .int .i64 (l.length : Int) := hf 2 _ _ (by omega) rfl rfl
        have f3 : a.eval (.tmp 44) = .bool true := hf 3 _ _ (by omega) rfl rfl
        have f4 : a.eval (.tmp 45) = .bool true := hf 4 _ _ (by omega) rfl rfl
        have f5 : a.eval (.tmp 46) = .agg S := hf 5 _ _ (by omega) rfl rfl
        have f6 : a.eval (.tmp 47) = .int .i64 (l.length : Int) := hf 6 _ _ (by omega) rfl rfl
        have f7 : a.eval (.tmp 48) = .slice av l.length cap := hf 7 _ _ (by omega) rfl rfl
        have f8 : a.eval (.tmp 49) = .int .i64 (l.length : Int) := hf 8 _ _ (by omega) rfl rfl
        have f9 : a.eval (.tmp 50) = .bool true := hf 9 _ _ (by omega) rfl rfl
        have f10 : a.eval (.tmp 51) = .bool true := hf 10 _ _ (by omega) rfl rfl
        have ha := hag.puts [(41, .int .i64 (l.length : Int)), (42, .slice av l.length cap), (43, .int .i64 (l.length : Int)), (44, .bool true), (45, .bool true), (46, .agg S), (47, .int .i64 (l.length : Int)), (48, .slice av l.length cap), (49, .int .i64 (l.length : Int)), (50, .bool true), (51, .bool true)] rfl (by simp) (by simp only [List.forall_mem_cons, List.not_mem_nil, false_implies, implies_true, and_true]; exact ⟨f0, f1, f2, f3, f4, f5, f6, f7, f8, f9, f10⟩)
        subst ha
        clear hag hf f0 f1 f2 f3 f4 f5 f6 f7 f8 f9 f10
        simp only [List.foldl_cons, List.foldl_nil, Act.put, List.drop_succ_cons, List.drop_zero, List.setIfInBounds_toArray, List.set_cons_succ, List.set_cons_zero]
        rename World => w10
        have c4 : w10.cell? ⟨g4, 0, none⟩ = some (.bool false) := by rw [Lib.cell_of_heap ((hI.block g4 (by have := HLW.out; omega)).trans H4.out)]; rfl
        have f4 : w10.frozen? ⟨g4, 0, none⟩ = false := by simp [World.frozen?, (hI.block g4 (by have := HLW.out; omega)).trans H4.out]
        have hkD := (hI.block D (Array.getElem?_eq_some_iff.1 HK.out).1).trans HK.out
        have HKD := Lib.hid hkD
        have HB10 := Lib.hid (HBW.out.trans (hI.mono HBW.out.size))
        clear hI hkD
        go_wp2_with fail
        have hK2 := (KeepsOthers.setCell w10 ⟨g4, 0, none⟩ (.bool true)).same D _ HKD.out rfl
        have c4' : (w10.setCell ⟨g4, 0, none⟩ (.bool true)).cell? ⟨g4, 0, none⟩ = some (.bool true) := World.cell?_setCell_same' _ _ _ (by rw [c4]; rfl)
        have c4'' := cell_kept c4' (grownBy_putObj' _ D (.deferred none)) (fun r e => by cases e; exact ⟨_, hK2, rfl⟩)
        have hB11 : Below w.heap.size w (w10.setCell ⟨g4, 0, none⟩ (.bool true)) := HB10.out.setCell (p := ⟨g4, 0, none⟩) (show w.heap.size ≤ g4 by rw [HGE.out]; have := HL9.out; omega) _
        have hB12 := hB11.trans (belowK_b (w := w) (Nat.le_refl _) _ D _ (.deferred none) HD.out hK2 rfl rfl)
        generalize w10.setCell ⟨g4, 0, none⟩ (.bool true) = w11 at hK2 c4' c4'' hB11 hB12 ⊢
        refine ⟨by simp, .inl ⟨_, _, rfl, run_takeDeferred hK2, ?_⟩⟩
        refine ⟨.bool true, ?_, rfl, hB12⟩
        simp [results, Try.results20, go_sem, c4'']
    case stop =>
      rintro D c pre W _ hsp ⟨_, hx⟩ _
      exact absurd hsp hx

end Go.Proofs.Ytpepijoppgbbfaa.Shf
