/- shelf: ShelfEarly. -/
import Derived.Test.YtpepijoppgbbfaaSfL2
namespace Go.Proofs.Ytpepijoppgbbfaa.Shf
open Go.RowKit Go.Shelf Go.Proofs.Ytpepijoppgbbfaa.Gr
attribute [local go_sem] Oper.semAt_some

/-- Texts. -/
def KS : Kind Try.prog ByteArray where
  T := 9
  size := 1
  bytes := 16
  zero := .string ⟨#[]⟩
  enc x := [.string x]
  info := by kernel_rfl
  zsize := rfl
  pos := by decide
  len _ := rfl
  one x u hu := by
    simp at hu
    subst hu
    rfl
theorem text_cell {w : World} {l : List ByteArray} {g o : Nat} (hr : w.rangeAt g o (KS.flat l)) {i : Nat} {x : ByteArray} (hi : l[i]? = some x) : w.cell? ⟨g, o + i, none⟩ = some (.string x) := by
  have h := range_thing hr hi (j := 0) (u := .string x) rfl
  have he : i * KS.size + 0 = i := Nat.mul_one i
  rw [he] at h
  exact h

theorem wpList_store_val {P : Program} {ops : Array Oper} {rest : List Oper} {o : Oper} {a : Act} {w : World} {Q : Exit → Act → World → Prop} (hgd : o.guard = none) (ty : TypeId) (x y : Operand) (ho : o.op = .store ty x y)
    (g : Nat) (v : Value) (hx : a.eval x = .pointer (some ⟨g, 0, none⟩)) (hy : a.eval y = v) (h1 : v.oneCell' = true)
    (t : TypeId) (old : Value) (hg : w.heap[g]? = some (.cells #[old] t (0, 0))) (hi : (P.info? ty).map (·.size) = some 1)
    (h : wpList P ops Q rest (a.put o.dst undef) (w.setRow g #[v])) : wpList P ops Q (o :: rest) a w :=
  wpList_store_one hgd ty x y ho g hx (by rw [hy]; exact h1) t old hg hi (by rw [hy]; exact h)

/-- Behind ranges over functions: what they collected is let go, and a result in a cell is told. -/
theorem leaves_cell {F : Fence} {n : Nat} {P : Program} {fn : Func} {tmps : Array Value} {B : Nat} {w0 : World} {p : Addr} {v : Value} (hres : ∀ w, w.cell? p = some v → (results fn tmps).run P w = .ok v w) :
    ∀ (ds : List Nat) (w : World), ds.Nodup → (∀ D ∈ ds, B ≤ D ∧ w.heap[D]? = some (.deferred (some []))) → B ≤ w0.heap.size → Below B w0 w → w.cell? p = some v →
      LeavesInM F n P fn tmps (fun e w' => e = .returned v ∧ Below B w0 w') (ds.map fun D => { target := .collected D, args := #[] }) .returning w
  | [], w, _, _, _, hb, hc => ⟨v, hres w hc, rfl, hb⟩
  | D :: ds, w, hnd, hD, hB, hb, hc => by
    obtain ⟨hn1, hn2⟩ := List.nodup_cons.1 hnd
    obtain ⟨h1, h2⟩ := hD D (List.mem_cons_self ..)
    refine ⟨by simp, .inl ⟨D, _, rfl, run_takeDeferred h2, ?_⟩⟩
    refine leaves_cell hres ds _ hn2 (fun E hE => ?_) hB (hb.trans ((Below.refl B w).grown (grownBy_putObj' w D _) (Nat.le_trans hB hb.size) (fun k e => by cases e; exact h1))) (cell_kept hc (grownBy_putObj' _ D _) (fun r e => by cases e; exact ⟨_, h2, rfl⟩))
    obtain ⟨h3, h4⟩ := hD E (List.mem_cons_of_mem _ hE)
    refine ⟨h3, ?_⟩
    rw [World.putObj_heap_other (fun e => hn1 (by rw [← e]; exact hE))]
    exact h4

/-- What is so between two keys of ShelfEarly. -/
structure EarlyI (w : World) (g3 g4 g5 g6 : Nat) (z : Int) (l : List Th) (S : Array Value) (v : Value) (W : World) : Prop where
  at_ : W.heap[g3]? = some (.cells #[.int .i64 z] 3 (0, 0))
  ans : W.heap[g4]? = some (.cells #[.bool false] 4 (0, 0))
  shelf : W.heap[g5]? = some (.cells S 24 (0, 0))
  list : W.heap[g6]? = some (.cells #[v] 37 (0, 0))
  things : ShelfAt W.heap.size W S l
  reads : KT.At W v l
  far : ∀ j, v.ownBlock = some j → j ≠ g5 ∧ j ≠ g6
  below : Below w.heap.size w W
theorem EarlyI.kept {w : World} {g3 g4 g5 g6 : Nat} {z : Int} {l : List Th} {S : Array Value} {v : Value} {W W' : World} (h : EarlyI w g3 g4 g5 g6 z l S v W) (hb : Below W.heap.size W W') : EarlyI w g3 g4 g5 g6 z l S v W' :=
  have lt : ∀ {g : Nat} {cs : Array Value} {t : TypeId} {fr : Nat × Nat}, W.heap[g]? = some (.cells cs t fr) → W'.heap[g]? = some (.cells cs t fr) := fun h => (hb.block _ (Array.getElem?_eq_some_iff.1 h).1).trans h
  ⟨lt h.at_, lt h.ans, lt h.shelf, lt h.list, h.things.below hb hb.size, h.reads.kept hb, h.far, h.below.trans (hb.mono h.below.size)⟩

/-- Behind a range over a function that may be left by a jump out of its block. -/
theorem wp_behind {P : Program} {c : Code} {a : Act} {w : World} {id : Nat} {Q2 : Exit → Act → World → Prop} (R : Nat → Nat → World → Prop)
    (h : c.wpIn Fence.wide 4 P (fun e a' W' => (e = .normal ∨ e = .exit id) ∧ ∃ D m, a' = { a with defers := { target := .collected D, args := #[] } :: a.defers } ∧ R D m W') a w)
    (hk : ∀ D m W', R D m W' → Q2 .normal { a with defers := { target := .collected D, args := #[] } :: a.defers } W') : c.wp P (Exit.inBlock id Q2) a w := by
  refine (wpIn_wide (n := 4)).1 (wpIn_mono h fun e a' W' h => ?_)
  obtain ⟨he, D, m, rfl, hR⟩ := h
  rcases he with rfl | rfl
  · exact hk D m W' hR
  · have := hk D m W' hR
    simpa [Exit.inBlock] using this
/-- What is so between two rounds of the inner range. -/
structure EarI (wa : World) (g9 : Nat) (z : Int) (l : List Th) (pre : List Th) (W : World) : Prop where
  part : pre <+: l
  le : (pre.length : Int) ≤ z
  at_ : W.heap[g9]? = some (.cells #[.int .i64 (pre.length : Int)] 3 (0, 0))
  below : Below wa.heap.size wa W
/-- .. and where it is left. -/
def EarX (wa : World) (g9 : Nat) (z : Int) (l : List Th) (c : Code) (q : List Th) (W : World) : Prop :=
  (c = .exit 4 ∧ ∃ m : Nat, (m : Int) = z ∧ m < l.length ∧ W.heap[g9]? = some (.cells #[.int .i64 (m : Int)] 3 (0, 0)) ∧ Below wa.heap.size wa W) ∨ (c = .ret ∧ ¬ q <+: l)
theorem EarI.own {wa : World} {g9 B : Nat} {z : Int} {l : List Th} (hB : wa.heap.size ≤ B) : OwnFrom B (EarI wa g9 z l) := fun _ _ _ _ h hg hr =>
  ⟨h.part, h.le, cells_grown hg (fun r e => (hr r e).2) h.at_, h.below.grown hg h.below.size (fun k e => Nat.le_trans hB (hr k e).1)⟩
theorem EarX.own {wa : World} {g9 B : Nat} {z : Int} {l : List Th} (c : Code) (hB : wa.heap.size ≤ B) : OwnFrom B (EarX wa g9 z l c) := fun _ _ _ _ h hg hr => by
  rcases h with ⟨hc, m, h1, h2, h3, h4⟩ | h
  · exact Or.inl ⟨hc, m, h1, h2, cells_grown hg (fun r e => (hr r e).2) h3, h4.grown hg h4.size (fun k e => Nat.le_trans hB (hr k e).1)⟩
  · exact Or.inr h
theorem EarI.step {wa : World} {g9 : Nat} {z : Int} {l pre : List Th} {W : World} {x : Th} (h : EarI wa g9 z l pre W) (hx : l[pre.length]? = some x) (hz : (pre.length : Int) < z) (hB : wa.heap.size ≤ g9) :
    EarI wa g9 z l (pre ++ [x]) (W.setCell ⟨g9, 0, none⟩ (.int .i64 ((pre.length : Int) + 1))) := by
  have hb := h.below.setCell (p := ⟨g9, 0, none⟩) hB (.int .i64 ((pre.length : Int) + 1))
  rw [setCell_eq_setRow W g9 0 _ _ _ _ h.at_] at hb ⊢
  refine ⟨prefix_snoc h.part hx, ?_, ?_, hb⟩
  · rw [List.length_append, List.length_singleton]
    omega
  · rw [setRow_heap _ _ _ _ _ _ h.at_]
    simp

theorem EarlyI.step {w : World} {g3 g4 g5 g6 : Nat} {z : Int} {l : List Th} {S : Array Value} {v : Value} {W : World} (h : EarlyI w g3 g4 g5 g6 z l S v W) (hd : g3 < g4 ∧ g4 < g5 ∧ g5 < g6) (hw : w.heap.size ≤ g5)
    {l' : List Th} {S' : Array Value} {v' : Value} (hS : ShelfAt W.heap.size W S' l') (hM : KT.At W v' l') (hf : ∀ j, v'.ownBlock = some j → j ≠ g5 ∧ j ≠ g6) : EarlyI w g3 g4 g5 g6 z l' S' v' ((W.setRow g5 S').setRow g6 #[v']) := by
  have h6 : (W.setRow g5 S').heap[g6]? = some (.cells #[v] 37 (0, 0)) := (setRow_other _ _ _ _ (by omega)).trans h.list
  have hsz : ((W.setRow g5 S').setRow g6 #[v']).heap.size = W.heap.size := by simp [World.setRow]
  refine ⟨?_, ?_, ?_, setRow_heap _ _ _ _ _ _ h6, ?_, at_store (at_store hM fun j hj => (hf j hj).1) fun j hj => (hf j hj).2, hf, below_setRow (below_setRow h.below hw _) (by omega) _⟩
  · rw [setRow_other _ _ _ _ (by omega), setRow_other _ _ _ _ (by omega)]; exact h.at_
  · rw [setRow_other _ _ _ _ (by omega), setRow_other _ _ _ _ (by omega)]; exact h.ans
  · rw [setRow_other _ _ _ _ (by omega)]; exact setRow_heap _ _ _ _ _ _ h.shelf
  · rw [hsz]
    exact (hS.store h.shelf).storeL h6

/-- What an operation leaves. -/
inductive FactB where
  | val (v : Value)
  | shelf (l : List Th)
  | list (B : Nat) (l : List Th)
def FactB.holds : FactB → Value → World → Prop
  | .val v0, v, _ => v = v0
  | .shelf l, v, w => ∃ S, v = .agg S ∧ ShelfAt w.heap.size w S l
  | .list B l, v, w => KT.At w v l ∧ ∀ j, v.ownBlock = some j → B ≤ j
theorem FactB.kept (f : FactB) (v : Value) (w w' : World) (h : f.holds v w) (hb : Below w.heap.size w w') : f.holds v w' := by
  cases f with
  | val v0 => exact h
  | shelf l =>
    obtain ⟨S, hv, hS⟩ := h
    exact ⟨S, hv, hS.below hb hb.size⟩
  | list B l => exact ⟨h.1.kept hb, h.2⟩
theorem code_PutB (S : Array Value) (l : List Th) (k : ByteArray) (z : Nat) (w : World) (hS : ShelfAt w.heap.size w S l) (hl : l.length ≤ 10000000000) :
    Calls Try.prog 9 #[.agg S, .string k, .int .u64 z] w fun e w' => ∃ v, e = .returned v ∧ (FactB.shelf (putL l k z)).holds v w' ∧ Below w.heap.size w w' :=
  (code_PutS S l k z w hS hl).mono fun _ _ ⟨S', he, h1, h2⟩ => ⟨_, he, ⟨S', rfl, h1⟩, h2⟩
theorem ref_PutB (v : Value) (l : List Th) (k : ByteArray) (z : Nat) (B : Nat) (w : World) (hT : KT.At w v l) (hl : l.length ≤ 10000000000) (hB : B ≤ w.heap.size) :
    Calls Try.prog 15 #[v, .string k, .int .u64 z] w fun e w' => ∃ v, e = .returned v ∧ (FactB.list B (putL l k z)).holds v w' ∧ Below w.heap.size w w' :=
  (ref_PutL v l k z w hT hl).mono fun _ _ ⟨_, he, h1, h2, h3⟩ => ⟨_, he, ⟨h1, fun j hj => Nat.le_trans hB (h2 j hj)⟩, h3⟩

set_option maxRecDepth 100000 in
set_option maxHeartbeats 12800000 in
theorem early_any (v0 : Value) (L : List ByteArray) (z : Int) (w : World) (hT : KS.At w v0 L) (hl : L.length ≤ 9223372036854775807) :
    Calls Try.prog 7 #[v0, .int .i64 z] w fun e w' => e = .returned (.bool true) ∧ Below w.heap.size w w' := by
  have HN := Lib.hid (fun w => code_NewS w)
  have HWK := Lib.hid works_any
  obtain ⟨av, cap, rfl, hcap⟩ := hT.form
  have HT := Lib.hid hT
  clear hT
  refine (callsIn_wide (n := 4)).1 (callsIn_of_wp_marks Try.func7 rfl trivial ?_ rfl)
  refine wpIn_wide.2 ?_
  simp only [Try.ntmps7, List.size_toArray, List.length_cons, List.length_nil, Nat.reduceAdd, Nat.reduceSub, Array.replicate_succ, Array.replicate_zero, List.push_toArray, List.append_toArray, List.nil_append, List.cons_append]
  go_upto_region 1 with (fail)
  have hs0 : ((w.alloc (.cells #[.int .i64 z] 3)).alloc (.cells #[.bool false] 4)).heap.size = w.heap.size + 2 := by simp
  have h3 := heap_alloc2_old w (.cells #[.int .i64 z] 3) (.cells #[.bool false] 4)
  have h4 := heap_alloc2_new w (.cells #[.int .i64 z] 3) (.cells #[.bool false] 4)
  have hb0 : Below w.heap.size w ((w.alloc (.cells #[.int .i64 z] 3)).alloc (.cells #[.bool false] 4)) := ((Below.refl _ _).alloc (Nat.le_refl _) _).alloc (by simp) _
  generalize ((w.alloc (.cells #[.int .i64 z] 3)).alloc (.cells #[.bool false] 4)) = W0 at hs0 h3 h4 hb0 ⊢
  obtain ⟨g3, hg3⟩ : ∃ x, w.heap.size = x := ⟨_, rfl⟩
  obtain ⟨g4, hg4⟩ : ∃ x, g3 + 1 = x := ⟨_, rfl⟩
  have HB0 := Lib.hid hb0
  rw [hg3] at h3 h4 hs0
  rw [hg4] at h4
  rw [hg3, hg4]
  have HG := Lib.hid (show w.heap.size ≤ g3 ∧ g3 < g4 ∧ g4 < W0.heap.size by omega)
  have H3 := Lib.hid h3
  have H4 := Lib.hid h4
  clear hs0 h3 h4 hb0 hg3 hg4
  go_wp2_with fail
  refine (HWK.out _).mono ?_
  rintro e w1 ⟨rfl, hb1⟩
  have HB1 := Lib.hid (HB0.out.trans (hb1.mono HB0.out.size))
  have H31 := Lib.hid ((hb1.block g3 (by have := HG.out; omega)).trans H3.out)
  have H41 := Lib.hid ((hb1.block g4 (by have := HG.out; omega)).trans H4.out)
  have HG1 := Lib.hid (show w.heap.size ≤ g3 ∧ g3 < g4 ∧ g4 < w1.heap.size by have := HG.out; have := hb1.size; omega)
  have c3 : w1.cell? ⟨g3, 0, none⟩ = some (.int .i64 z) := by rw [Lib.cell_of_heap H31.out]; rfl
  have c4 : w1.cell? ⟨g4, 0, none⟩ = some (.bool false) := by rw [Lib.cell_of_heap H41.out]; rfl
  have f4 : w1.frozen? ⟨g4, 0, none⟩ = false := by simp [World.frozen?, H41.out]
  clear hb1 HB0 H3 H4 HG
  by_cases q1 : L.length ≤ 100
  · have q1i : ¬ (100 < (L.length : Int)) := by omega
    by_cases q2 : 0 ≤ z
    · have q2i : ¬ (z < 0) := by omega
      by_cases q3 : z ≤ 200
      · have q3i : ¬ (200 < z) := by omega
        go_wp2_with fail
        refine (HN.out _).mono ?_
        rintro e w2 ⟨S0, rfl, hS0, hb2⟩
        have HR0 := Lib.hid hS0.row
        have HS0 := Lib.hid hS0
        have H32 := Lib.hid ((hb2.block g3 (by have := HG1.out; omega)).trans H31.out)
        have H42 := Lib.hid ((hb2.block g4 (by have := HG1.out; omega)).trans H41.out)
        have HB2 := Lib.hid (HB1.out.trans (hb2.mono HB1.out.size))
        have HG2 := Lib.hid (show w.heap.size ≤ g3 ∧ g3 < g4 ∧ g4 < w2.heap.size by have := HG1.out; have := hb2.size; omega)
        clear hS0 hb2 H31 H41 HG1 HB1 c3 c4 f4 HN HWK
        go_upto_region 6 with (refine wpList_store_row rfl 24 (.tmp 5) (.tmp 25) rfl w2.heap.size S0 rfl rfl 24 zeroS (heap_alloc_new _ _) HR0.out.info HR0.out.size.symm HR0.out.one ?_; rw [World.setRow_alloc_new])
        go_upto_region 7 with (fail)
        have hs4 : ((w2.alloc (.cells S0 24)).alloc (.cells #[.slice none 0 0] 37)).heap.size = w2.heap.size + 2 := by simp
        have h5 := heap_alloc2_old w2 (.cells S0 24) (.cells #[.slice none 0 0] 37)
        have h6 := heap_alloc2_new w2 (.cells S0 24) (.cells #[.slice none 0 0] 37)
        have hb4 : Below w2.heap.size w2 ((w2.alloc (.cells S0 24)).alloc (.cells #[.slice none 0 0] 37)) := ((Below.refl _ _).alloc (Nat.le_refl _) _).alloc (by simp) _
        generalize ((w2.alloc (.cells S0 24)).alloc (.cells #[.slice none 0 0] 37)) = w4 at hs4 h5 h6 hb4 ⊢
        obtain ⟨g5, hg5⟩ : ∃ x, w2.heap.size = x := ⟨_, rfl⟩
        obtain ⟨g6, hg6⟩ : ∃ x, g5 + 1 = x := ⟨_, rfl⟩
        have HE0 := Lib.hid (show EarlyI w g3 g4 g5 g6 z [] S0 (.slice none 0 0) w4 from ⟨(hb4.block g3 (by have := HG2.out; omega)).trans H32.out, (hb4.block g4 (by have := HG2.out; omega)).trans H42.out, by rw [← hg5]; exact h5, by rw [← hg6, ← hg5]; exact h6, HS0.out.below hb4 hb4.size, Kind.At.nil _ _, fun j hj => by simp [Value.ownBlock] at hj, HB2.out.trans (hb4.mono HB2.out.size)⟩)
        rw [hg5] at HG2 hs4
        rw [hg5, hg6]
        have HD := Lib.hid (show w.heap.size ≤ g3 ∧ g3 < g4 ∧ g4 < g5 ∧ g5 < g6 by have := HG2.out; omega)
        clear hs4 h5 h6 hb4 hg5 hg6 HS0 H32 H42 HB2 HG2
        go_wp2_with fail
        go_loopw [28] (fun iv wr => ∃ (i : Nat) (l : List Th) (S : Array Value) (v : Value), i ≤ L.length ∧ l.length ≤ i ∧ iv = .int .i64 i ∧ EarlyI w g3 g4 g5 g6 z l S v wr) (fun iv _ => L.length - (intOf iv).toNat)
        case atStart => exact ⟨0, [], S0, _, Nat.zero_le _, Nat.le_refl _, rfl, HE0.out⟩
        case round =>
          obtain ⟨i, l, S, v, hi, hli, rfl, hE⟩ := hrel
          have HR := Lib.hid hE.things.row
          have HE := Lib.hid hE
          have c4 : wr.cell? ⟨g4, 0, none⟩ = some (.bool false) := by rw [Lib.cell_of_heap hE.ans]; rfl
          have f4 : wr.frozen? ⟨g4, 0, none⟩ = false := by simp [World.frozen?, hE.ans]
          by_cases hlt : i < L.length
          · obtain ⟨g, o, cap', hav, _, hr⟩ := (HT.out.kept hE.below).some (by omega)
            have hx := List.getElem?_eq_getElem hlt
            obtain ⟨x, hxx⟩ : ∃ x, L[i] = x := ⟨_, rfl⟩
            rw [hxx] at hx
            have cx := text_cell hr hx
            injection hav with hav1 _ hav2
            subst hav1 hav2
            have hlti : (i : Int) < (L.length : Int) := by omega
            clear hxx hr hx hE
            by_cases hk : x.size ≤ 1024
            · have hki : ¬ (1024 < (x.size : Int)) := by omega
              obtain ⟨ma, mcap, rfl, hmc⟩ := HE.out.reads.form
              have HEI := Lib.hid (fun (w' : World) (h : Below wr.heap.size wr w') => HE.out.kept h)
              have HLE := Lib.hid (show l.length ≤ 100 by omega)
              have hwi : IntKind.u64.wrap (i : Int) = (i : Int) := IntWalk.u64_in _ ⟨by omega, by omega⟩
              have HLI := Lib.hid hli
              clear c4 f4 hli
              go_upto_region 12 with (fail)
              refine QT.wp_region_facts_tail 10 (by kernel_rfl) (fun w' => Below wr.heap.size wr w') (fun n v w' => (([.val (.agg S), .val (.string x), .val (.int .i64 i), .val (.int .u64 i), .shelf (putL l x i), .val (.slice ma l.length mcap), .val (.string x), .val (.int .i64 i), .val (.int .u64 i), .list wr.heap.size (putL l x i)] : List FactB).getD n (.val undef) : FactB).holds v w') (by kernel_rfl) (by kernel_rfl) (Below.refl _ _).drew (fun w1 w2 h1 hb => h1.trans (hb.mono h1.size)) (fun n v w1 w2 h hb => FactB.kept _ v w1 w2 h hb) (fun n o hn ho a wz hI hag hdep => ?_) (fun a wz hI hag hf => ?_)
              · have t5 : a.eval (.tmp 5) = .pointer (some ⟨g5, 0, none⟩) := hag.old 5 _ (by kernel_rfl) rfl
                have t6 : a.eval (.tmp 6) = .pointer (some ⟨g6, 0, none⟩) := hag.old 6 _ (by kernel_rfl) rfl
                have t7 : a.eval (.tmp 7) = .int .i64 i := hag.old 7 _ (by kernel_rfl) rfl
                have t8 : a.eval (.tmp 8) = .string x := hag.old 8 _ (by kernel_rfl) rfl
                have c6 : wz.cell? ⟨g6, 0, none⟩ = some (.slice ma l.length mcap) := by rw [Lib.cell_of_heap (HEI.out wz hI).list]; rfl
                match n, ho with
                | 0, ho =>
                  obtain rfl := (Option.some.inj ho).symm
                  exact ⟨rfl, wp_load_row 24 (.tmp 5) rfl g5 t5 24 S (0, 0) _ ((HEI.out wz hI).shelf) Try.underlying24 rfl HR.out.info ⟨_, rfl, rfl, Below.refl _ _⟩⟩
                | 1, ho =>
                  obtain rfl := (Option.some.inj ho).symm
                  exact ⟨rfl, QT.wp_value (BigFrame.run_move (.tmp 8) rfl wz) ⟨_, rfl, t8, Below.refl _ _⟩⟩
                | 2, ho =>
                  obtain rfl := (Option.some.inj ho).symm
                  exact ⟨rfl, QT.wp_value (BigFrame.run_move (.tmp 7) rfl wz) ⟨_, rfl, t7, Below.refl _ _⟩⟩
                | 3, ho =>
                  obtain rfl := (Option.some.inj ho).symm
                  have d38 : a.eval (.tmp 38) = .int .i64 i := hdep _ (Array.mem_of_getElem? (i := 0) rfl) rfl _ _ rfl rfl
                  exact ⟨rfl, QT.wp_value (v := .int .u64 i) (by simp [go_sem, QT.nf d38, hwi]) ⟨_, rfl, rfl, Below.refl _ _⟩⟩
                | 4, ho =>
                  obtain rfl := (Option.some.inj ho).symm
                  have d36 : a.eval (.tmp 36) = .agg S := hdep _ (Array.mem_of_getElem? (i := 0) rfl) rfl _ _ rfl rfl
                  have d37 : a.eval (.tmp 37) = .string x := hdep _ (Array.mem_of_getElem? (i := 1) rfl) rfl _ _ rfl rfl
                  have d39 : a.eval (.tmp 39) = .int .u64 i := hdep _ (Array.mem_of_getElem? (i := 2) rfl) rfl _ _ rfl rfl
                  exact ⟨rfl, wp_enter_to (f := 9) (args := #[.agg S, .string x, .int .u64 i]) (R := fun v w' => (.shelf (putL l x i) : FactB).holds v w' ∧ Below wz.heap.size wz w') (by simp [go_sem, QT.nf d36, QT.nf d37, QT.nf d39]) (code_PutB S l x i wz (HEI.out wz hI).things (by have := HLE.out; omega)) fun v w' h => ⟨v, rfl, h.1, h.2⟩⟩
                | 5, ho =>
                  obtain rfl := (Option.some.inj ho).symm
                  exact ⟨rfl, QT.wp_value (v := .slice ma l.length mcap) (by simp [go_sem, QT.nf t6, c6]) ⟨_, rfl, rfl, Below.refl _ _⟩⟩
                | 6, ho =>
                  obtain rfl := (Option.some.inj ho).symm
                  exact ⟨rfl, QT.wp_value (BigFrame.run_move (.tmp 8) rfl wz) ⟨_, rfl, t8, Below.refl _ _⟩⟩
                | 7, ho =>
                  obtain rfl := (Option.some.inj ho).symm
                  exact ⟨rfl, QT.wp_value (BigFrame.run_move (.tmp 7) rfl wz) ⟨_, rfl, t7, Below.refl _ _⟩⟩
                | 8, ho =>
                  obtain rfl := (Option.some.inj ho).symm
                  have d43 : a.eval (.tmp 43) = .int .i64 i := hdep _ (Array.mem_of_getElem? (i := 0) rfl) rfl _ _ rfl rfl
                  exact ⟨rfl, QT.wp_value (v := .int .u64 i) (by simp [go_sem, QT.nf d43, hwi]) ⟨_, rfl, rfl, Below.refl _ _⟩⟩
                | 9, ho =>
                  obtain rfl := (Option.some.inj ho).symm
                  have d41 : a.eval (.tmp 41) = .slice ma l.length mcap := hdep _ (Array.mem_of_getElem? (i := 0) rfl) rfl _ _ rfl rfl
                  have d42 : a.eval (.tmp 42) = .string x := hdep _ (Array.mem_of_getElem? (i := 1) rfl) rfl _ _ rfl rfl
                  have d44 : a.eval (.tmp 44) = .int .u64 i := hdep _ (Array.mem_of_getElem? (i := 2) rfl) rfl _ _ rfl rfl
                  exact ⟨rfl, wp_enter_to (f := 15) (args := #[.slice ma l.length mcap, .string x, .int .u64 i]) (R := fun v w' => (.list wr.heap.size (putL l x i) : FactB).holds v w' ∧ Below wz.heap.size wz w') (by simp [go_sem, QT.nf d41, QT.nf d42, QT.nf d44]) (ref_PutB _ l x i wr.heap.size wz (HEI.out wz hI).reads (by have := HLE.out; omega) hI.size) fun v w' h => ⟨v, rfl, h.1, h.2⟩⟩
                | n + 10, ho => omega
              · have f0 : a.eval (.tmp 36) = .agg S := hf 0 _ _ (by omega) rfl rfl
                have f1 : a.eval (.tmp 37) = .string x := hf 1 _ _ (by omega) rfl rfl
                have f2 : a.eval (.tmp 38) = .int .i64 i := hf 2 _ _ (by omega) rfl rfl
                have f3 : a.eval (.tmp 39) = .int .u64 i := hf 3 _ _ (by omega) rfl rfl
                obtain ⟨u4, f4, y4⟩ := hf 4 _ _ (by omega) rfl rfl
                have f5 : a.eval (.tmp 41) = .slice ma l.length mcap := hf 5 _ _ (by omega) rfl rfl
                have f6 : a.eval (.tmp 42) = .string x := hf 6 _ _ (by omega) rfl rfl
                have f7 : a.eval (.tmp 43) = .int .i64 i := hf 7 _ _ (by omega) rfl rfl
                have f8 : a.eval (.tmp 44) = .int .u64 i := hf 8 _ _ (by omega) rfl rfl
                obtain ⟨u9, f9⟩ : ∃ u, a.eval (.tmp 45) = u := ⟨_, rfl⟩
                have y9 := hf 9 _ _ (by omega) rfl rfl
                rw [f9] at y9
                have ha := hag.puts [(36, .agg S), (37, .string x), (38, .int .i64 i), (39, .int .u64 i), (40, .agg u4), (41, .slice ma l.length mcap), (42, .string x), (43, .int .i64 i), (44, .int .u64 i), (45, u9)] rfl (by simp) (by simp only [List.forall_mem_cons, List.not_mem_nil, false_implies, implies_true, and_true]; exact ⟨f0, f1, f2, f3, f4, f5, f6, f7, f8, f9⟩)
                subst ha
                clear hag hf f0 f1 f2 f3 f4 f5 f6 f7 f8 f9
                simp only [List.foldl_cons, List.foldl_nil, Act.put, List.drop_succ_cons, List.drop_zero, List.setIfInBounds_toArray, List.set_cons_succ, List.set_cons_zero]
                rename World => w7
                have hE7 := HEI.out w7 hI
                have hR7 := y4.row
                have hf9 : ∀ j, u9.ownBlock = some j → j ≠ g5 ∧ j ≠ g6 := fun j hj => by
                  have h1 := y9.2 j hj
                  have h2 := (Array.getElem?_eq_some_iff.1 HE.out.shelf).1
                  have h3 := (Array.getElem?_eq_some_iff.1 HE.out.list).1
                  omega
                have hE8 := hE7.step ⟨HD.out.2.1, HD.out.2.2.1, HD.out.2.2.2⟩ (by have := HD.out; omega) y4 y9.1 hf9
                have hsz : S.size = u4.size := by rw [HR.out.size, hR7.size]
                have h6 : (w7.setRow g5 u4).heap[g6]? = some (.cells #[.slice ma l.length mcap] 37 (0, 0)) := (setRow_other _ _ _ _ (by have := HD.out; omega)).trans hE7.list
                have HR7 := Lib.hid hR7
                have H57 := Lib.hid hE7.shelf
                have H67 := Lib.hid h6
                have hone : u9.oneCell' = true := by
                  obtain ⟨_, _, hu, _⟩ := y9.1.form
                  rw [hu]
                  rfl
                have HE8 := Lib.hid hE8
                have HLI2 := Lib.hid (show (putL l x i).length ≤ i + 1 by have := put_le l x i; have := HLI.out; omega)
                clear hI y4 y9 hE7 hR7 hE8 h6 hf9 HEI HE cx
                go_wp2_with (first
                  | (refine wpList_store_row rfl 24 (.tmp 5) (.tmp 40) rfl g5 u4 rfl rfl 24 S H57.out HR7.out.info hsz HR7.out.one ?_)
                  | (refine wpList_store_val rfl 37 (.tmp 6) (.tmp 45) rfl g6 u9 rfl rfl hone 37 _ H67.out (by kernel_rfl) ?_))
                go_roundw
                case rel => exact ⟨i + 1, _, _, _, by omega, HLI2.out, by go_num, HE8.out⟩
                case measure => simp [intOf]; omega
            · have hki : 1024 < (x.size : Int) := by omega
              go_wp2_with fail
              exact leaves_cell (fun w hc => by simp [results, Try.results7, go_sem, hc]) [] _ List.nodup_nil (fun D h => by simp at h) (Nat.le_refl _) (HE.out.below.setCell (p := ⟨g4, 0, none⟩) (show w.heap.size ≤ g4 by have := HD.out; omega) _) (World.cell?_setCell_same' _ _ _ (by rw [c4]; rfl))
          · obtain rfl : i = L.length := by omega
            have hlti : ¬ ((L.length : Int) < (L.length : Int)) := by omega
            obtain ⟨ma, mcap, rfl, hmc⟩ := HE.out.reads.form
            have HLE := Lib.hid (show l.length ≤ 100 by omega)
            clear c4 f4 hE hli
            go_wp2_with fail
            refine wp_loop_rounds 3 ?_
            rw [rounds_succ]
            go_upto_region 17 with (fail)
            have hb8 : Below wr.heap.size wr (wr.alloc (.cells #[.int .i64 0] 3)) := (Below.refl _ _).alloc (Nat.le_refl _) _
            have h9 := heap_alloc_new wr (.cells #[.int .i64 0] 3)
            have hs8 : (wr.alloc (.cells #[.int .i64 0] 3)).heap.size = wr.heap.size + 1 := by simp
            generalize wr.alloc (.cells #[.int .i64 0] 3) = w8 at hb8 h9 hs8 ⊢
            obtain ⟨g9, hg9⟩ : ∃ g, wr.heap.size = g := ⟨_, rfl⟩
            have HE8 := Lib.hid (HE.out.kept hb8)
            have HG9 := Lib.hid (show wr.heap.size = g9 ∧ w8.heap.size = g9 + 1 by omega)
            rw [hg9] at h9
            rw [hg9]
            have HB8 := Lib.hid hb8
            have H98 := Lib.hid h9
            have HA := Lib.hid (code_AllS S l wr.heap.size w8 (HE.out.things.below hb8 (Nat.le_refl _)) hb8.size)
            clear hb8 h9 hs8 hg9
            go_wp2_with (refine wpList_load_row rfl 24 (.tmp 5) rfl g5 rfl 24 S (0, 0) _ HE8.out.shelf Try.underlying24 rfl HR.out.info ?_)
            refine HA.out.mono ?_
            rintro e w9 ⟨f, lb, rfl, hb9, heg, hseq⟩
            have HB9 := Lib.hid (HB8.out.trans (hb9.mono HB8.out.size))
            have H99 := Lib.hid ((hb9.block g9 (by have := HG9.out; omega)).trans H98.out)
            have HEG := Lib.hid heg
            have HSQ := Lib.hid hseq
            have HG99 := Lib.hid (show wr.heap.size = g9 ∧ w8.heap.size = g9 + 1 ∧ g9 < w9.heap.size by have := HG9.out; have := hb9.size; omega)
            clear hb9 heg hseq HA H98 HB8 HE8 HG9
            go_wp2_with fail
            refine wp_behind (R := fun D m W' => w9.heap.size ≤ D ∧ W'.heap[D]? = some (.deferred (some [])) ∧ ((m : Int) = z ∧ m < l.length ∨ m = l.length ∧ (m : Int) ≤ z) ∧ W'.heap[g9]? = some (.cells #[.int .i64 (m : Int)] 3 (0, 0)) ∧ Below wr.heap.size wr W') ?range ?rest
            case range =>
              have h0 : EarI wr g9 z l [] w9 := ⟨List.nil_prefix, by simp; omega, H99.out, HB9.out⟩
              refine wpIn_rangeFunc_ownF rfl (by decide) (gf := f) (lb := lb) rfl trivial HEG.out (HSQ.out (4 - 1)) KeepC.trans (fun W l o o' _ h1 h2 _ => KeepC.putObj W l o o' h1 h2) (Below.refl _ _) (fun _ => rfl)
                (EarI wr g9 z l) (EarX wr g9 z l) (EarI.own (by have := HG99.out; omega)) (fun c => EarX.own c (by have := HG99.out; omega)) h0 ?a1 ?assign ?body ?done ?stop
              case assign =>
                intro l0 x W K hK
                unfold encT
                gi_wp2
                exact hK
              case body =>
                rintro l0 pre x W hi hlen
                have hx := List.getElem?_eq_getElem hlen
                obtain ⟨y, hyy⟩ : ∃ y, l[pre.length] = y := ⟨_, rfl⟩
                rw [hyy] at hx
                have hEW := HE.out.kept hi.below
                obtain ⟨g, o, cap', hav, _, hr⟩ := hEW.reads.some (by omega)
                injection hav with hav1 _ hav2
                subst hav1 hav2
                have hkey := thing_key hr hx
                have hval := thing_val hr hx
                have c9 : W.cell? ⟨g9, 0, none⟩ = some (.int .i64 (pre.length : Int)) := by rw [Lib.cell_of_heap hi.at_]; rfl
                have f9 : W.frozen? ⟨g9, 0, none⟩ = false := by simp [World.frozen?, hi.at_]
                have c3 : W.cell? ⟨g3, 0, none⟩ = some (.int .i64 z) := by rw [Lib.cell_of_heap hEW.at_]; rfl
                have c6 : W.cell? ⟨g6, 0, none⟩ = some (.slice (some ⟨g, o, none⟩) l.length mcap) := by rw [Lib.cell_of_heap hEW.list]; rfl
                have c4 : W.cell? ⟨g4, 0, none⟩ = some (.bool false) := by rw [Lib.cell_of_heap hEW.ans]; rfl
                have f4 : W.frozen? ⟨g4, 0, none⟩ = false := by simp [World.frozen?, hEW.ans]
                have HSTEP := Lib.hid (fun (e : x = y) (hz : (pre.length : Int) < z) => hi.step (x := x) (by rw [e]; exact hx) hz (by have := HG99.out; omega))
                have HNOT := Lib.hid (fun (e : x ≠ y) => prefix_not hx e)
                have HKC := Lib.hid (fun v => @keepC_step wr.heap.size w8.heap.size W g9 v (by have := HG99.out; omega) (by have := HG99.out; omega) _ _ _ hi.at_)
                have HOUT := Lib.hid (fun (hz : (pre.length : Int) = z) => (show EarX wr g9 z l (.exit 4) (pre ++ [x]) W from Or.inl ⟨rfl, pre.length, hz, hlen, hi.at_, hi.below⟩))
                have hple := hi.le
                have hlt2 : (pre.length : Int) < (l.length : Int) := by omega
                have hge : ¬ (l.length : Int) ≤ (pre.length : Int) := by omega
                obtain ⟨i, hii⟩ : ∃ i, pre.length = i := ⟨_, rfl⟩
                rw [hii] at hkey hval c9 HSTEP hlt2 hge HOUT hple
                clear hx hyy hr hi hlen hii hEW
                by_cases hz : (i : Int) = z
                · have hzb : ((i : Int) == z) = true := by rw [beq_iff_eq]; exact hz
                  have HO := Lib.hid (HOUT.out hz)
                  clear HSTEP HNOT HKC HOUT
                  gi_wp2
                  exact ⟨KeepsOthers.refl _, HO.out⟩
                · have hzb : ((i : Int) == z) = false := by rw [beq_eq_false_iff_ne]; exact hz
                  have hzl : (i : Int) < z := by omega
                  clear HOUT
                  by_cases hk : y.1 = x.1
                  · by_cases hv : y.2 = x.2
                    · obtain rfl : x = y := Prod.ext hk.symm hv.symm
                      have HST := Lib.hid (HSTEP.out rfl hzl)
                      clear HSTEP HNOT hk hv
                      gi_wp2
                      exact ⟨KeepsOthers.setCell _ _ _, HKC.out _, HST.out⟩
                    · have hn := HNOT.out (fun e => hv (by rw [e]))
                      have hvi : ¬ (y.2 : Int) = (x.2 : Int) := by omega
                      have hvb : ((y.2 : Int) == (x.2 : Int)) = false := by rw [beq_eq_false_iff_ne]; exact hvi
                      have HN := Lib.hid hn
                      rw [hk] at hkey
                      clear HSTEP HNOT hk hv hn
                      gi_wp2
                      exact ⟨KeepsOthers.setCell _ _ _, Or.inr ⟨rfl, HN.out⟩⟩
                  · have hn := HNOT.out (fun e => hk (by rw [e]))
                    have hkb : (y.1.toList == x.1.toList) = false := by rw [same_eq]; exact decide_eq_false hk
                    have HN := Lib.hid hn
                    clear HSTEP HNOT hn
                    gi_wp2
                    exact ⟨KeepsOthers.setCell _ _ _, Or.inr ⟨rfl, HN.out⟩⟩
              case done =>
                intro D ys W hD hys hi hK
                rw [hys] at hi
                exact ⟨Or.inl rfl, D, l.length, rfl, hD, hK, Or.inr ⟨rfl, hi.le⟩, hi.at_, hi.below⟩
              case stop =>
                rintro D c pre W hD hsp hx hK
                rcases hx with ⟨rfl, m, h1, h2, h3, h4⟩ | ⟨_, hn⟩
                · refine wpIn_exit ?_
                  exact ⟨Or.inr rfl, D, m, rfl, hD, hK, Or.inl ⟨h1, h2⟩, h3, h4⟩
                · exact absurd hsp hn
            case rest =>
              rintro D m wb ⟨hD, hK, hm, h9, hb⟩
              have HEB0 := Lib.hid (HE.out.kept hb)
              have HK0 := Lib.hid hK
              have HD0 := Lib.hid (show w.heap.size ≤ D by have := HD.out; have := (Array.getElem?_eq_some_iff.1 HE.out.shelf).1; have := HG99.out; omega)
              have c9 : wb.cell? ⟨g9, 0, none⟩ = some (.int .i64 (m : Int)) := by rw [Lib.cell_of_heap h9]; rfl
              have c3 : wb.cell? ⟨g3, 0, none⟩ = some (.int .i64 z) := by rw [Lib.cell_of_heap HEB0.out.at_]; rfl
              have c6 : wb.cell? ⟨g6, 0, none⟩ = some (.slice ma l.length mcap) := by rw [Lib.cell_of_heap HEB0.out.list]; rfl
              have hmin : (if (l.length : Int) < z then (l.length : Int) else z) = (m : Int) := by split <;> omega
              clear hK h9 hb hm
              dsimp only
              go_wp2_with fail
              rw [rounds_succ]
              go_upto_region 17 with (fail)
              have hb8 : Below wb.heap.size wb (wb.alloc (.cells #[.int .i64 0] 3)) := (Below.refl _ _).alloc (Nat.le_refl _) _
              have h9 := heap_alloc_new wb (.cells #[.int .i64 0] 3)
              have hs8 : (wb.alloc (.cells #[.int .i64 0] 3)).heap.size = wb.heap.size + 1 := by simp
              generalize wb.alloc (.cells #[.int .i64 0] 3) = w8b at hb8 h9 hs8 ⊢
              obtain ⟨g9b, hg9⟩ : ∃ g, wb.heap.size = g := ⟨_, rfl⟩
              have HE8 := Lib.hid (HEB0.out.kept hb8)
              have HG9 := Lib.hid (show wb.heap.size = g9b ∧ w8b.heap.size = g9b + 1 by omega)
              rw [hg9] at h9
              rw [hg9]
              have HB8 := Lib.hid hb8
              have H98 := Lib.hid h9
              have HA := Lib.hid (code_AllS S l wb.heap.size w8b (HEB0.out.things.below hb8 (Nat.le_refl _)) hb8.size)
              clear hb8 h9 hs8 hg9
              go_wp2_with (refine wpList_load_row rfl 24 (.tmp 5) rfl g5 rfl 24 S (0, 0) _ HE8.out.shelf Try.underlying24 rfl HR.out.info ?_)
              refine HA.out.mono ?_
              rintro e w9b ⟨fb, lbb, rfl, hb9, heg, hseq⟩
              have HB9 := Lib.hid (HB8.out.trans (hb9.mono HB8.out.size))
              have H99 := Lib.hid ((hb9.block g9b (by have := HG9.out; omega)).trans H98.out)
              have HEG := Lib.hid heg
              have HSQ := Lib.hid hseq
              have HG99 := Lib.hid (show wb.heap.size = g9b ∧ w8b.heap.size = g9b + 1 ∧ g9b < w9b.heap.size by have := HG9.out; have := hb9.size; omega)
              clear hb9 heg hseq HA H98 HB8 HE8 HG9
              go_wp2_with fail
              refine wp_behind (R := fun Db mb W' => w9b.heap.size ≤ Db ∧ W'.heap[Db]? = some (.deferred (some [])) ∧ ((mb : Int) = z ∧ mb < l.length ∨ mb = l.length ∧ (mb : Int) ≤ z) ∧ W'.heap[g9b]? = some (.cells #[.int .i64 (mb : Int)] 3 (0, 0)) ∧ Below wb.heap.size wb W') ?rangeb ?restb
              case rangeb =>
                have h0 : EarI wb g9b z l [] w9b := ⟨List.nil_prefix, by simp; omega, H99.out, HB9.out⟩
                refine wpIn_rangeFunc_ownF rfl (by decide) (gf := fb) (lb := lbb) rfl trivial HEG.out (HSQ.out (4 - 1)) KeepC.trans (fun W l o o' _ h1 h2 _ => KeepC.putObj W l o o' h1 h2) (Below.refl _ _) (fun _ => rfl)
                  (EarI wb g9b z l) (EarX wb g9b z l) (EarI.own (by have := HG99.out; omega)) (fun c => EarX.own c (by have := HG99.out; omega)) h0 ?a1b ?assignb ?bodyb ?doneb ?stopb
                case assignb =>
                  intro l0 x W K hK
                  unfold encT
                  gi_wp2
                  exact hK
                case bodyb =>
                  rintro l0 pre x W hi hlen
                  have hx := List.getElem?_eq_getElem hlen
                  obtain ⟨y, hyy⟩ : ∃ y, l[pre.length] = y := ⟨_, rfl⟩
                  rw [hyy] at hx
                  have hEW := HEB0.out.kept hi.below
                  obtain ⟨g, o, cap', hav, _, hr⟩ := hEW.reads.some (by omega)
                  injection hav with hav1 _ hav2
                  subst hav1 hav2
                  have hkey := thing_key hr hx
                  have hval := thing_val hr hx
                  have c9 : W.cell? ⟨g9b, 0, none⟩ = some (.int .i64 (pre.length : Int)) := by rw [Lib.cell_of_heap hi.at_]; rfl
                  have f9 : W.frozen? ⟨g9b, 0, none⟩ = false := by simp [World.frozen?, hi.at_]
                  have c3 : W.cell? ⟨g3, 0, none⟩ = some (.int .i64 z) := by rw [Lib.cell_of_heap hEW.at_]; rfl
                  have c6 : W.cell? ⟨g6, 0, none⟩ = some (.slice (some ⟨g, o, none⟩) l.length mcap) := by rw [Lib.cell_of_heap hEW.list]; rfl
                  have c4 : W.cell? ⟨g4, 0, none⟩ = some (.bool false) := by rw [Lib.cell_of_heap hEW.ans]; rfl
                  have f4 : W.frozen? ⟨g4, 0, none⟩ = false := by simp [World.frozen?, hEW.ans]
                  have HSTEP := Lib.hid (fun (e : x = y) (hz : (pre.length : Int) < z) => hi.step (x := x) (by rw [e]; exact hx) hz (by have := HG99.out; omega))
                  have HNOT := Lib.hid (fun (e : x ≠ y) => prefix_not hx e)
                  have HKC := Lib.hid (fun v => @keepC_step wb.heap.size w8b.heap.size W g9b v (by have := HG99.out; omega) (by have := HG99.out; omega) _ _ _ hi.at_)
                  have HOUT := Lib.hid (fun (hz : (pre.length : Int) = z) => (show EarX wb g9b z l (.exit 4) (pre ++ [x]) W from Or.inl ⟨rfl, pre.length, hz, hlen, hi.at_, hi.below⟩))
                  have hple := hi.le
                  have hlt2 : (pre.length : Int) < (l.length : Int) := by omega
                  have hge : ¬ (l.length : Int) ≤ (pre.length : Int) := by omega
                  obtain ⟨i, hii⟩ : ∃ i, pre.length = i := ⟨_, rfl⟩
                  rw [hii] at hkey hval c9 HSTEP hlt2 hge HOUT hple
                  clear hx hyy hr hi hlen hii hEW
                  by_cases hz : (i : Int) = z
                  · have hzb : ((i : Int) == z) = true := by rw [beq_iff_eq]; exact hz
                    have HO := Lib.hid (HOUT.out hz)
                    clear HSTEP HNOT HKC HOUT
                    gi_wp2
                    exact ⟨KeepsOthers.refl _, HO.out⟩
                  · have hzb : ((i : Int) == z) = false := by rw [beq_eq_false_iff_ne]; exact hz
                    have hzl : (i : Int) < z := by omega
                    clear HOUT
                    by_cases hk : y.1 = x.1
                    · by_cases hv : y.2 = x.2
                      · obtain rfl : x = y := Prod.ext hk.symm hv.symm
                        have HST := Lib.hid (HSTEP.out rfl hzl)
                        clear HSTEP HNOT hk hv
                        gi_wp2
                        exact ⟨KeepsOthers.setCell _ _ _, HKC.out _, HST.out⟩
                      · have hn := HNOT.out (fun e => hv (by rw [e]))
                        have hvi : ¬ (y.2 : Int) = (x.2 : Int) := by omega
                        have hvb : ((y.2 : Int) == (x.2 : Int)) = false := by rw [beq_eq_false_iff_ne]; exact hvi
                        have HN := Lib.hid hn
                        rw [hk] at hkey
                        clear HSTEP HNOT hk hv hn
                        gi_wp2
                        exact ⟨KeepsOthers.setCell _ _ _, Or.inr ⟨rfl, HN.out⟩⟩
                    · have hn := HNOT.out (fun e => hk (by rw [e]))
                      have hkb : (y.1.toList == x.1.toList) = false := by rw [same_eq]; exact decide_eq_false hk
                      have HN := Lib.hid hn
                      clear HSTEP HNOT hn
                      gi_wp2
                      exact ⟨KeepsOthers.setCell _ _ _, Or.inr ⟨rfl, HN.out⟩⟩
                case doneb =>
                  intro Db ys W hD hys hi hK
                  rw [hys] at hi
                  exact ⟨Or.inl rfl, Db, l.length, rfl, hD, hK, Or.inr ⟨rfl, hi.le⟩, hi.at_, hi.below⟩
                case stopb =>
                  rintro Db c pre W hD hsp hx hK
                  rcases hx with ⟨rfl, mb, h1, h2, h3, h4⟩ | ⟨_, hn⟩
                  · refine wpIn_exit ?_
                    exact ⟨Or.inr rfl, Db, mb, rfl, hD, hK, Or.inl ⟨h1, h2⟩, h3, h4⟩
                  · exact absurd hsp hn
              case restb =>
                rintro Db mb wc ⟨hD, hK, hm, h9, hb⟩
                have HEB1 := Lib.hid (HEB0.out.kept hb)
                have HK1 := Lib.hid hK
                have HD1 := Lib.hid (show w.heap.size ≤ Db by have := HD.out; have := (Array.getElem?_eq_some_iff.1 HEB0.out.shelf).1; have := HG99.out; omega)
                have c9 : wc.cell? ⟨g9b, 0, none⟩ = some (.int .i64 (mb : Int)) := by rw [Lib.cell_of_heap h9]; rfl
                have c3 : wc.cell? ⟨g3, 0, none⟩ = some (.int .i64 z) := by rw [Lib.cell_of_heap HEB1.out.at_]; rfl
                have c6 : wc.cell? ⟨g6, 0, none⟩ = some (.slice ma l.length mcap) := by rw [Lib.cell_of_heap HEB1.out.list]; rfl
                have hmin : (if (l.length : Int) < z then (l.length : Int) else z) = (mb : Int) := by split <;> omega
                have HKO := Lib.hid ((hb.block D (Array.getElem?_eq_some_iff.1 HK0.out).1).trans HK0.out)
                have HNE := Lib.hid (show Db ≠ D by have := (Array.getElem?_eq_some_iff.1 HK0.out).1; have := HG99.out; omega)
                clear hK h9 hb hm
                dsimp only
                go_wp2_with fail
                rw [rounds_succ]
                have HIS := Lib.hid (ref_is S l _ wc HEB1.out.things HEB1.out.reads (by have := HLE.out; omega))
                go_wp2_with (refine wpList_load_row rfl 24 (.tmp 5) rfl g5 rfl 24 S (0, 0) _ HEB1.out.shelf Try.underlying24 rfl HR.out.info ?_)
                refine HIS.out.mono ?_
                rintro e w10 ⟨rfl, hb10⟩
                have h4 := (hb10.block g4 (Array.getElem?_eq_some_iff.1 HEB1.out.ans).1).trans HEB1.out.ans
                have c4 : w10.cell? ⟨g4, 0, none⟩ = some (.bool false) := by rw [Lib.cell_of_heap h4]; rfl
                have f4 : w10.frozen? ⟨g4, 0, none⟩ = false := by simp [World.frozen?, h4]
                have HK2 := Lib.hid ((hb10.block Db (Array.getElem?_eq_some_iff.1 HK1.out).1).trans HK1.out)
                have HK3 := Lib.hid ((hb10.block D (Array.getElem?_eq_some_iff.1 HKO.out).1).trans HKO.out)
                have HB10 := Lib.hid (HEB1.out.below.trans (hb10.mono HEB1.out.below.size))
                clear hb10 h4
                go_wp2_with fail
                exact leaves_cell (fun w hc => by simp [results, Try.results7, go_sem, hc]) [Db, D] _ (by simp [HNE.out]) (fun E hE => by
                  simp at hE
                  rcases hE with rfl | rfl
                  · exact ⟨HD1.out, (KeepsOthers.setCell _ _ _).same _ _ HK2.out rfl⟩
                  · exact ⟨HD0.out, (KeepsOthers.setCell _ _ _).same _ _ HK3.out rfl⟩) (Nat.le_refl _) (HB10.out.setCell (p := ⟨g4, 0, none⟩) (show w.heap.size ≤ g4 by have := HD.out; omega) _) (World.cell?_setCell_same' _ _ _ (by rw [c4]; rfl))
      · have q3i : 200 < z := by omega
        go_wp2_with fail
        exact leaves_cell (fun w hc => by simp [results, Try.results7, go_sem, hc]) [] _ List.nodup_nil (fun D h => by simp at h) (Nat.le_refl _) (HB1.out.setCell (p := ⟨g4, 0, none⟩) (show w.heap.size ≤ g4 by have := HG1.out; omega) _) (World.cell?_setCell_same' _ _ _ (by rw [c4]; rfl))
    · have q2i : z < 0 := by omega
      go_wp2_with fail
      exact leaves_cell (fun w hc => by simp [results, Try.results7, go_sem, hc]) [] _ List.nodup_nil (fun D h => by simp at h) (Nat.le_refl _) (HB1.out.setCell (p := ⟨g4, 0, none⟩) (show w.heap.size ≤ g4 by have := HG1.out; omega) _) (World.cell?_setCell_same' _ _ _ (by rw [c4]; rfl))
  · have q1i : 100 < (L.length : Int) := by omega
    go_wp2_with fail
    exact leaves_cell (fun w hc => by simp [results, Try.results7, go_sem, hc]) [] _ List.nodup_nil (fun D h => by simp at h) (Nat.le_refl _) (HB1.out.setCell (p := ⟨g4, 0, none⟩) (show w.heap.size ≤ g4 by have := HG1.out; omega) _) (World.cell?_setCell_same' _ _ _ (by rw [c4]; rfl))

end Go.Proofs.Ytpepijoppgbbfaa.Shf
