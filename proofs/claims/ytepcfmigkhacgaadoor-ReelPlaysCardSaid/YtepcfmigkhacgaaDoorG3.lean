/- reel: the landed code's Open, walked. -/
import Derived.Test.YtepcfmigkhacgaaDoorG2
import Derived.Test.YtepcfmigkhacgaaDoorQFt
namespace Go.Proofs.YtepcfmigkhacgaaDoor.Rl
open Go.RowKit Go.Proofs.YtepcfmigkhacgaaDoor.Gr Go.Proofs.YtepcfmigkhacgaaDoor.Frame Go.Proofs.YtepcfmigkhacgaaDoor.Dk

/-- The landed code's reel, with its disk. -/
structure RAtC (F : Nat → Prop) (w : World) (q g : Nat) (S : St) (all : List Tx) (rs : Nat) : Prop where
  ex : ∃ ev lv, QAt w q g ev all rs ∧ DAt w g lv S ∧ ∀ k, F k ↔ qfoot q ev k ∨ foot g lv k
  files : Files S.now all
  small : ∀ s ∈ S.now, s.size ≤ 1048576
section
variable {g : Nat} {lv : Value} {S : St}
/-- What Open leaves. -/
def OpensTo (w : World) (g : Nat) (lv : Value) (S : St) (e : Ending) (w' : World) : Prop :=
  Frm (foot g lv) w w' ∧
      (((openS S).1 = 0 ∧ ∃ q F, e = .returned (.tuple #[.pointer (some ⟨q, 0, none⟩), .int .i64 0]) ∧ RAtC F w' q g (openS S).2.1 (openS S).2.2 (openS S).2.2.length ∧ ∀ k, F k → foot g lv k ∨ w.heap.size ≤ k) ∨
        ((openS S).1 ≠ 0 ∧ e = .returned (.tuple #[.pointer none, .int .i64 (openS S).1]) ∧ ∃ lv', Dk.Left w g lv (openS S).2.1 w' lv'))
theorem opens_no {w w' : World} {lv' : Value} {T : St} {er : Int} {l : List Tx} (h : openS S = (er, T, l)) (h0 : er ≠ 0) (hl : Dk.Left w g lv T w' lv') {e : Ending} (he : e = .returned (.tuple #[.pointer none, .int .i64 er])) : OpensTo w g lv S e w' := by
  unfold OpensTo
  rw [h]
  exact ⟨hl.frm, Or.inr ⟨h0, he, lv', hl⟩⟩
theorem opens_yes {n : Nat} {w w' : World} {q : Nat} {ev lv' : Value} {T : St} {R : List Tx} (hS : GoodN n S) (h : openS S = (0, T, R)) (hq : QAt w' q g ev R R.length) (hd : DAt w' g lv' T) (hf : Frm (foot g lv) w w') (hqn : ∀ k, qfoot q ev k → w.heap.size ≤ k) (hln : ∀ k, lv'.ownBlock = some k → lv.ownBlock = some k ∨ w.heap.size ≤ k)
    {e : Ending} (he : e = .returned (.tuple #[.pointer (some ⟨q, 0, none⟩), .int .i64 0])) : OpensTo w g lv S e w' := by
  have h1 := open_files hS.lenN h
  have h2 := (good_openS hS).now
  unfold OpensTo
  rw [h] at h2 ⊢
  refine ⟨hf, Or.inl ⟨rfl, q, fun k => qfoot q ev k ∨ foot g lv' k, he, ⟨⟨ev, lv', hq, hd, fun k => Iff.rfl⟩, h1, h2⟩, fun k hk => ?_⟩⟩
  rcases hk with hk | hk | hk
  · exact Or.inr (hqn k hk)
  · exact Or.inl (Or.inl hk)
  · rcases hln k hk with h3 | h3
    · exact Or.inl (Or.inr h3)
    · exact Or.inr h3
set_option maxRecDepth 100000 in
set_option maxHeartbeats 3200000 in
theorem code_Open (w : World) (n : Nat) (h : DAt w g lv S) (hS : GoodN n S) (hn : n ≤ 1000000) (ht : Tab w) :
    Calls Tryd.prog 9 #[.pointer (some ⟨g, 0, none⟩)] w (OpensTo w g lv S) := by
  have HD := Lib.hid h
  have HS := Lib.hid hS
  have HNN := Lib.hid hn
  have HO := Lib.hid (fun W (hb : Below w.heap.size w W) => code_On g lv S W (h.kept (F := fun _ => False) (Frm.of_below hb) id (fun _ _ => id)))
  cases hon : S.on with
  | false =>
    have hop : openS S = (100, S, []) := by unfold openS; rw [if_neg (by rw [hon]; decide)]
    rw [hon] at HO
    have HOP := Lib.hid hop
    clear h hS hn hop hon ht
    go_enter Tryd.func9, Tryd.ntmps9
    go_wp2_with (go_at_call 34; refine (HO.out _ (Below.refl _ _)).mono ?_; rintro e w' ⟨rfl, rfl⟩)
    go_ret2
    exact opens_no HOP.out (by decide) (Dk.Left.refl HD.out) rfl
  | true =>
    rw [hon] at HO
    have HON := Lib.hid hon
    have HT := Lib.hid ht
    obtain ⟨R, last, size, hrec⟩ : ∃ R last size, recs S.now = (R, last, size) := ⟨_, _, _, rfl⟩
    obtain ⟨er, T, hX⟩ : ∃ er T, openN S last size (needL S.now last size) = (er, T) := ⟨_, _, rfl⟩
    have hop : openS S = if er = 0 then (0, T, R) else (er, T, []) := by
      unfold openS
      rw [if_pos hon, hrec]
      simp only []
      rw [hX]
    have HOP := Lib.hid hop
    obtain ⟨C, hC⟩ : ∃ C, (zI (staysN S.now last size)).toArray = C := ⟨_, rfl⟩
    have HC1 := Lib.hid (show C.all (·.oneCell') = true by rw [← hC]; exact zI_one _)
    have HCS := Lib.hid (show C.size = 64 by rw [← hC, zI_size, staysN_len])
    have hz := zero_of zero_64
    obtain ⟨Z, hZ⟩ : ∃ Z, (zI (List.replicate 64 0)).toArray = Z := ⟨_, rfl⟩
    rw [hZ] at hz
    have HZS := Lib.hid (show Z.size = 64 by rw [← hZ, zI_size, List.length_replicate])
    have hb1 : Below w.heap.size w (w.alloc (.cells #[.pointer (some ⟨g, 0, none⟩), .slice none 0 0, .int .i64 0] 69)) := (Below.refl _ _).alloc (Nat.le_refl _) _
    have hq1 : QAt (w.alloc (.cells #[.pointer (some ⟨g, 0, none⟩), .slice none 0 0, .int .i64 0] 69)) w.heap.size g (.slice none 0 0) [] 0 := ⟨heap_alloc_new w _, Kind.Own.nil _ _⟩
    have hd1 : DAt (w.alloc (.cells #[.pointer (some ⟨g, 0, none⟩), .slice none 0 0, .int .i64 0] 69)) g lv S := h.kept (F := fun _ => False) (Frm.of_below hb1) id (fun _ _ => id)
    have hf := code_find _ ((Home.of ht).below hb1) hq1 (Nat.le_refl _) hd1 hon hS.now
    rw [hrec] at hf
    have hf : Calls _ _ _ _ fun e w' => e = .returned (.tuple #[.agg (zI (staysN S.now last size)).toArray, .int .i64 0]) ∧ ∃ ev', QAt w' w.heap.size g ev' R 0 ∧ Moved (qfoot w.heap.size (.slice none 0 0)) _ (qfoot w.heap.size ev') w' := hf
    rw [hC] at hf
    have HF := Lib.hid hf
    have HB1 := Lib.hid hb1
    have HCA := Lib.hid (fun W (hd : DAt W g lv S) => code_cutAll (lv := lv) (last := last) (size := size) W hd hS hn)
    rw [hC, hX] at HCA
    have HD2 := Lib.hid (fun w2 (hf : Frm (qfoot w.heap.size (.slice none 0 0)) (w.alloc (.cells #[.pointer (some ⟨g, 0, none⟩), .slice none 0 0, .int .i64 0] 69)) w2) => hd1.kept hf (fun hk => apart hq1 hd1 g hk (Or.inl rfl)) (fun k hk hk2 => apart hq1 hd1 k hk2 (Or.inr hk)))
    clear h hS hn hon ht hrec hX hop hC hZ hb1 hq1 hd1 hf
    go_enter Tryd.func9, Tryd.ntmps9
    go_upto_region 6 with (go_at_call 34; refine (HO.out _ (Below.refl _ _)).mono ?_; rintro e w' ⟨rfl, rfl⟩)
    go_upto_region 7 with (first
      | (go_at_call 35; refine HF.out.mono ?_; rintro e w2 ⟨rfl, ev2, hq2, hm2⟩)
      | (refine wpList_store_row rfl 70 (.tmp 5) (.tmp 19) rfl _ C rfl rfl 70 Z (heap_alloc_new _ _) (by rw [HCS.out]; exact info_64) (by rw [HCS.out, HZS.out]) HC1.out ?_))
    rw [World.setRow_alloc_new]
    have hd2 := HD2.out w2 hm2.frm
    have hb3 : Below w2.heap.size w2 (w2.alloc (.cells C 70)) := (Below.refl _ _).alloc (Nat.le_refl _) _
    have hq3 := hq2.below hb3
    have hd3 : DAt (w2.alloc (.cells C 70)) g lv S := hd2.kept (F := fun _ => False) (Frm.of_below hb3) id (fun _ _ => id)
    have hn3 := heap_alloc_new w2 (.cells C 70)
    have hfr1 : Frm (foot g lv) w w2 := ((Frm.of_below (F := foot g lv) HB1.out).trans hm2.frm (fun k hk => by
      rcases hk with rfl | hk
      · exact Or.inr (Nat.le_refl _)
      · simp [Value.ownBlock] at hk))
    have hfr3 : Frm (foot g lv) w (w2.alloc (.cells C 70)) := hfr1.trans (Frm.of_below (F := fun _ => False) hb3) (fun i hi => hi.elim)
    have HQN := Lib.hid (show ∀ k, qfoot w.heap.size ev2 k → w.heap.size ≤ k from fun k hk => by
      rcases hm2.foot k hk with (h1 | h1) | h1
      · omega
      · simp [Value.ownBlock] at h1
      · exact Nat.le_trans HB1.out.size h1)
    have HF3 := Lib.hid hfr3
    have HQ3 := Lib.hid hq3
    have HN3 := Lib.hid hn3
    obtain ⟨b5, hb5⟩ : ∃ b5, w2.heap.size = b5 := ⟨_, rfl⟩
    have HST := Lib.hid (HCA.out _ hd3)
    have HAP3 := Lib.hid (apart hq3 hd3)
    rw [hb5] at HN3 ⊢
    clear hd2 hb3 hq3 hd3 hn3 hfr1 hfr3 hq2 hm2 hb5
    generalize w2.alloc (.cells C 70) = w3 at HF3 HQ3 HN3 HST HAP3 ⊢
    go_upto_region 10 with (first
      | (refine wpList_load_row rfl 70 (.tmp 5) rfl b5 rfl 70 C (0, 0) _ HN3.out Tryd.underlying70 rfl (by rw [HCS.out]; exact info_64) ?_)
      | (go_at_call 36; refine HST.out.mono ?_; rintro e w4 ⟨rfl, lv4, hl4⟩))
    have hq4 := HQ3.out.kept hl4.frm HAP3.out
    have hf4 := HF3.out.trans hl4.frm (fun i hi => Or.inl hi)
    have HQ4 := Lib.hid hq4
    have HF4 := Lib.hid hf4
    have HL4 := Lib.hid (show DAt w4 g lv4 T from hl4.at_)
    have HLN := Lib.hid (show ∀ k, lv4.ownBlock = some k → lv.ownBlock = some k ∨ w.heap.size ≤ k from fun k hk => by
      rcases hl4.foot k hk with h1 | h1
      · exact Or.inl h1
      · exact Or.inr (Nat.le_trans HF3.out.size h1))
    clear hq4 hf4 hl4
    by_cases he : er = 0
    · subst he
      have hc1 := HQ4.out.cRow
      have hc2 := HQ4.out.cSure
      have hfz := HQ4.out.fz
      obtain ⟨ea, en, ec, rfl, hen⟩ : ∃ a n c, ev2 = .slice a n c ∧ R.length = n := by
        obtain ⟨a, c, h, _⟩ := HQ4.out.form
        exact ⟨a, _, c, h, rfl⟩
      have HEN := Lib.hid hen
      have HQ5 := Lib.hid (HQ4.out.setSure en)
      have HS5 := Lib.hid (HQ4.out.setFrm 2 (.int .i64 en))
      have HP := Lib.hid (HOP.out.trans (if_pos rfl))
      clear hen
      go_wp2
      go_ret2
      have hs5 := HS5.out
      have hd5 := HL4.out.kept hs5 (fun e => apart HQ4.out HL4.out _ (Or.inl rfl) (Or.inl e.symm)) (fun k hk e => apart HQ4.out HL4.out k (Or.inl e) (Or.inr hk))
      exact opens_yes HS.out HP.out (by rw [HEN.out]; exact HQ5.out) hd5 (HF4.out.trans hs5 (fun i hi => Or.inr (by rw [hi]; exact Nat.le_refl _))) HQN.out HLN.out rfl
    · have HP := Lib.hid (HOP.out.trans (if_neg he))
      go_wp2
      go_ret2
      exact opens_no HP.out he ⟨HL4.out, HF4.out, HLN.out⟩ rfl
end
end Go.Proofs.YtepcfmigkhacgaaDoor.Rl

namespace Go.Proofs.YtepcfmigkhacgaaDoor.Rl
open Go.RowKit Go.Proofs.YtepcfmigkhacgaaDoor.Gr Go.Proofs.YtepcfmigkhacgaaDoor.Frame Go.Proofs.YtepcfmigkhacgaaDoor.Dk

inductive FactI where
  | val (v : Value)
  | one (n : Int) (H : Nat)
  | own (P : Nat → Prop) (n : Nat) (L : List Int)
def FactI.holds : FactI → Value → World → Prop
  | .val v0, v, _ => v = v0
  | .one n H, v, w => ∃ g, v = .slice (some ⟨g, 0, none⟩) 1 1 ∧ (H ≤ g ∧ g < w.heap.size) ∧ KI.At w v [n]
  | .own P n L, v, w => KI.Own 0 v L w ∧ ∃ k cap, v = .slice (some ⟨k, 0, none⟩) n cap ∧ P k
theorem FactI.kept (f : FactI) (v : Value) (w w' : World) (h : f.holds v w) (hb : Below w.heap.size w w') : f.holds v w' := by
  cases f with
  | val v0 => exact h
  | one n H => obtain ⟨g, h1, h2, h3⟩ := h; exact ⟨g, h1, ⟨h2.1, Nat.lt_of_lt_of_le h2.2 hb.size⟩, h3.kept hb⟩
  | own P n L => exact ⟨h.1.kept hb, h.2⟩
section
variable {w : World} {F : Nat → Prop} {q g : Nat} {ev lv : Value} {S : St} {all : List Tx} {rs : Nat}
/-- What a call of the reel's leaves. -/
def CallTo (F : Nat → Prop) (w : World) (q g : Nat) (r : Int) (T : St) (all : List Tx) (rs : Nat) (e : Ending) (w' : World) : Prop :=
  e = .returned (.int .i64 r) ∧ Frm F w w' ∧ ∃ F', RAtC F' w' q g T all rs ∧ ∀ k, F' k → F k ∨ w.heap.size ≤ k
theorem call_to {w' : World} {ev' lv' : Value} {T : St} {all' : List Tx} {rs' : Nat} {r : Int} {e : Ending} (hF : ∀ k, F k ↔ qfoot q ev k ∨ foot g lv k) (hq : QAt w' q g ev' all' rs') (hd : DAt w' g lv' T) (hfl : Files T.now all') (hsm : ∀ s ∈ T.now, s.size ≤ 1048576)
    (hf : Frm (fun k => qfoot q ev k ∨ foot g lv k) w w') (h1 : ∀ k, ev'.ownBlock = some k → ev.ownBlock = some k ∨ w.heap.size ≤ k) (h2 : ∀ k, lv'.ownBlock = some k → lv.ownBlock = some k ∨ w.heap.size ≤ k) (he : e = .returned (.int .i64 r)) : CallTo F w q g r T all' rs' e w' :=
  ⟨he, hf.mono (fun k hk => (hF k).2 hk), fun k => qfoot q ev' k ∨ foot g lv' k, ⟨⟨ev', lv', hq, hd, fun _ => Iff.rfl⟩, hfl, hsm⟩, fun k hk => by
    rcases hk with (hk | hk) | (hk | hk)
    · exact Or.inl ((hF k).2 (Or.inl (Or.inl hk)))
    · rcases h1 k hk with h3 | h3
      · exact Or.inl ((hF k).2 (Or.inl (Or.inr h3)))
      · exact Or.inr h3
    · exact Or.inl ((hF k).2 (Or.inr (Or.inl hk)))
    · rcases h2 k hk with h3 | h3
      · exact Or.inl ((hF k).2 (Or.inr (Or.inr h3)))
      · exact Or.inr h3⟩
/-- A row that has grown is laid. -/
theorem QAt.lay (h : QAt w q g ev all rs) {w3 : World} {ev3 : Value} {all3 : List Tx} (hf : Frm (fun k => ev.ownBlock = some k) w w3) (hown : KI.Own 0 ev3 (endsN all3) w3) (hk2 : ∀ k, ev3.ownBlock = some k → ev.ownBlock = some k ∨ w.heap.size ≤ k) :
    w3.cell? ⟨q, 1, none⟩ = some ev ∧ (∀ i, w3.frozen? ⟨q, i, none⟩ = false) ∧ QAt (w3.setCell ⟨q, 1, none⟩ ev3) q g ev3 all3 rs ∧ Moved (qfoot q ev) w (qfoot q ev3) (w3.setCell ⟨q, 1, none⟩ ev3) := by
  have hq := h.lt
  have hheap : w3.heap[q]? = some (.cells #[.pointer (some ⟨g, 0, none⟩), ev, .int .i64 rs] 69 (0, 0)) := (hf.block q hq h.ne).trans h.heap
  have hne : ev3.ownBlock ≠ some q := fun e => by
    rcases hk2 q e with h2 | h2
    · exact h.ne h2
    · omega
  have hfr : Frm (qfoot q ev) w w3 := hf.mono (fun k h => Or.inr h)
  refine ⟨by rw [Lib.cell_of_heap hheap]; rfl, fun i => by simp [World.frozen?, hheap], ⟨?_, own_frm1 hown (F := fun k => k = q) ?_ (fun k hk1 e => hne (e ▸ hk1))⟩, ⟨?_, fun k hk1 => ?_⟩⟩
  · rw [setCell_eq_setRow w3 q 1 _ _ _ _ hheap, setRow_heap _ _ _ _ _ _ hheap]
    rfl
  · rw [setCell_eq_setRow w3 q 1 _ _ _ _ hheap]
    exact (Frm.refl (fun k => k = q) w3).setRow (Or.inl rfl) _
  · rw [setCell_eq_setRow w3 q 1 _ _ _ _ hheap]
    exact hfr.setRow (Or.inl (Or.inl rfl)) _
  · rcases hk1 with h1 | h1
    · exact Or.inl (Or.inl h1)
    · rcases hk2 k h1 with h2 | h2
      · exact Or.inl (Or.inr h2)
      · exact Or.inr h2
theorem wp_append_grow {P : Program} {α : Type} {K : Kind P α} {w : World} {v : Value} {L : List α} {o : Oper} {a : Act} {R : Act → World → Prop} {Q : Exit → Act → World → Prop} (s x : Operand) (t : TypeId)
    (ho : o.op = .call { callee := .builtin .append, args := #[s, x], argTypes := #[t, t] }) (ht : P.underlying t = some (.slice K.T))
    (B : Nat) (hs : a.eval s = v) (hown : K.Own B v L w) (u : Value) (M : List α) (hx : a.eval x = u) (hat : K.At w u M) (h0 : 0 < M.length) (m : Nat) (hm : L.length + M.length = m)
    (hn : (L.length + M.length) * (K.bytes + 1) ≤ 1099511627776) (hB : B ≤ w.heap.size)
    (h : ∀ g cap w', K.Own B (.slice (some ⟨g, 0, none⟩) m cap) (L ++ M) w' → w.grownBy w' v.ownBlock → (v.ownBlock = some g ∨ g = w.heap.size) → R (a.put o.dst (.slice (some ⟨g, 0, none⟩) m cap)) w') : o.wp P a w R Q := by
  subst hm
  obtain ⟨ie, hie, hq⟩ := Option.map_eq_some_iff.1 K.info
  simp only [Prod.mk.injEq] at hq
  obtain ⟨hz, hsz, hby⟩ := hq
  have hm1 : L.length + M.length ≤ (L.length + M.length) * (K.bytes + 1) := Nat.le_mul_of_pos_right _ (by omega)
  have hm2 : (L.length + M.length) * K.bytes ≤ (L.length + M.length) * (K.bytes + 1) := Nat.mul_le_mul_left _ (by omega)
  obtain ⟨g1, o1, cap, rfl, _, hr⟩ := hat.some h0
  refine wp_append_lies w s x t ho B K.T ie K.zero K.size K.bytes ht hie hz hsz hby K.zsize K.pos v L.length (K.flat L) hs hown ⟨g1, o1, none⟩ M.length cap (K.flat M) hx (K.flat_len M) (fun j u hj => ?_) (K.flat_one M) (by omega) (by unfold maxLen; omega) (by omega) hB _ rfl ?_
  · rw [Addr.add_mid]
    exact hr j u hj
  · intro g cap w' hown' hgrow hg _
    refine h g cap w' ?_ hgrow hg
    unfold Kind.Own
    rw [K.flat_append, List.length_append]
    exact hown'
theorem wp_build_int {w : World} {o : Oper} {a : Act} {R : Act → World → Prop} {Q : Exit → Act → World → Prop} (x : Operand) (ho : o.op = .buildSlice 35 1 #[(0, x)]) (n : Int) (hx : a.eval x = .int .i64 n)
    (h : ∀ w', KI.At w' (.slice (some ⟨w.heap.size, 0, none⟩) 1 1) [n] → w.heap.size < w'.heap.size → Below w.heap.size w w' → R (a.put o.dst (.slice (some ⟨w.heap.size, 0, none⟩) 1 1)) w') : o.wp Tryd.prog a w R Q := by
  obtain ⟨ie, hie, hq⟩ := Option.map_eq_some_iff.1 KI.info
  simp only [Prod.mk.injEq] at hq
  obtain ⟨hz, hsz, hby⟩ := hq
  have hr0 : Array.range 1 = #[0] := Array.ext' (by rw [Array.toList_range]; rfl)
  refine wp_buildSlice 35 3 1 _ ho #[.int .i64 n] ie (.int .i64 0) Tryd.underlying35 hie hz (by rw [hsz]; decide) (by rw [hsz]; decide) (by rw [hsz]; simp [hx, KI, Instr.fill, Value.cells, hr0]) ?_
  refine h _ (Or.inr ⟨w.heap.size, 0, 1, rfl, by simp, Nat.le_refl _, fun j u hj => ?_⟩) (by show w.heap.size < (w.heap.push _).size; rw [Array.size_push]; omega) ((Below.refl _ _).alloc (Nat.le_refl _) _)
  rw [Nat.zero_add, Lib.cell_of_heap (heap_alloc_new w _)]
  simp only [Kind.flat, KI, List.flatMap_cons, List.flatMap_nil, List.append_nil] at hj
  rw [← hj]
  simp
theorem ki_grown {w2 : World} {row : Option Nat} {b : Nat} {v : Value} {L : List Int} (h : KI.At w v L) (hg : w.grownBy w2 row) (hv : ∃ n c, v = .slice (some ⟨b, 0, none⟩) n c) (hr : row ≠ some b) : KI.At w2 v L := by
  obtain ⟨n, c, rfl⟩ := hv
  rcases h with ⟨a, cap, h1, h2⟩ | ⟨g', o, cap, h1, h0, hc, hx⟩
  · exact Or.inl ⟨a, cap, h1, h2⟩
  · refine Or.inr ⟨g', o, cap, h1, h0, hc, fun j u hj => ?_⟩
    have hcell := hx j u hj
    cases h1
    rw [World.cell?_of_block (hg.block b (World.block_lt_of_cell? _ _ hcell) (Ne.symm hr))]
    exact hcell
set_option maxRecDepth 100000 in
set_option maxHeartbeats 3200000 in
theorem code_AppendR {n : Nat} (h : RAtC F w q g S all rs) (hS : GoodN n S) (hn : n ≤ 1000000) (ht : Tab w) (s : ByteArray) (hs : s.size ≤ maxLen) :
    Calls Tryd.prog 11 #[.pointer (some ⟨q, 0, none⟩), .string s] w (CallTo F w q g (appendR S all s.data.toList).1 (appendR S all s.data.toList).2.1 (appendR S all s.data.toList).2.2 rs) := by
  obtain ⟨⟨ev, lv, hq, hd, hF⟩, hfl, hsm⟩ := h
  have HF := Lib.hid hF
  have HFL := Lib.hid hfl
  have HSM := Lib.hid hsm
  have hgood := good_appendR hS all s.data.toList
  obtain ⟨r, T, al, hR⟩ : ∃ r T al, appendR S all s.data.toList = (r, T, al) := ⟨_, _, _, rfl⟩
  rw [hR] at hgood ⊢
  have HGD := Lib.hid (show ∀ x ∈ T.now, x.size ≤ 1048576 from hgood.now)
  unfold appendR at hR
  rw [len_data] at hR
  by_cases h1 : 65536 < s.size
  · rw [if_pos h1] at hR
    simp only [Prod.mk.injEq] at hR
    obtain ⟨rfl, rfl, rfl⟩ := hR
    have HP := Lib.hid (code_Put_long s w h1 hs)
    have HQ := Lib.hid hq
    have HD := Lib.hid hd
    clear hq hd hF hfl hsm hgood hS
    go_enter Tryd.func11, Tryd.ntmps11
    go_wp2_with (go_at_call 37; refine HP.out.mono ?_; rintro e w1 ⟨rfl, hb1⟩)
    go_ret
    exact call_to HF.out (HQ.out.below hb1) (HD.out.kept (F := fun _ => False) (Frm.of_below hb1) id (fun _ _ => id)) HFL.out HSM.out (Frm.of_below hb1) (fun _ h => Or.inl h) (fun _ h => Or.inl h) rfl
  rw [if_neg h1] at hR
  have HP := Lib.hid (code_Put_ok s w (by omega) ht)
  obtain ⟨ea, en, ec, rfl, hen⟩ : ∃ a n c, ev = .slice a n c ∧ all.length = n := by
    obtain ⟨a, c, e, _⟩ := hq.form
    exact ⟨a, _, c, e, rfl⟩
  rw [hen] at hR
  have HEN := Lib.hid hen
  have HQ := Lib.hid hq
  have HD := Lib.hid hd
  have HS := Lib.hid hS
  by_cases h2 : 512 ≤ en
  · rw [if_pos h2] at hR
    simp only [Prod.mk.injEq] at hR
    obtain ⟨rfl, rfl, rfl⟩ := hR
    have h2i : (512 : Int) ≤ (en : Int) := by omega
    clear hq hd hF hfl hsm hgood hS hen ht
    go_enter Tryd.func11, Tryd.ntmps11
    go_upto_region 4 with (go_at_call 37; refine HP.out.mono ?_; rintro e w1 ⟨rfl, hb1⟩)
    have hq1 := HQ.out.below hb1
    have hc1 := hq1.cRow
    have HQ1 := Lib.hid hq1
    clear hq1
    go_wp2
    go_ret
    exact call_to HF.out HQ1.out (HD.out.kept (F := fun _ => False) (Frm.of_below hb1) id (fun _ _ => id)) HFL.out HSM.out (Frm.of_below hb1) (fun _ h => Or.inl h) (fun _ h => Or.inl h) rfl
  rw [if_neg h2] at hR
  have h2i : ¬ (512 : Int) ≤ (en : Int) := by omega
  obtain ⟨t, htt⟩ : ∃ t, bs (frameL s.data.toList) = t := ⟨_, rfl⟩
  have htz : t.size ≤ 16777216 := by rw [← htt, bs_size, frameL_len, len_data]; omega
  rw [show bt (frameL s.data.toList) = t from htt] at hR
  rw [htt] at HP
  obtain ⟨fq, hfq⟩ : ∃ fq : Int, ((en / 8 : Nat) : Int) = fq := ⟨_, rfl⟩
  rw [hfq] at hR
  obtain ⟨er, S3, hX⟩ : ∃ er S3, appendS S fq t = (er, S3) := ⟨_, _, rfl⟩
  rw [hX] at hR
  have hap := append_now S (en / 8) t
  rw [hfq, hX] at hap
  have HAP := Lib.hid (show (er = 0 → S3.now = S.now.set (en / 8) (S.now.getD (en / 8) ⟨#[]⟩ ++ t)) ∧ (er ≠ 0 → S3.now = S.now) from hap)
  have HCA := Lib.hid (fun W (hd : DAt W g lv S) => code_Append g lv S fq t W hd (fits_of hS (by omega)))
  rw [hX] at HCA
  have hq8 : (en : Int) / 8 = fq := by omega
  have HTZ := Lib.hid htz
  have HTT := Lib.hid htt
  have HFQ := Lib.hid hfq
  have HR := Lib.hid hR
  have HSL := Lib.hid (show s.data.toList.length ≤ 65536 by rw [len_data]; omega)
  have HEL := Lib.hid (show en < 512 by omega)
  have hfq0 : 0 ≤ fq ∧ fq < 64 := by omega
  have HFQ0 := Lib.hid hfq0
  clear hq hd hF hfl hsm hgood hS hen ht htt htz hX hap hR hfq
  go_enter Tryd.func11, Tryd.ntmps11
  go_upto_region 4 with (go_at_call 37; refine HP.out.mono ?_; rintro e w1 ⟨rfl, hb1⟩)
  have hq1 := HQ.out.below hb1
  have hd1 : DAt w1 g lv S := HD.out.kept (F := fun _ => False) (Frm.of_below hb1) id (fun _ _ => id)
  have hc0 := hq1.cDisk
  have hc1 := hq1.cRow
  have HQ1 := Lib.hid hq1
  have HC := Lib.hid (HCA.out w1 hd1)
  have HA1 := Lib.hid (apart hq1 hd1)
  have HB1 := Lib.hid hb1
  clear hq1 hd1 hb1
  go_upto_region 10 with (go_at_call 27; refine HC.out.mono ?_; rintro e w3 ⟨rfl, lv3, hl3⟩)
  have HQ3 := Lib.hid (HQ1.out.kept hl3.frm HA1.out)
  have HD3 := Lib.hid (show DAt w3 g lv3 S3 from hl3.at_)
  have HF3 := Lib.hid (show Frm (fun k => qfoot q (.slice ea en ec) k ∨ foot g lv k) w w3 from ((Frm.of_below HB1.out).trans hl3.frm (fun i hi => Or.inl (Or.inr hi))))
  have HL3 := Lib.hid (show ∀ k, lv3.ownBlock = some k → lv.ownBlock = some k ∨ w.heap.size ≤ k from fun k hk => by
    rcases hl3.foot k hk with h3 | h3
    · exact Or.inl h3
    · exact Or.inr (Nat.le_trans HB1.out.size h3))
  clear hl3 hc0 hc1
  by_cases he : er = 0
  · have HR3 := Lib.hid (HR.out.symm.trans (if_pos he))
    have hnow := HAP.out.1 he
    subst he
    obtain ⟨e1, e2, e3⟩ : r = 0 ∧ T = S3 ∧ al = all ++ [s.data.toList] := by
      have := HR3.out
      simp only [Prod.mk.injEq] at this
      exact this
    subst e1 e2 e3
    have hfs : Files T.now (all ++ [s.data.toList]) := by
      rw [hnow, ← HTT.out, ← HEN.out]
      exact HFL.out.snoc _ HSL.out (by rw [HEN.out]; exact HEL.out)
    obtain ⟨sz, hsz⟩ : ∃ sz : Int, ((sizeF T fq : Nat) : Int) = sz := ⟨_, rfl⟩
    have hsz2 : sz = ((frs (fileT (all ++ [s.data.toList]) (all.length / 8))).length : Int) := by
      rw [← hsz, ← HFQ.out]
      unfold sizeF
      have := HEL.out
      rw [if_neg (by omega), Int.toNat_natCast, ← HEN.out, hfs.size (by rw [HEN.out]; omega)]
    have HSZ := Lib.hid hsz
    have HFS := Lib.hid hfs
    have HEF := Lib.hid (show endsN (all ++ [s.data.toList]) = endsN all ++ [sz] by rw [endsN_snoc, hsz2])
    have HN1 := Lib.hid (show (endsN all).length + [sz].length = en + 1 by rw [endsN_len, HEN.out]; rfl)
    have HRM := Lib.hid (show ((endsN all).length + [sz].length) * (KI.bytes + 1) ≤ 1099511627776 by rw [HN1.out]; have := HEL.out; show (en + 1) * 9 ≤ _; omega)
    clear hsz hsz2 hfs hnow
    go_upto_region 12 with fail
    refine QT.wp_region_facts_one 13 12 (by decide) (by kernel_rfl) (fun w' => Below w3.heap.size w3 w') (fun w' => Frm (fun k => (Value.slice ea en ec).ownBlock = some k) w3 w') (fun n v w' => (([.val (.pointer (some ⟨q, 0, none⟩)), .val (.pointer (some ⟨q, 0, none⟩)), .val (.pointer (some ⟨q, 0, none⟩)), .val (.pointer (some ⟨q, 1, none⟩)), .val (.slice ea en ec), .val (.pointer (some ⟨q, 0, none⟩)), .val (.pointer (some ⟨q, 0, none⟩)), .val (.pointer (some ⟨q, 0, none⟩)), .val (.pointer (some ⟨g, 0, none⟩)), .val (.int .i64 fq), .val (.int .i64 sz), .one sz w3.heap.size, .own (fun k => (Value.slice ea en ec).ownBlock = some k ∨ w3.heap.size ≤ k) (en + 1) (endsN (all ++ [s.data.toList]))] : List FactI).getD n (.val undef) : FactI).holds v w') (by kernel_rfl) (by kernel_rfl) (Below.refl _ _).drew (fun w1 w2 h1 hb => h1.trans (hb.mono h1.size)) (fun w1 w2 h1 hb => h1.trans (Frm.of_below (F := fun _ => False) hb) (fun i hi => hi.elim)) (fun n v w1 w2 h hb => FactI.kept _ v w1 w2 h hb) (fun o ho a wz hI hag hdep => ?_) (fun n o hn hnd ho a wz hI hag hdep => ?_) (fun a wz hI hag hf => ?_)
    · have t0 : a.eval (.tmp 0) = .pointer (some ⟨q, 0, none⟩) := hag.old 0 _ (by kernel_rfl) rfl
      have t7 : a.eval (.tmp 7) = .int .i64 fq := hag.old 7 _ (by kernel_rfl) rfl
      obtain rfl := (Option.some.inj ho).symm
      have d45 : a.eval (.tmp 45) = .slice ea en ec := hdep _ (Array.mem_of_getElem? (i := 0) rfl) rfl _ _ rfl rfl
      have d52 : ((.one sz w3.heap.size) : FactI).holds (a.eval (.tmp 52)) wz := hdep _ (Array.mem_of_getElem? (i := 1) rfl) rfl _ _ rfl rfl
      obtain ⟨g1, e1, hg1, hat1⟩ := d52
      refine ⟨rfl, wp_append_grow (K := KI) (.tmp 45) (.tmp 52) 35 rfl Tryd.underlying35 0 d45 (HQ3.out.below hI).row _ [sz] rfl hat1 (by simp) (en + 1) HN1.out HRM.out (Nat.zero_le _) ?_⟩
      intro gg cap w2 hown2 hgrow hk2
      have hfr : Frm (fun k => (Value.slice ea en ec).ownBlock = some k) w3 wz := (Frm.of_below hI).mono (fun _ h => False.elim h)
      refine ⟨_, rfl, ⟨by rw [HEF.out]; exact hown2, gg, cap, rfl, hk2.imp id (fun h => by rw [h]; exact hI.size)⟩, hfr.grown hgrow (fun k e => Or.inl e), fun j u hj hu => ?_⟩
      match j, hj, hu with
      | 0, _, hu => exact hu
      | 1, _, hu => exact hu
      | 2, _, hu => exact hu
      | 3, _, hu => exact hu
      | 4, _, hu => exact hu
      | 5, _, hu => exact hu
      | 6, _, hu => exact hu
      | 7, _, hu => exact hu
      | 8, _, hu => exact hu
      | 9, _, hu => exact hu
      | 10, _, hu => exact hu
      | 11, _, hu =>
        obtain ⟨g3, h1, h2, h3⟩ := hu
        have hlt := HQ3.out.rowLt
        exact ⟨g3, h1, ⟨h2.1, Nat.lt_of_lt_of_le h2.2 hgrow.size⟩, ki_grown h3 hgrow ⟨1, 1, h1⟩ (fun e => by have := hlt g3 e; have := h2.1; omega)⟩
      | 12, hj, _ => exact absurd rfl hj
      | j + 13, _, hu => exact hu
    · have t0 : a.eval (.tmp 0) = .pointer (some ⟨q, 0, none⟩) := hag.old 0 _ (by kernel_rfl) rfl
      have t7 : a.eval (.tmp 7) = .int .i64 fq := hag.old 7 _ (by kernel_rfl) rfl
      have hsz : w3.heap.size ≤ wz.heap.size := hI.elim (fun h => h.size) (fun h => h.size)
      have hfz : Frm (fun k => (Value.slice ea en ec).ownBlock = some k) w3 wz := hI.elim (fun h => (Frm.of_below h).mono (fun _ h => False.elim h)) id
      have hqz := (hfz.block q HQ3.out.lt HQ3.out.ne).trans HQ3.out.heap
      have c0 : wz.cell? ⟨q, 0, none⟩ = some (.pointer (some ⟨g, 0, none⟩)) := by rw [Lib.cell_of_heap hqz]; rfl
      have c1 : wz.cell? ⟨q, 1, none⟩ = some (.slice ea en ec) := by rw [Lib.cell_of_heap hqz]; rfl
      have hdz : DAt wz g lv3 T := HD3.out.kept hfz (fun e => apart HQ3.out HD3.out g (Or.inr e) (Or.inl rfl)) (fun k hk e => apart HQ3.out HD3.out k (Or.inr e) (Or.inr hk))
      match n, ho with
      | 0, ho =>
        obtain rfl := (Option.some.inj ho).symm
        exact ⟨rfl, QT.wp_value (BigFrame.run_move (.tmp 0) rfl wz) ⟨_, rfl, t0, Below.refl _ _⟩⟩
      | 1, ho =>
        obtain rfl := (Option.some.inj ho).symm
        exact ⟨rfl, QT.wp_value (BigFrame.run_move (.tmp 0) rfl wz) ⟨_, rfl, t0, Below.refl _ _⟩⟩
      | 2, ho =>
        obtain rfl := (Option.some.inj ho).symm
        have d42 : a.eval (.tmp 42) = .pointer (some ⟨q, 0, none⟩) := hdep _ (Array.mem_of_getElem? (i := 0) rfl) rfl _ _ rfl rfl
        exact ⟨rfl, QT.wp_value (v := .pointer (some ⟨q, 0, none⟩)) (by simp [go_sem, QT.nf d42]) ⟨_, rfl, rfl, Below.refl _ _⟩⟩
      | 3, ho =>
        obtain rfl := (Option.some.inj ho).symm
        have d43 : a.eval (.tmp 43) = .pointer (some ⟨q, 0, none⟩) := hdep _ (Array.mem_of_getElem? (i := 0) rfl) rfl _ _ rfl rfl
        exact ⟨rfl, QT.wp_value (v := .pointer (some ⟨q, 1, none⟩)) (by simp [go_sem, QT.nf d43]) ⟨_, rfl, rfl, Below.refl _ _⟩⟩
      | 4, ho =>
        obtain rfl := (Option.some.inj ho).symm
        have d44 : a.eval (.tmp 44) = .pointer (some ⟨q, 1, none⟩) := hdep _ (Array.mem_of_getElem? (i := 0) rfl) rfl _ _ rfl rfl
        exact ⟨rfl, QT.wp_value (v := .slice ea en ec) (by simp [go_sem, QT.nf d44, c1]) ⟨_, rfl, rfl, Below.refl _ _⟩⟩
      | 5, ho =>
        obtain rfl := (Option.some.inj ho).symm
        exact ⟨rfl, QT.wp_value (BigFrame.run_move (.tmp 0) rfl wz) ⟨_, rfl, t0, Below.refl _ _⟩⟩
      | 6, ho =>
        obtain rfl := (Option.some.inj ho).symm
        have d46 : a.eval (.tmp 46) = .pointer (some ⟨q, 0, none⟩) := hdep _ (Array.mem_of_getElem? (i := 0) rfl) rfl _ _ rfl rfl
        exact ⟨rfl, QT.wp_value (v := .pointer (some ⟨q, 0, none⟩)) (by simp [go_sem, QT.nf d46]) ⟨_, rfl, rfl, Below.refl _ _⟩⟩
      | 7, ho =>
        obtain rfl := (Option.some.inj ho).symm
        have d47 : a.eval (.tmp 47) = .pointer (some ⟨q, 0, none⟩) := hdep _ (Array.mem_of_getElem? (i := 0) rfl) rfl _ _ rfl rfl
        exact ⟨rfl, QT.wp_value (v := .pointer (some ⟨q, 0, none⟩)) (by simp [go_sem, QT.nf d47]) ⟨_, rfl, rfl, Below.refl _ _⟩⟩
      | 8, ho =>
        obtain rfl := (Option.some.inj ho).symm
        have d48 : a.eval (.tmp 48) = .pointer (some ⟨q, 0, none⟩) := hdep _ (Array.mem_of_getElem? (i := 0) rfl) rfl _ _ rfl rfl
        exact ⟨rfl, QT.wp_value (v := .pointer (some ⟨g, 0, none⟩)) (by simp [go_sem, QT.nf d48, c0]) ⟨_, rfl, rfl, Below.refl _ _⟩⟩
      | 9, ho =>
        obtain rfl := (Option.some.inj ho).symm
        exact ⟨rfl, QT.wp_value (BigFrame.run_move (.tmp 7) rfl wz) ⟨_, rfl, t7, Below.refl _ _⟩⟩
      | 10, ho =>
        obtain rfl := (Option.some.inj ho).symm
        have d49 : a.eval (.tmp 49) = .pointer (some ⟨g, 0, none⟩) := hdep _ (Array.mem_of_getElem? (i := 0) rfl) rfl _ _ rfl rfl
        have d50 : a.eval (.tmp 50) = .int .i64 fq := hdep _ (Array.mem_of_getElem? (i := 1) rfl) rfl _ _ rfl rfl
        have hck := code_Size g lv3 T fq wz hdz
        rw [HSZ.out] at hck
        exact ⟨rfl, QT.wp_enter (f := 38) (args := #[.pointer (some ⟨g, 0, none⟩), .int .i64 fq]) (R := fun w' => wz = w') (by simp [go_sem, QT.nf d49, QT.nf d50]) hck fun w' e => ⟨_, rfl, rfl, e ▸ Below.refl _ _⟩⟩
      | 11, ho =>
        obtain rfl := (Option.some.inj ho).symm
        have d51 : a.eval (.tmp 51) = .int .i64 sz := hdep _ (Array.mem_of_getElem? (i := 0) rfl) rfl _ _ rfl rfl
        exact ⟨rfl, wp_build_int (.tmp 51) rfl sz d51 (fun w' hat hlt hb => ⟨_, rfl, ⟨_, rfl, ⟨hsz, hlt⟩, hat⟩, hb⟩)⟩
      | 12, ho =>
        exact absurd rfl hnd
      | n + 13, ho => omega
    · have f0 : a.eval (.tmp 41) = .pointer (some ⟨q, 0, none⟩) := hf 0 _ _ (by omega) rfl rfl
      have f1 : a.eval (.tmp 42) = .pointer (some ⟨q, 0, none⟩) := hf 1 _ _ (by omega) rfl rfl
      have f2 : a.eval (.tmp 43) = .pointer (some ⟨q, 0, none⟩) := hf 2 _ _ (by omega) rfl rfl
      have f3 : a.eval (.tmp 44) = .pointer (some ⟨q, 1, none⟩) := hf 3 _ _ (by omega) rfl rfl
      have f4 : a.eval (.tmp 45) = .slice ea en ec := hf 4 _ _ (by omega) rfl rfl
      have f5 : a.eval (.tmp 46) = .pointer (some ⟨q, 0, none⟩) := hf 5 _ _ (by omega) rfl rfl
      have f6 : a.eval (.tmp 47) = .pointer (some ⟨q, 0, none⟩) := hf 6 _ _ (by omega) rfl rfl
      have f7 : a.eval (.tmp 48) = .pointer (some ⟨q, 0, none⟩) := hf 7 _ _ (by omega) rfl rfl
      have f8 : a.eval (.tmp 49) = .pointer (some ⟨g, 0, none⟩) := hf 8 _ _ (by omega) rfl rfl
      have f9 : a.eval (.tmp 50) = .int .i64 fq := hf 9 _ _ (by omega) rfl rfl
      have f10 : a.eval (.tmp 51) = .int .i64 sz := hf 10 _ _ (by omega) rfl rfl
      obtain ⟨u11, f11⟩ : ∃ u, a.eval (.tmp 52) = u := ⟨_, rfl⟩
      have y11 : ((.one sz w3.heap.size) : FactI).holds (a.eval (.tmp 52)) wz := hf 11 _ _ (by omega) rfl rfl
      rw [f11] at y11
      obtain ⟨u12, f12⟩ : ∃ u, a.eval (.tmp 53) = u := ⟨_, rfl⟩
      have y12 : ((.own (fun k => (Value.slice ea en ec).ownBlock = some k ∨ w3.heap.size ≤ k) (en + 1) (endsN (all ++ [s.data.toList]))) : FactI).holds (a.eval (.tmp 53)) wz := hf 12 _ _ (by omega) rfl rfl
      rw [f12] at y12
      have ha := hag.puts [(41, .pointer (some ⟨q, 0, none⟩)), (42, .pointer (some ⟨q, 0, none⟩)), (43, .pointer (some ⟨q, 0, none⟩)), (44, .pointer (some ⟨q, 1, none⟩)), (45, .slice ea en ec), (46, .pointer (some ⟨q, 0, none⟩)), (47, .pointer (some ⟨q, 0, none⟩)), (48, .pointer (some ⟨q, 0, none⟩)), (49, .pointer (some ⟨g, 0, none⟩)), (50, .int .i64 fq), (51, .int .i64 sz), (52, u11), (53, u12)] rfl (by simp) (by simp only [List.forall_mem_cons, List.not_mem_nil, false_implies, implies_true, and_true]; exact ⟨f0, f1, f2, f3, f4, f5, f6, f7, f8, f9, f10, f11, f12⟩)
      subst ha
      clear hag hf f0 f1 f2 f3 f4 f5 f6 f7 f8 f9 f10 f11 f12
      simp only [List.foldl_cons, List.foldl_nil, Act.put, List.drop_succ_cons, List.drop_zero, List.setIfInBounds_toArray, List.set_cons_succ, List.set_cons_zero]
      obtain ⟨hown12, k12, cap12, rfl, hP12⟩ := y12
      obtain ⟨hc5, hf5, hq5, hm5⟩ := HQ3.out.lay (ev3 := .slice (some ⟨k12, 0, none⟩) (en + 1) cap12) (all3 := all ++ [s.data.toList]) hI hown12 (fun k hk => by cases hk; exact hP12)
      have HQ5 := Lib.hid hq5
      have HM5 := Lib.hid hm5
      clear y11 hI hq5 hm5 hown12 hP12
      go_wp2
      go_ret
      have hap := apart HQ3.out HD3.out
      exact call_to HF.out HQ5.out (HD3.out.kept HM5.out.frm (fun hk => hap g hk (Or.inl rfl)) (fun k hk hk2 => hap k hk2 (Or.inr hk))) HFS.out HGD.out (HF3.out.trans HM5.out.frm (fun i hi => Or.inl (Or.inl hi))) (fun k hk => by
        rcases HM5.out.foot k (Or.inr hk) with (h3 | h3) | h3
        · exact absurd (h3 ▸ hk) HQ5.out.ne
        · exact Or.inl h3
        · exact Or.inr (Nat.le_trans HF3.out.size h3)) HL3.out rfl
  · have HR3 := Lib.hid (HR.out.symm.trans (if_neg he))
    have hnow := HAP.out.2 he
    obtain ⟨e1, e2, e3⟩ : r = er ∧ T = S3 ∧ al = all := by
      have := HR3.out
      simp only [Prod.mk.injEq] at this
      exact this
    subst e1 e2 e3
    have HFS := Lib.hid (show Files T.now al by rw [hnow]; exact HFL.out)
    clear hnow
    go_wp2
    go_ret
    exact call_to HF.out HQ3.out HD3.out HFS.out HGD.out HF3.out (fun _ h => Or.inl h) HL3.out rfl
end
end Go.Proofs.YtepcfmigkhacgaaDoor.Rl

namespace Go.Proofs.YtepcfmigkhacgaaDoor.Rl
open Go.RowKit Go.Proofs.YtepcfmigkhacgaaDoor.Gr Go.Proofs.YtepcfmigkhacgaaDoor.Frame Go.Proofs.YtepcfmigkhacgaaDoor.Dk
section
variable {w : World} {F : Nat → Prop} {q g : Nat} {ev lv : Value} {S : St} {all : List Tx} {rs : Nat}
theorem QAt.end_ (h : QAt w q g ev all rs) {k : Nat} (hk : k < all.length) : ∃ b c, ev = .slice (some ⟨b, 0, none⟩) all.length c ∧ all.length ≤ c ∧ ∀ j, j ≤ k → w.cell? ⟨b, j, none⟩ = some (.int .i64 (endN all j : Nat)) := by
  have hat := h.row.reads
  rcases h.row.form with ⟨_, e⟩ | ⟨b, c, rfl, _, _, hc⟩
  · have := congrArg List.length e
    rw [endsN_len] at this
    simp at this
    subst this
    simp at hk
  · rw [endsN_len] at hat hc ⊢
    refine ⟨b, c, rfl, hc, fun j hj => ?_⟩
    rcases hat with ⟨_, _, e, e2⟩ | ⟨g', o, c', e, _, _, hr⟩
    · have := congrArg List.length e2
      rw [endsN_len] at this
      simp at this
      subst this
      simp at hk
    · rw [endsN_len] at e
      simp only [Value.slice.injEq, Option.some.injEq, Addr.mk.injEq] at e
      obtain ⟨⟨rfl, rfl, _⟩, _, rfl⟩ := e
      have := range_thing hr (i := j) (x := (endN all j : Int)) (by unfold endsN; rw [List.getElem?_map, List.getElem?_range (by omega)]; rfl) (j := 0) (u := .int .i64 (endN all j : Nat)) rfl
      rw [Nat.zero_add] at this
      simpa [KI] using this
theorem end_le {N : List ByteArray} (h : Files N all) (hs : ∀ s ∈ N, s.size ≤ 1048576) {k : Nat} (hk : k < all.length) : begN all k ≤ endN all k ∧ endN all k ≤ 1048576 := by
  obtain ⟨h1, h2⟩ := file_record hk
  have h3 := h.size (f := k / 8) (by have := h.len; omega)
  have h4 := now_size hs (k / 8)
  rw [h1, List.length_append, List.length_append] at h3
  unfold begN
  omega
attribute [local irreducible] Go.wpQuiet in
set_option maxRecDepth 100000 in
set_option maxHeartbeats 1600000 in
theorem code_Get (h : RAtC F w q g S all rs) (ht : Tab w) (i : Int) :
    Calls Tryd.prog 14 #[.pointer (some ⟨q, 0, none⟩), .int .i64 i] w fun e w' => e = .returned (.tuple #[.string (bs (getR S all i).1), .int .i64 (getR S all i).2]) ∧ Below w.heap.size w w' := by
  obtain ⟨⟨ev, lv, hq, hd, _⟩, hfl, hsm⟩ := h
  have hc1 := hq.cRow
  obtain ⟨ea, en, ec, rfl, hen⟩ : ∃ a n c, ev = .slice a n c ∧ all.length = n := by
    obtain ⟨a, c, e, _⟩ := hq.form
    exact ⟨a, _, c, e, rfl⟩
  unfold getR
  rw [hen]
  by_cases h0 : i < 0
  · rw [if_pos (Or.inl h0)]
    clear hq hd hfl hsm hen
    go_enter Tryd.func14, Tryd.ntmps14
    go_wp2
    go_ret2
    exact ⟨rfl, Below.refl _ _⟩
  by_cases h1 : (en : Int) ≤ i
  · rw [if_pos (Or.inr h1)]
    clear hq hd hfl hsm hen
    go_enter Tryd.func14, Tryd.ntmps14
    go_wp2
    go_ret2
    exact ⟨rfl, Below.refl _ _⟩
  obtain ⟨k, rfl⟩ : ∃ k : Nat, i = k := ⟨i.toNat, by omega⟩
  have hk : k < all.length := by omega
  rw [if_neg (by omega), Int.toNat_natCast]
  obtain ⟨b, c, ee, hec, hcell⟩ := hq.end_ hk
  cases ee
  clear hen
  obtain ⟨en, hen⟩ : ∃ n, all.length = n := ⟨_, rfl⟩
  rw [hen] at hc1 hec h1
  obtain ⟨hbe, hem⟩ := end_le hfl hsm hk
  have hrd := read_record hfl hk
  have hce := hcell k (Nat.le_refl _)
  have hc0 := hq.cDisk
  obtain ⟨x, hx⟩ : ∃ x, all.getD k [] = x := ⟨_, rfl⟩
  have hxs : x.length ≤ 65536 := by
    rw [← hx, List.getD_eq_getElem?_getD, List.getElem?_eq_getElem hk]
    exact hfl.small _ (List.getElem_mem hk)
  rw [hx] at hrd ⊢
  have HTK := Lib.hid (fun W (hT : Tab W) => code_Take (bt (frameL x)) W (by have := frameL_len x; rw [bt_size]; unfold maxLen; omega) hT)
  have htk : takeL (bt (frameL x)).data.toList = (x, x.length + 9, 0) := by
    have := take_frame x [] hxs
    rw [List.append_nil] at this
    exact this
  rw [htk] at HTK
  unfold bkE at HTK
  have hprev : 0 < k % 8 → w.cell? ⟨b, k - 1, none⟩ = some (.int .i64 (begN all k : Nat)) := fun h => by rw [begN_prev h]; exact hcell (k - 1) (by omega)
  have hzero : ¬ 0 < k % 8 → begN all k = 0 := fun h => begN_zero (by omega)
  obtain ⟨e1, he1⟩ : ∃ e1, endN all k = e1 := ⟨_, rfl⟩
  obtain ⟨b1, hb1⟩ : ∃ b1, begN all k = b1 := ⟨_, rfl⟩
  rw [he1, hb1] at hbe hrd
  rw [he1] at hem hce
  rw [hb1] at hprev hzero
  obtain ⟨f8, hf8⟩ : ∃ f8 : Int, ((k / 8 : Nat) : Int) = f8 := ⟨_, rfl⟩
  have hk8 : (k : Int) / 8 = f8 := by omega
  rw [hf8] at hrd
  have HRD := Lib.hid (fun n => same_w (code_Read g lv S f8 (b1 : Nat) ((e1 : Int) - (b1 : Nat)) (w.drewN n) (dat_dn hd n) hsm))
  rw [hrd] at HRD
  have hkb : (k : Int) < (en : Int) := by omega
  have hbei : (b1 : Int) ≤ (e1 : Int) := by omega
  have hemi : (e1 : Int) ≤ 1048576 := by omega
  have hen2 : en ≤ 512 := by rw [← hen]; exact hfl.len
  have HT := Lib.hid ht
  clear hq hd hfl hsm hen hcell he1 hb1 hf8 hrd hbe hem hk hx hxs htk ht
  have H8 := Lib.hid (show (k : Int) % 8 = ((k % 8 : Nat) : Int) by omega)
  by_cases hm : 0 < k % 8
  · have hmi : (0 : Int) < (k : Int) % 8 := by rw [H8.out]; omega
    have hpc := hprev hm
    have hk1 : (1 : Int) ≤ (k : Int) := by omega
    clear hprev hzero
    cases hon : S.on with
    | false =>
      rw [hon] at HRD
      simp only [Bool.false_eq_true, if_false] at HRD
      go_enter Tryd.func14, Tryd.ntmps14
      go_upto_region 8 with fail
      go_quiet ((go_at_call 39; refine Calls.quiet_of_same (HRD.out _)))
      have HB := Lib.hid (below_dn (Below.refl w.heap.size w) nq)
      generalize w.drewN nq = w2 at HB ⊢
      go_wp2
      go_ret2
      exact ⟨rfl, HB.out⟩
    | true =>
      rw [hon] at HRD
      simp only [if_true] at HRD
      go_enter Tryd.func14, Tryd.ntmps14
      go_upto_region 8 with fail
      go_quiet ((go_at_call 39; refine Calls.quiet_of_same (HRD.out _)))
      have HB := Lib.hid (below_dn (Below.refl w.heap.size w) nq)
      have HK := Lib.hid (HTK.out (w.drewN nq) (HT.out.kept HB.out))
      generalize w.drewN nq = w2 at HB HK ⊢
      go_wp2_with (go_at_call 40; refine HK.out.mono ?_; rintro e w3 ⟨rfl, hb3⟩)
      go_ret2
      exact ⟨rfl, HB.out.trans (hb3.mono HB.out.size)⟩
  · have hmi : ¬ (0 : Int) < (k : Int) % 8 := by rw [H8.out]; omega
    have hz := hzero hm
    subst hz
    clear hprev hzero
    cases hon : S.on with
    | false =>
      rw [hon] at HRD
      simp only [Bool.false_eq_true, if_false] at HRD
      go_enter Tryd.func14, Tryd.ntmps14
      go_upto_region 8 with fail
      go_quiet ((go_at_call 39; refine Calls.quiet_of_same (HRD.out _)))
      have HB := Lib.hid (below_dn (Below.refl w.heap.size w) nq)
      generalize w.drewN nq = w2 at HB ⊢
      go_wp2
      go_ret2
      exact ⟨rfl, HB.out⟩
    | true =>
      rw [hon] at HRD
      simp only [if_true] at HRD
      go_enter Tryd.func14, Tryd.ntmps14
      go_upto_region 8 with fail
      go_quiet ((go_at_call 39; refine Calls.quiet_of_same (HRD.out _)))
      have HB := Lib.hid (below_dn (Below.refl w.heap.size w) nq)
      have HK := Lib.hid (HTK.out (w.drewN nq) (HT.out.kept HB.out))
      generalize w.drewN nq = w2 at HB HK ⊢
      go_wp2_with (go_at_call 40; refine HK.out.mono ?_; rintro e w3 ⟨rfl, hb3⟩)
      go_ret2
      exact ⟨rfl, HB.out.trans (hb3.mono HB.out.size)⟩
end
end Go.Proofs.YtepcfmigkhacgaaDoor.Rl

namespace Go.Proofs.YtepcfmigkhacgaaDoor.Rl
open Go.RowKit Go.Proofs.YtepcfmigkhacgaaDoor.Gr Go.Proofs.YtepcfmigkhacgaaDoor.Frame Go.Proofs.YtepcfmigkhacgaaDoor.Dk

def stepC (br : Nat) (p : Nat × Nat × Nat) : Clo := ⟨42, [⟨br, 0, none⟩, ⟨p.2.1, 0, none⟩, ⟨p.2.2, 0, none⟩]⟩
theorem run_sync1 (args : Array Value) (w : World) : Sem.run Tryd.prog (callFunc 42 args) w = .ok (.enter 42 args) w := rfl
/-- A step's variables. -/
def VarAt (w : World) (n : Nat) (p : Nat × Nat × Nat) : Prop := w.heap[p.2.1]? = some (.cells #[.int .i64 p.1] 3 (0, 0)) ∧ w.heap[p.2.2]? = some (.cells #[.int .i64 (min (8 * p.1 + 8) n : Nat)] 3 (0, 0))
section
variable {w : World} {F : Nat → Prop} {q g : Nat} {ev lv : Value} {S : St} {all : List Tx} {rs : Nat}
/-- What the steps of Sync leave. -/
structure SyncR (w9 : World) (q g : Nat) (ev lv : Value) (all : List Tx) (S : St) (w1 : World) (T : St) (rs : Nat) : Prop where
  q_ : QAt w1 q g ev all rs
  d : ∃ lv1, DAt w1 g lv1 T ∧ ∀ k, lv1.ownBlock = some k → lv.ownBlock = some k ∨ w9.heap.size ≤ k
  frm : Frm (fun k => qfoot q ev k ∨ foot g lv k) w9 w1
  now : T.now = S.now
theorem typ_apart (hq : QAt w q g ev all rs) (hd : DAt w g lv S) {k : Nat} {cs : Array Value} {t : TypeId} (hk : w.heap[k]? = some (.cells cs t (0, 0))) (h1 : t ≠ 69) (h2 : t ≠ 67) (h3 : t ≠ 84) : k ≠ q ∧ ¬ foot g lv k := by
  refine ⟨fun e => ?_, fun hf => ?_⟩
  · subst e
    rw [hq.heap] at hk
    simp only [Option.some.injEq, Obj.cells.injEq] at hk
    exact h1 hk.2.1.symm
  · rcases hf with rfl | hf
    · rw [hd.heap] at hk
      simp only [Option.some.injEq, Obj.cells.injEq] at hk
      exact h2 hk.2.1.symm
    · obtain ⟨c, hc⟩ := own_type hd.own k hf
      rw [hk] at hc
      simp only [Option.some.injEq, Obj.cells.injEq] at hc
      exact h3 hc.2.1
theorem code_syncs {n : Nat} (w9 : World) (hq : QAt w9 q g ev all rs) (hd : DAt w9 g lv S) (hS : GoodN n S) (hn : n ≤ 1000000) {br : Nat} {V : List (Nat × Nat × Nat)} {vv : Value} {Bv : Nat} (hrow : KF.Own Bv vv (V.map (stepC br)) w9)
    (hbr : w9.heap[br]? = some (.cells #[.pointer (some ⟨q, 0, none⟩)] 24 (0, 0))) (hV : ∀ p ∈ V, VarAt w9 all.length p) (hVe : ∀ p ∈ V, ev.ownBlock ≠ some p.2.1 ∧ ev.ownBlock ≠ some p.2.2) (hVl : V.length ≤ 64) :
    Calls Tryd.prog 43 #[vv] w9 fun e w' => e = .returned (.int .i64 (runS all.length (V.map (·.1)) S rs).1) ∧ SyncR w9 q g ev lv all S w' (runS all.length (V.map (·.1)) S rs).2.1 (runS all.length (V.map (·.1)) S rs).2.2 := by
  obtain ⟨L, hL⟩ : ∃ L, V.map (·.1) = L := ⟨_, rfl⟩
  have hlen : L.length = (V.map (stepC br)).length := by rw [← hL]; simp
  rw [hL]
  have hkeep : ∀ w1, Frm (fun k => qfoot q ev k ∨ foot g lv k) w9 w1 → ∀ (k : Nat) (cs : Array Value) (t : TypeId), w9.heap[k]? = some (.cells cs t (0, 0)) → t ≠ 69 → t ≠ 67 → t ≠ 84 → ev.ownBlock ≠ some k → w1.heap[k]? = some (.cells cs t (0, 0)) := fun w1 hf k cs t hk h1 h2 h3 h4 => by
    obtain ⟨k1, k2⟩ := typ_apart hq hd hk h1 h2 h3
    rw [hf.block k (Array.getElem?_eq_some_iff.1 hk).1 (fun hh => by
      rcases hh with (hh | hh) | hh
      · exact k1 hh
      · exact h4 hh
      · exact k2 hh)]
    exact hk
  have hev : ∀ (k : Nat) (cs : Array Value) (t : TypeId), w9.heap[k]? = some (.cells cs t (0, 0)) → t ≠ 3 → ev.ownBlock ≠ some k := fun k cs t hk ht e => by
    obtain ⟨c, hc⟩ := own_type hq.row k e
    rw [hk] at hc
    simp only [Option.some.injEq, Obj.cells.injEq] at hc
    exact ht hc.2.1
  have hrk : ∀ w1, Frm (fun k => qfoot q ev k ∨ foot g lv k) w9 w1 → KF.At w1 vv (V.map (stepC br)) := fun w1 hf => (own_frm1 hrow hf (fun k hk hh => by
    obtain ⟨c, hc⟩ := own_type hrow k hk
    obtain ⟨k1, k2⟩ := typ_apart hq hd (k := k) (t := KF.T) hc (by decide) (by decide) (by decide)
    rcases hh with (hh | hh) | hh
    · exact k1 hh
    · exact hev k c KF.T hc (by decide) hh
    · exact k2 hh)).reads
  refine (code_inOrder vv (V.map (stepC br)) w9 (fun i w1 => ∃ S1 rs1, SyncR w9 q g ev lv all S w1 S1 rs1 ∧ GoodN (n + i) S1 ∧ runS all.length L S rs = runS all.length (L.drop i) S1 rs1)
    (fun er w1 => er = (runS all.length L S rs).1 ∧ SyncR w9 q g ev lv all S w1 (runS all.length L S rs).2.1 (runS all.length L S rs).2.2) ⟨S, rs, ⟨hq, ⟨lv, hd, fun _ h => Or.inl h⟩, Frm.refl _ _, rfl⟩, hS, rfl⟩ (fun i w1 ⟨_, _, hl, _⟩ => hrk w1 hl.frm) (by simp; omega) ?_ ?_ ?_).mono ?_
  · intro i c args w1 hc
    obtain ⟨p, _, rfl⟩ := List.mem_map.1 (List.mem_of_getElem? hc)
    exact run_sync1 args w1
  · rintro i c w1 hc ⟨S1, rs1, hl, hg, hr⟩
    obtain ⟨lv1, hd1, hlv1⟩ := hl.d
    have hil : i < V.length := by
      have := (List.getElem?_eq_some_iff.1 hc).1
      rwa [List.length_map] at this
    obtain ⟨p, hpe⟩ : ∃ p, V[i] = p := ⟨_, rfl⟩
    have hp : V[i]? = some p := by rw [← hpe]; exact List.getElem?_eq_getElem hil
    have e1 : c = stepC br p := by
      rw [List.getElem?_map, hp] at hc
      exact (Option.some.inj hc).symm
    have e2 : L[i]? = some p.1 := by rw [← hL, List.getElem?_map, hp]; rfl
    subst e1
    have hpm := List.mem_of_getElem? hp
    obtain ⟨hv1, hv2⟩ := hV p hpm
    obtain ⟨hv3, hv4⟩ := hVe p hpm
    have hbr1 := hkeep w1 hl.frm br _ _ hbr (by decide) (by decide) (by decide) (hev br _ _ hbr (by decide))
    have hv11 := hkeep w1 hl.frm p.2.1 _ _ hv1 (by decide) (by decide) (by decide) hv3
    have hv21 := hkeep w1 hl.frm p.2.2 _ _ hv2 (by decide) (by decide) (by decide) hv4
    refine (code_sync1 w1 hd1 (fits_of hg (by omega)) hl.q_ br p.2.1 p.2.2 p.1 (min (8 * p.1 + 8) all.length) (by rw [Lib.cell_of_heap hbr1]; rfl) (by rw [Lib.cell_of_heap hv11]; rfl) (by rw [Lib.cell_of_heap hv21]; rfl)
      (typ_apart hl.q_ hd1 hbr1 (by decide) (by decide) (by decide)) (typ_apart hl.q_ hd1 hv21 (by decide) (by decide) (by decide))).mono ?_
    rintro e w2 ⟨rfl, lv2, hd2, hq2, hf2, hlv2⟩
    have hnext : runS all.length L S rs = if (syncerS S1 p.1).1 = 0 then runS all.length (L.drop (i + 1)) (syncerS S1 p.1).2 (min (8 * p.1 + 8) all.length) else ((syncerS S1 p.1).1, (syncerS S1 p.1).2, rs1) := by
      obtain ⟨hi2, hpe2⟩ := List.getElem?_eq_some_iff.1 e2
      rw [hr, List.drop_eq_getElem_cons hi2, runS, hpe2]
    have hfr : Frm (fun k => qfoot q ev k ∨ foot g lv k) w9 w2 := hl.frm.trans hf2 (fun k hk => by
      rcases hk with (hk | hk) | hk
      · exact Or.inl (Or.inr (Or.inl hk))
      · rcases hlv1 k hk with h3 | h3
        · exact Or.inl (Or.inr (Or.inr h3))
        · exact Or.inr h3
      · exact Or.inl (Or.inl (Or.inl hk)))
    have hlv : ∀ k, lv2.ownBlock = some k → lv.ownBlock = some k ∨ w9.heap.size ≤ k := fun k hk => by
      rcases hlv2 k hk with h3 | h3
      · exact hlv1 k h3
      · exact Or.inr (Nat.le_trans hl.frm.size h3)
    have hnow : (syncerS S1 p.1).2.now = S.now := (sync_now S1 p.1).trans hl.now
    refine ⟨_, rfl, fun h0 => ⟨_, _, ⟨by rw [if_pos h0] at hq2; exact hq2, ⟨lv2, hd2, hlv⟩, hfr, hnow⟩, by rw [show n + (i + 1) = n + i + 1 by omega]; exact hg.sync _, by rw [hnext, if_pos h0]⟩, fun h0 => ?_⟩
    rw [hnext, if_neg h0]
    exact ⟨rfl, by rw [if_neg h0] at hq2; exact hq2, ⟨lv2, hd2, hlv⟩, hfr, hnow⟩
  · rintro w1 ⟨S1, rs1, hl, hg, hr⟩
    rw [← hlen, List.drop_length] at hr
    rw [hr]
    exact ⟨rfl, hl⟩
  · rintro e w' ⟨er, rfl, rfl, hl⟩
    exact ⟨rfl, hl⟩
end
end Go.Proofs.YtepcfmigkhacgaaDoor.Rl

namespace Go.Proofs.YtepcfmigkhacgaaDoor.Rl
open Go.RowKit Go.Proofs.YtepcfmigkhacgaaDoor.Gr Go.Proofs.YtepcfmigkhacgaaDoor.Frame Go.Proofs.YtepcfmigkhacgaaDoor.Dk

inductive FactU where
  | val (v : Value)
  | new (H : Nat) (n : Int)
def FactU.holds : FactU → Value → World → Prop
  | .val v0, v, _ => v = v0
  | .new H n, v, w => ∃ b, v = .pointer (some ⟨b, 0, none⟩) ∧ (H ≤ b ∧ b < w.heap.size) ∧ w.heap[b]? = some (.cells #[.int .i64 n] 3 (0, 0))
theorem FactU.kept (f : FactU) (v : Value) (w w' : World) (h : f.holds v w) (hb : Below w.heap.size w w') : f.holds v w' := by
  cases f with
  | val v0 => exact h
  | new H n => obtain ⟨b, h1, h2, h3⟩ := h; exact ⟨b, h1, ⟨h2.1, Nat.lt_of_lt_of_le h2.2 hb.size⟩, (hb.block b h2.2).trans h3⟩
theorem wp_value2 {P : Program} {o : Oper} {a : Act} {w w2 : World} {K : Act → World → Prop} {Q : Exit → Act → World → Prop} {v : Value} (h : (execOp a.eval o).run P w = .ok (.value v) w2) (hk : K (a.put o.dst v) w2) : o.wp P a w K Q := by
  unfold Oper.wp
  rw [h]
  exact hk
theorem cell1_set {w : World} {b : Nat} {x : Value} {t : TypeId} (h : w.heap[b]? = some (.cells #[x] t (0, 0))) (v : Value) : (w.setCell ⟨b, 0, none⟩ v).heap[b]? = some (.cells #[v] t (0, 0)) := by
  rw [setCell_eq_setRow w b 0 _ _ _ _ h, setRow_heap _ _ _ _ _ _ h]
  rfl
/-- What Sync holds while it gathers its steps. -/
structure Held (w0 w : World) (q g : Nat) (ev : Value) (all : List Tx) (rs b0 : Nat) (sv : Value) (V : List (Nat × Nat × Nat)) : Prop where
  q_ : QAt w q g ev all rs
  row : KF.Own w0.heap.size sv (V.map (stepC b0)) w
  vars : ∀ p ∈ V, VarAt w all.length p ∧ w0.heap.size ≤ p.2.1 ∧ w0.heap.size ≤ p.2.2
  low : Below w0.heap.size w0 w
  box : w.heap[b0]? = some (.cells #[.pointer (some ⟨q, 0, none⟩)] 24 (0, 0))
section
variable {w w' : World} {F : Nat → Prop} {q g : Nat} {ev lv : Value} {S : St} {all : List Tx} {rs : Nat}
theorem Held.below {w0 : World} {b0 : Nat} {sv : Value} {V : List (Nat × Nat × Nat)} (h : Held w0 w q g ev all rs b0 sv V) (hb : Below w.heap.size w w') : Held w0 w' q g ev all rs b0 sv V :=
  ⟨h.q_.below hb, h.row.kept hb, fun p hp => ⟨⟨(hb.block _ (Array.getElem?_eq_some_iff.1 (h.vars p hp).1.1).1).trans (h.vars p hp).1.1, (hb.block _ (Array.getElem?_eq_some_iff.1 (h.vars p hp).1.2).1).trans (h.vars p hp).1.2⟩, (h.vars p hp).2⟩,
    h.low.trans (hb.mono h.low.size), (hb.block _ (Array.getElem?_eq_some_iff.1 h.box).1).trans h.box⟩
theorem Held.push {w0 w3 : World} {b0 : Nat} {sv sv3 : Value} {V : List (Nat × Nat × Nat)} (h : Held w0 w q g ev all rs b0 sv V) {o : Obj} (hg : (w.alloc o).grownBy w3 sv.ownBlock) {p : Nat × Nat × Nat} (hown : KF.Own w0.heap.size sv3 (V.map (stepC b0) ++ [stepC b0 p]) w3) (hv : VarAt w all.length p ∧ w0.heap.size ≤ p.2.1 ∧ w0.heap.size ≤ p.2.2) :
    Held w0 w3 q g ev all rs b0 sv3 (V ++ [p]) := by
  have hb : Below w.heap.size w (w.alloc o) := (Below.refl _ _).alloc (Nat.le_refl _) _
  have hk : ∀ {k : Nat} {cs : Array Value} {t : TypeId}, w.heap[k]? = some (.cells cs t (0, 0)) → t ≠ 33 → w3.heap[k]? = some (.cells cs t (0, 0)) := fun hk ht => grown_block h.row hg hk ht
  refine ⟨⟨hk h.q_.heap (by decide), ?_⟩, by rw [List.map_append]; exact hown, fun x hx => ?_, grown_below h.row hg h.low h.low.size, hk h.box (by decide)⟩
  · have h1 := h.q_.row.kept hb
    refine own_frm1 h1 (frm_grown hg) (fun k hk1 hk2 => ?_)
    obtain ⟨c1, e1⟩ := own_type h.q_.row k hk1
    obtain ⟨c2, e2⟩ := own_type h.row k hk2
    rw [e1] at e2
    simp only [Option.some.injEq, Obj.cells.injEq] at e2
    exact absurd e2.2.1 (by decide)
  · rcases List.mem_append.1 hx with h1 | h1
    · exact ⟨⟨hk (h.vars x h1).1.1 (by decide), hk (h.vars x h1).1.2 (by decide)⟩, (h.vars x h1).2⟩
    · rw [List.mem_singleton.1 h1]
      exact ⟨⟨hk hv.1.1 (by decide), hk hv.1.2 (by decide)⟩, hv.2⟩
set_option maxRecDepth 100000 in
set_option maxHeartbeats 3200000 in
theorem code_SyncR {n : Nat} (h : RAtC F w q g S all rs) (hS : GoodN n S) (hn : n ≤ 1000000) :
    Calls Tryd.prog 15 #[.pointer (some ⟨q, 0, none⟩)] w (CallTo F w q g (syncR all.length 64 0 S rs).1 (syncR all.length 64 0 S rs).2.1 all (syncR all.length 64 0 S rs).2.2) := by
  obtain ⟨⟨ev, lv, hq, hd, hF⟩, hfl, hsm⟩ := h
  have HF := Lib.hid hF
  have HFL := Lib.hid hfl
  have hgood := (good_syncR (m := all.length) 64 0 n S rs hS).now
  have HDUE := Lib.hid (sync_due all.length rs hfl.len S)
  obtain ⟨R, hR⟩ : ∃ R, syncR all.length 64 0 S rs = R := ⟨_, rfl⟩
  rw [hR] at hgood HDUE ⊢
  have HGD := Lib.hid hgood
  have HD := Lib.hid hd
  have HS := Lib.hid hS
  have HNN := Lib.hid hn
  have HLT := Lib.hid hq.rowLt
  have hb0 : Below w.heap.size w (w.alloc (.cells #[.pointer (some ⟨q, 0, none⟩)] 24)) := (Below.refl _ _).alloc (Nat.le_refl _) _
  have HH0 := Lib.hid (show Held w (w.alloc (.cells #[.pointer (some ⟨q, 0, none⟩)] 24)) q g ev all rs w.heap.size (.slice none 0 0) [] from ⟨hq.below hb0, Kind.Own.nil _ _, fun p hp => by simp at hp, hb0, heap_alloc_new w _⟩)
  have HFI := Lib.hid (code_files (hq.below hb0) hfl.len)
  obtain ⟨ea, en, ec, rfl, hen⟩ : ∃ a n c, ev = .slice a n c ∧ all.length = n := by
    obtain ⟨a, c, e, _⟩ := hq.form
    exact ⟨a, _, c, e, rfl⟩
  rw [hen] at HFI HDUE
  have HEL := Lib.hid (show en ≤ 512 by rw [← hen]; exact hfl.len)
  have HEN := Lib.hid hen
  obtain ⟨m, hm⟩ : ∃ m, (en + 7) / 8 = m := ⟨_, rfl⟩
  rw [hm] at HFI HDUE
  have HM := Lib.hid (show m ≤ 64 by have := HEL.out; omega)
  have hmf : ∀ (fn : Fn) (first cap : Array Value) (w : World), (Instr.makeFunc fn first cap).run Tryd.prog w = .ok (.func fn first cap) w := fun _ _ _ _ => rfl
  have HMF := Lib.hid hmf
  clear hq hd hF hfl hsm hS hn hgood hb0 hen hm hmf hR
  go_enter Tryd.func15, Tryd.ntmps15
  go_wp2_with (go_at_call 41; refine HFI.out.mono ?_; rintro e w' ⟨rfl, rfl⟩)
  go_loopw [3, 10] (fun sv iv wr => ∃ (f : Nat) (V : List (Nat × Nat × Nat)), iv = .int .i64 f ∧ f ≤ m ∧ V.length ≤ f ∧ Held w wr q g (.slice ea en ec) all rs w.heap.size sv V ∧ dueE en rs m 0 = V.map (·.1) ++ dueE en rs m f) (fun _ iv _ => m - (intOf iv).toNat)
  case atStart => exact ⟨0, [], rfl, Nat.zero_le _, Nat.le_refl _, HH0.out, rfl⟩
  case round =>
    obtain ⟨f, V, rfl, hf, hVl, hh, hdue⟩ := hrel
    obtain ⟨sa, sn, sc, rfl, hsn⟩ : ∃ a n c, u3 = .slice a n c ∧ V.length = n := by
      obtain ⟨a, c, h, _⟩ := hh.row.reads.form
      exact ⟨a, _, c, h, by simp⟩
    have HH := Lib.hid hh
    have HDU := Lib.hid hdue
    have HVL := Lib.hid hVl
    have HSN := Lib.hid hsn
    clear hdue hVl hsn
    by_cases hlt : f < m
    · have hfi : (f : Int) < (m : Int) := by omega
      have hf64 : f < 64 := by have := HM.out; omega
      have HF64 := Lib.hid hf64
      have hfb : (f : Int) < 64 := by omega
      have HFM := Lib.hid hlt
      obtain ⟨bf, hbf⟩ : ∃ bf, wr.heap.size = bf := ⟨_, rfl⟩
      have hba : Below wr.heap.size wr (wr.alloc (.cells #[.int .i64 (f : Int)] 3)) := (Below.refl _ _).alloc (Nat.le_refl _) _
      have hh1 := hh.below hba
      have hn1 := heap_alloc_new wr (.cells #[.int .i64 (f : Int)] 3)
      have HBF := Lib.hid (show w.heap.size ≤ bf by rw [← hbf]; exact hh.low.size)
      clear hh hba
      go_upto_region 7 with fail
      rw [hbf] at hn1
      clear hbf
      generalize wr.alloc (.cells #[.int .i64 (f : Int)] 3) = w1 at hh1 hn1 ⊢
      obtain ⟨u, hu⟩ : ∃ u, min (8 * f + 8) en = u := ⟨_, rfl⟩
      have hul := HEL.out
      have hmin : (if (en : Int) < ((f : Int) + 1) * 8 then (en : Int) else ((f : Int) + 1) * 8) = (u : Int) := by
        split <;> omega
      have hw1 : IntKind.i64.wrap ((f : Int) + 1) = (f : Int) + 1 := wrap_in _ (by omega) (by omega)
      have hw2 : IntKind.i64.wrap (((f : Int) + 1) * 8) = ((f : Int) + 1) * 8 := wrap_in _ (by omega) (by omega)
      have HU := Lib.hid hu
      have HU512 := Lib.hid (show u ≤ 512 by omega)
      have HH1 := Lib.hid hh1
      have HN1 := Lib.hid hn1
      have HMI := Lib.hid hmin
      have HW1 := Lib.hid hw1
      have HW2 := Lib.hid hw2
      clear hh1 hn1 hu hul hmin hw1 hw2 hlt hf64
      refine QT.wp_region_facts_tail 10 (by kernel_rfl) (fun w' => Below w1.heap.size w1 w') (fun n v w' => (([.val (.int .i64 f), .val (.int .i64 ((f : Int) + 1)), .val (.int .i64 (((f : Int) + 1) * 8)), .val (.pointer (some ⟨q, 0, none⟩)), .val (.pointer (some ⟨q, 0, none⟩)), .val (.pointer (some ⟨q, 1, none⟩)), .val (.slice ea en ec), .val (.int .i64 en), .val (.int .i64 u), .new w1.heap.size 0] : List FactU).getD n (.val undef) : FactU).holds v w') (by kernel_rfl) (by kernel_rfl) (Below.refl _ _).drew (fun w1 w2 h1 hb => h1.trans (hb.mono h1.size)) (fun n v w1 w2 h hb => FactU.kept _ v w1 w2 h hb) (fun n o hn ho a wz hI hag hdep => ?_) (fun a wz hI hag hf => ?_)
      · have t1 : a.eval (.tmp 1) = .pointer (some ⟨w.heap.size, 0, none⟩) := hag.old 1 _ (by kernel_rfl) rfl
        have t4 : a.eval (.tmp 4) = .pointer (some ⟨bf, 0, none⟩) := hag.old 4 _ (by kernel_rfl) rfl
        have cf : wz.cell? ⟨bf, 0, none⟩ = some (.int .i64 f) := by rw [Lib.cell_of_heap ((hI.block bf (Array.getElem?_eq_some_iff.1 HN1.out).1).trans HN1.out)]; rfl
        have hhz := HH1.out.below hI
        have cr : wz.cell? ⟨w.heap.size, 0, none⟩ = some (.pointer (some ⟨q, 0, none⟩)) := by rw [Lib.cell_of_heap hhz.box]; rfl
        have c1 := hhz.q_.cRow
        match n, ho with
        | 0, ho =>
          obtain rfl := (Option.some.inj ho).symm
          exact ⟨rfl, QT.wp_value (v := .int .i64 f) (by simp [go_sem, QT.nf t4, cf]) ⟨_, rfl, rfl, Below.refl _ _⟩⟩
        | 1, ho =>
          obtain rfl := (Option.some.inj ho).symm
          have d13 : a.eval (.tmp 13) = .int .i64 f := hdep _ (Array.mem_of_getElem? (i := 0) rfl) rfl _ _ rfl rfl
          exact ⟨rfl, QT.wp_value (v := .int .i64 ((f : Int) + 1)) (by simp [go_sem, QT.nf d13, HW1.out]) ⟨_, rfl, rfl, Below.refl _ _⟩⟩
        | 2, ho =>
          obtain rfl := (Option.some.inj ho).symm
          have d14 : a.eval (.tmp 14) = .int .i64 ((f : Int) + 1) := hdep _ (Array.mem_of_getElem? (i := 0) rfl) rfl _ _ rfl rfl
          exact ⟨rfl, QT.wp_value (v := .int .i64 (((f : Int) + 1) * 8)) (by simp [go_sem, QT.nf d14, HW2.out]) ⟨_, rfl, rfl, Below.refl _ _⟩⟩
        | 3, ho =>
          obtain rfl := (Option.some.inj ho).symm
          exact ⟨rfl, QT.wp_value (v := .pointer (some ⟨q, 0, none⟩)) (by simp [go_sem, QT.nf t1, cr]) ⟨_, rfl, rfl, Below.refl _ _⟩⟩
        | 4, ho =>
          obtain rfl := (Option.some.inj ho).symm
          have d16 : a.eval (.tmp 16) = .pointer (some ⟨q, 0, none⟩) := hdep _ (Array.mem_of_getElem? (i := 0) rfl) rfl _ _ rfl rfl
          exact ⟨rfl, QT.wp_value (v := .pointer (some ⟨q, 0, none⟩)) (by simp [go_sem, QT.nf d16]) ⟨_, rfl, rfl, Below.refl _ _⟩⟩
        | 5, ho =>
          obtain rfl := (Option.some.inj ho).symm
          have d17 : a.eval (.tmp 17) = .pointer (some ⟨q, 0, none⟩) := hdep _ (Array.mem_of_getElem? (i := 0) rfl) rfl _ _ rfl rfl
          exact ⟨rfl, QT.wp_value (v := .pointer (some ⟨q, 1, none⟩)) (by simp [go_sem, QT.nf d17]) ⟨_, rfl, rfl, Below.refl _ _⟩⟩
        | 6, ho =>
          obtain rfl := (Option.some.inj ho).symm
          have d18 : a.eval (.tmp 18) = .pointer (some ⟨q, 1, none⟩) := hdep _ (Array.mem_of_getElem? (i := 0) rfl) rfl _ _ rfl rfl
          exact ⟨rfl, QT.wp_value (v := .slice ea en ec) (by simp [go_sem, QT.nf d18, c1]) ⟨_, rfl, rfl, Below.refl _ _⟩⟩
        | 7, ho =>
          obtain rfl := (Option.some.inj ho).symm
          have d19 : a.eval (.tmp 19) = .slice ea en ec := hdep _ (Array.mem_of_getElem? (i := 0) rfl) rfl _ _ rfl rfl
          exact ⟨rfl, QT.wp_value (v := .int .i64 en) (by simp [go_sem, QT.nf d19]) ⟨_, rfl, rfl, Below.refl _ _⟩⟩
        | 8, ho =>
          obtain rfl := (Option.some.inj ho).symm
          have d15 : a.eval (.tmp 15) = .int .i64 (((f : Int) + 1) * 8) := hdep _ (Array.mem_of_getElem? (i := 0) rfl) rfl _ _ rfl rfl
          have d20 : a.eval (.tmp 20) = .int .i64 en := hdep _ (Array.mem_of_getElem? (i := 1) rfl) rfl _ _ rfl rfl
          exact ⟨rfl, QT.wp_value (v := .int .i64 u) (by simp [go_sem, QT.nf d15, QT.nf d20, HMI.out]) ⟨_, rfl, rfl, Below.refl _ _⟩⟩
        | 9, ho =>
          obtain rfl := (Option.some.inj ho).symm
          exact ⟨rfl, wp_value2 (v := .pointer (some ⟨wz.heap.size, 0, none⟩)) (w2 := wz.alloc (.cells #[.int .i64 0] 3)) (by simp [go_sem]) ⟨_, rfl, ⟨wz.heap.size, rfl, ⟨hI.size, by show wz.heap.size < (wz.heap.push _).size; rw [Array.size_push]; omega⟩, heap_alloc_new wz _⟩, (Below.refl _ _).alloc (Nat.le_refl _) _⟩⟩
        | n + 10, ho => omega
      · have f0 : a.eval (.tmp 13) = .int .i64 f := hf 0 _ _ (by omega) rfl rfl
        have f1 : a.eval (.tmp 14) = .int .i64 ((f : Int) + 1) := hf 1 _ _ (by omega) rfl rfl
        have f2 : a.eval (.tmp 15) = .int .i64 (((f : Int) + 1) * 8) := hf 2 _ _ (by omega) rfl rfl
        have f3 : a.eval (.tmp 16) = .pointer (some ⟨q, 0, none⟩) := hf 3 _ _ (by omega) rfl rfl
        have f4 : a.eval (.tmp 17) = .pointer (some ⟨q, 0, none⟩) := hf 4 _ _ (by omega) rfl rfl
        have f5 : a.eval (.tmp 18) = .pointer (some ⟨q, 1, none⟩) := hf 5 _ _ (by omega) rfl rfl
        have f6 : a.eval (.tmp 19) = .slice ea en ec := hf 6 _ _ (by omega) rfl rfl
        have f7 : a.eval (.tmp 20) = .int .i64 en := hf 7 _ _ (by omega) rfl rfl
        have f8 : a.eval (.tmp 21) = .int .i64 u := hf 8 _ _ (by omega) rfl rfl
        obtain ⟨u9, f9⟩ : ∃ u, a.eval (.tmp 5) = u := ⟨_, rfl⟩
        have y9 : ((.new w1.heap.size 0) : FactU).holds (a.eval (.tmp 5)) wz := hf 9 _ _ (by omega) rfl rfl
        rw [f9] at y9
        have ha := hag.puts [(13, .int .i64 f), (14, .int .i64 ((f : Int) + 1)), (15, .int .i64 (((f : Int) + 1) * 8)), (16, .pointer (some ⟨q, 0, none⟩)), (17, .pointer (some ⟨q, 0, none⟩)), (18, .pointer (some ⟨q, 1, none⟩)), (19, .slice ea en ec), (20, .int .i64 en), (21, .int .i64 u), (5, u9)] rfl (by simp) (by simp only [List.forall_mem_cons, List.not_mem_nil, false_implies, implies_true, and_true]; exact ⟨f0, f1, f2, f3, f4, f5, f6, f7, f8, f9⟩)
        subst ha
        clear hag hf f0 f1 f2 f3 f4 f5 f6 f7 f8 f9
        simp only [List.foldl_cons, List.foldl_nil, Act.put, List.drop_succ_cons, List.drop_zero, List.setIfInBounds_toArray, List.set_cons_succ, List.set_cons_zero]
        obtain ⟨bu, rfl, ⟨hH9, hl9⟩, hn9⟩ := y9
        have hcu : wz.cell? ⟨bu, 0, none⟩ = some (.int .i64 0) := by rw [Lib.cell_of_heap hn9]; rfl
        have hfu : ∀ i, wz.frozen? ⟨bu, i, none⟩ = false := by intro i; simp [World.frozen?, hn9]
        have hB2 : Below w1.heap.size w1 (wz.setCell ⟨bu, 0, none⟩ (.int .i64 u)) := hI.setCell hH9 _
        have hu2 := cell1_set hn9 (.int .i64 u)
        have HBU := Lib.hid (show w.heap.size ≤ bu from Nat.le_trans HH1.out.low.size hH9)
        clear hI hl9 hn9 hH9
        go_upto_region 8 with fail
        clear hcu hfu
        generalize wz.setCell ⟨bu, 0, none⟩ (.int .i64 u) = w2 at hB2 hu2 ⊢
        have hh2 := HH1.out.below hB2
        have hf2 := (hB2.block bf (Array.getElem?_eq_some_iff.1 HN1.out).1).trans HN1.out
        have hc1 : w2.cell? ⟨bu, 0, none⟩ = some (.int .i64 u) := by rw [Lib.cell_of_heap hu2]; rfl
        have hc2 : w2.cell? ⟨w.heap.size, 0, none⟩ = some (.pointer (some ⟨q, 0, none⟩)) := by rw [Lib.cell_of_heap hh2.box]; rfl
        have hc3 := hh2.q_.cSure
        have HH2 := Lib.hid hh2
        have HF2 := Lib.hid hf2
        have HU2 := Lib.hid hu2
        clear hB2 hu2 hh2 hf2
        go_quiet (fail)
        have hdn : Below w2.heap.size w2 (w2.drewN nq) := below_dn (Below.refl _ _) nq
        have hh3 := HH2.out.below hdn
        have hf3 : (w2.drewN nq).heap[bf]? = _ := HF2.out
        have hu3 : (w2.drewN nq).heap[bu]? = _ := HU2.out
        have HH3 := Lib.hid hh3
        have HF3 := Lib.hid hf3
        have HU3 := Lib.hid hu3
        clear hdn hh3 hf3 hu3 hc1 hc2 hc3
        generalize w2.drewN nq = w3 at HH3 HF3 HU3 ⊢
        by_cases hle : u ≤ rs
        · have hlei : (u : Int) ≤ (rs : Int) := by omega
          have HNO := Lib.hid (dueE_no (n := en) (rs := rs) (m := m) HFM.out (by rw [HU.out]; omega))
          go_wp2
          go_roundw
          case rel => exact ⟨f + 1, V, by go_num, HFM.out, by have := HVL.out; omega, HH3.out, by rw [HDU.out, HNO.out]⟩
          case measure => simp [intOf]; have := HFM.out; omega
        · have hlei : ¬ (u : Int) ≤ (rs : Int) := by omega
          have HYES := Lib.hid (dueE_yes (n := en) (rs := rs) (m := m) HFM.out (by rw [HU.out]; omega))
          have hmf := HMF.out
          obtain ⟨c1, hc1⟩ : ∃ c1, stepC w.heap.size (f, bf, bu) = c1 := ⟨_, rfl⟩
          have hv1 : c1.val = .func (.func 42) #[] #[.pointer (some ⟨w.heap.size, 0, none⟩), .pointer (some ⟨bf, 0, none⟩), .pointer (some ⟨bu, 0, none⟩)] := by rw [← hc1]; rfl
          have HC1 := Lib.hid hc1
          have hba3 : Below w3.heap.size w3 (w3.alloc (.cells #[c1.val] 33)) := (Below.refl _ _).alloc (Nat.le_refl _) _
          have HO1 := Lib.hid (HH3.out.below hba3).row
          have HK1 := Lib.hid (kf_one w3 c1)
          have HS1 := Lib.hid (Nat.le_trans HH3.out.low.size hba3.size)
          rw [hv1] at HO1 HK1 HS1
          have HL1 := Lib.hid (show (V.map (stepC w.heap.size)).length + [c1].length = sn + 1 by have := HSN.out; simp; omega)
          have HR1 := Lib.hid (show ((V.map (stepC w.heap.size)).length + [c1].length) * (KF.bytes + 1) ≤ 1099511627776 by have := HVL.out; have := HF64.out; show ((V.map _).length + 1) * 9 ≤ _; rw [List.length_map]; omega)
          clear hc1 hv1 hba3
          go_wp2_with (refine wpList_append_grow (K := KF) rfl (.tmp 28) (.tmp 30) 79 rfl Tryd.underlying79 w.heap.size rfl HO1.out _ [c1] rfl HK1.out (by simp) (sn + 1) HL1.out HR1.out HS1.out ?_; intro g4 cap4 w4 hown4 hgr4 hk4 hlt4)
          have HH4 := Lib.hid (HH3.out.push (p := (f, bf, bu)) hgr4 (by rw [HC1.out]; exact hown4) ⟨⟨HF3.out, by rw [HEN.out]; show w3.heap[bu]? = some (.cells #[.int .i64 (min (8 * f + 8) en : Nat)] _ _); rw [HU.out]; exact HU3.out⟩, HBF.out, HBU.out⟩)
          clear hown4 hgr4 hk4 hlt4
          go_roundw
          case rel => exact ⟨f + 1, V ++ [(f, bf, bu)], by go_num, HFM.out, by have := HVL.out; rw [List.length_append, List.length_singleton]; omega, HH4.out, by rw [HDU.out, HYES.out, List.map_append, List.append_assoc]; rfl⟩
          case measure => simp [intOf]; have := HFM.out; omega
    · obtain rfl : f = m := by omega
      have hdl : dueE en rs f 0 = V.map (·.1) := by rw [HDU.out, dueE_end, List.append_nil]
      have hd9 : DAt wr g lv S := HD.out.kept (F := fun _ => False) (Frm.of_below hh.low) id (fun _ _ => id)
      have hst := code_syncs wr hh.q_ hd9 HS.out HNN.out hh.row hh.box (fun p hp => (hh.vars p hp).1) (fun p hp => ⟨fun e => by have := HLT.out _ e; have := (hh.vars p hp).2.1; omega, fun e => by have := HLT.out _ e; have := (hh.vars p hp).2.2; omega⟩) (by have := HVL.out; have := HM.out; omega)
      rw [HEN.out, ← hdl, HDUE.out] at hst
      have HST := Lib.hid hst
      clear hh hdl hd9 hst
      go_wp2_with (go_at_call 43; refine HST.out.mono ?_; rintro e w4 ⟨rfl, hl4⟩)
      go_ret
      obtain ⟨lv4, hd4, hlv4⟩ := hl4.d
      exact call_to HF.out hl4.q_ hd4 (by rw [hl4.now]; exact HFL.out) HGD.out ((Frm.of_below HH.out.low).trans hl4.frm (fun i hi => Or.inl hi)) (fun _ h => Or.inl h) (fun k hk => (hlv4 k hk).imp id (fun h => Nat.le_trans HH.out.low.size h)) rfl
end
end Go.Proofs.YtepcfmigkhacgaaDoor.Rl

namespace Go.Proofs.YtepcfmigkhacgaaDoor.Rl
open Go.RowKit Go.Proofs.YtepcfmigkhacgaaDoor.Gr Go.Proofs.YtepcfmigkhacgaaDoor.Frame Go.Proofs.YtepcfmigkhacgaaDoor.Dk

theorem ratc_lt {F : Nat → Prop} {w : World} {q g : Nat} {S : St} {all : List Tx} {rs : Nat} (h : RAtC F w q g S all rs) (k : Nat) (hk : F k) : k < w.heap.size := by
  obtain ⟨ev, lv, hq, hd, hF⟩ := h.ex
  rcases (hF k).1 hk with (h1 | h1) | (h1 | h1)
  · rw [h1]; exact hq.lt
  · exact hq.rowLt k h1
  · rw [h1]; exact hd.lt
  · obtain ⟨c, hc⟩ := own_type hd.own k h1
    exact (Array.getElem?_eq_some_iff.1 hc).1
theorem ratc_typed {F : Nat → Prop} {w : World} {q g : Nat} {S : St} {all : List Tx} {rs : Nat} (h : RAtC F w q g S all rs) : Typed F w := by
  obtain ⟨ev, lv, hq, hd, hF⟩ := h.ex
  intro k hk cs t fz hkk
  have h0 : ∃ c u, w.heap[k]? = some (.cells c u (0, 0)) ∧ Plain u := by
    rcases (hF k).1 hk with (h1 | h1) | (h1 | h1)
    · exact ⟨_, _, h1 ▸ hq.heap, by decide, by decide, by decide⟩
    · obtain ⟨c, hc⟩ := own_type hq.row k h1
      exact ⟨c, _, hc, by decide, by decide, by decide⟩
    · exact ⟨_, _, h1 ▸ hd.heap, by decide, by decide, by decide⟩
    · obtain ⟨c, hc⟩ := own_type hd.own k h1
      exact ⟨c, _, hc, by decide, by decide, by decide⟩
  obtain ⟨c, u, e, hu⟩ := h0
  rw [hkk] at e
  simp only [Option.some.injEq, Obj.cells.injEq] at e
  rw [e.2.1]
  exact hu
theorem ratc_kept {F G : Nat → Prop} {w w' : World} {q g : Nat} {S : St} {all : List Tx} {rs : Nat} (h : RAtC F w q g S all rs) (hf : Frm G w w') (hG : ∀ k, F k → ¬ G k) : RAtC F w' q g S all rs := by
  obtain ⟨ev, lv, hq, hd, hF⟩ := h.ex
  exact ⟨⟨ev, lv, hq.kept hf (fun k hk => hG k ((hF k).2 (Or.inl hk))), hd.kept hf (hG g ((hF g).2 (Or.inr (Or.inl rfl)))) (fun k hk => hG k ((hF k).2 (Or.inr (Or.inr hk)))), hF⟩, h.files, h.small⟩
theorem ratc_disk {F : Nat → Prop} {w : World} {q g : Nat} {S : St} {all : List Tx} {rs : Nat} (h : RAtC F w q g S all rs) :
    ∃ lv, DAt w g lv S ∧ (∀ k, foot g lv k → F k) ∧ ∀ w' lv' T, Dk.Left w g lv T w' lv' → T.now = S.now → ∃ F', RAtC F' w' q g T all rs ∧ ∀ k, F' k → F k ∨ w.heap.size ≤ k := by
  obtain ⟨ev, lv, hq, hd, hF⟩ := h.ex
  refine ⟨lv, hd, fun k hk => (hF k).2 (Or.inr hk), fun w' lv' T hl hn => ⟨fun k => qfoot q ev k ∨ foot g lv' k, ⟨⟨ev, lv', hq.kept hl.frm (apart hq hd), hl.at_, fun _ => Iff.rfl⟩, by rw [hn]; exact h.files, by rw [hn]; exact h.small⟩, fun k hk => ?_⟩⟩
  rcases hk with hk | hk | hk
  · exact Or.inl ((hF k).2 (Or.inl hk))
  · exact Or.inl ((hF k).2 (Or.inr (Or.inl hk)))
  · rcases hl.foot k hk with h3 | h3
    · exact Or.inl ((hF k).2 (Or.inr (Or.inr h3)))
    · exact Or.inr h3
/-- The landed code's reels. -/
def landed : Reels where
  At := RAtC
  lt := fun h => ratc_lt h
  typed := ratc_typed
  kept := ratc_kept
  disk := ratc_disk
  opens := fun w _ _ _ n hd hg hn ht _ => code_Open w n hd hg hn ht
  appends := fun _ s h hg hn ht _ hs => code_AppendR h hg hn ht s hs
  syncs := fun _ h hg hn => code_SyncR h hg hn
  gets := fun i h ht => code_Get h ht i
  lens := fun h => by
    obtain ⟨ev, lv, hq, _⟩ := h.ex
    exact code_Len hq
  sures := fun h => by
    obtain ⟨ev, lv, hq, _⟩ := h.ex
    exact code_Sure hq
  openNil := code_OpenNil
  appendNil := code_AppendNil
  syncNil := code_SyncNil
  getNil := code_GetNil
  lenNil := code_LenNil
  sureNil := code_SureNil
end Go.Proofs.YtepcfmigkhacgaaDoor.Rl
