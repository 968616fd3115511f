/- reel: ReelPlays: what its sixth kind of call wants. -/
import Derived.Test.YtepcfmigkhacgaaDoorRpC
import Derived.ArgAppend
namespace Go.Proofs.YtepcfmigkhacgaaDoor.Rl
open Go.RowKit Go.Proofs.YtepcfmigkhacgaaDoor.Gr Go.Proofs.YtepcfmigkhacgaaDoor.Frame Go.Proofs.YtepcfmigkhacgaaDoor.Dk

theorem mine_append {B n : Nat} {w : World} {g : Nat} {lv : Value} {S T : St} (h : Mine B n w g lv S) (hh : Home B w) (hn : n ≤ 1000000) {f : Int} {s : ByteArray} {r : Int} (hS : appendS S f s = (r, T)) :
    Calls Tryd.prog 27 #[.pointer (some ⟨g, 0, none⟩), .int .i64 f, .string s] w (fun e w' => e = .returned (.int .i64 r) ∧ ∃ lv', Moved (foot g lv) w (foot g lv') w' ∧ Mine B (n + 1) w' g lv' T ∧ Home B w') := by
  refine (code_Append g lv S f s w h.at_ (h.good.good (by omega)).toFits).mono fun _ _ ⟨he, lv', hl⟩ => ?_
  have hg := h.good.append f s
  rw [hS] at he hl hg
  exact ⟨he, lv', left_moved hl, (h.next hl hg hh.size).1, hh.frm hl.frm h.fb⟩
theorem op_nofoot {w : World} {g p : Nat} {lv : Value} {S : St} {cs : Array Value} (h : DAt w g lv S) (hp : w.heap[p]? = some (.cells cs 45 (0, 0))) : ¬ foot g lv p := by
  rintro (rfl | hk)
  · rw [h.heap] at hp
    simp only [Option.some.injEq, Obj.cells.injEq] at hp
    exact absurd hp.2.1 (by decide)
  · obtain ⟨c, hc⟩ := own_type h.own p hk
    rw [hp] at hc
    simp only [Option.some.injEq, Obj.cells.injEq] at hc
    exact absurd hc.2.1 (by decide)
/-- A beginning of a slice, with no room behind it. -/
theorem run_begin (w : World) (a : Option Addr) (n c k : Nat) (hk : k ≤ c) :
    (Instr.slice 35 (.slice a n c) none (some (.int .i64 (k : Int))) (some (.int .i64 (k : Int)))).run Tryd.prog w = .ok (.slice a k k) w := by
  have h0 : (0 : Int) ≤ (k : Int) := by omega
  have h3 : (k : Int) ≤ (c : Int) := by omega
  rw [run_slice_hm w 35 a n c (by kernel_rfl) .i64 .i64 (k : Int) (k : Int) h0 (Int.le_refl _) h3]
  simp [go_sem]
/-- append to a beginning of a slice that came in: always a new row. -/
theorem wpList_append_full {w : World} {ops : Array Oper} {rest : List Oper} {o : Oper} {a : Act} {Q : Exit → Act → World → Prop} (hgd : o.guard = none) (s x : Operand)
    (ho : o.op = .call { callee := .builtin .append, args := #[s, x], argTypes := #[35, 35] }) (ka : Option Addr) (kn kc k : Nat) (L : List Int) (hat : KI.At w (.slice ka kn kc) L) (hk : k ≤ L.length) (hs : a.eval s = .slice ka k k)
    (u : Value) (n : Int) (hx : a.eval x = u) (hu : KI.At w u [n]) (hsm : k ≤ 1000000000)
    (h : ∀ a' c' w', KI.Own w.heap.size (.slice a' (k + 1) c') (L.take k ++ [n]) w' → Below w.heap.size w w' → wpList Tryd.prog ops Q rest (a.put o.dst (.slice a' (k + 1) c')) w') : wpList Tryd.prog ops Q (o :: rest) a w := by
  obtain ⟨ie, hie, hq⟩ := Option.map_eq_some_iff.1 KI.info
  simp only [Prod.mk.injEq] at hq
  obtain ⟨hz, hsz, hby⟩ := hq
  obtain ⟨g1, o1, c1, rfl, _, hr1⟩ := hu.some (by simp)
  have hlen : (L.take k).length = k := by rw [List.length_take]; omega
  have hnil : ka = none → L = [] := fun e => by
    rcases hat with ⟨_, _, e1, e2⟩ | ⟨g, o, c, e1, _⟩
    · exact e2
    · rw [e] at e1
      simp at e1
  have hcell : ∀ b, ka = some b → ∀ (j : Nat) (v : Value), (KI.flat (L.take k))[j]? = some v → w.cell? (b.add j) = some v := fun b hb j v hv => by
    rcases hat with ⟨_, _, e1, e2⟩ | ⟨g, o, c, e1, _, _, hr⟩
    · rw [e2] at hv
      simp [Kind.flat] at hv
    · rw [hb] at e1
      simp only [Value.slice.injEq, Option.some.injEq] at e1
      rw [e1.1, Addr.add_mid]
      exact range_take hr k j v hv
  refine wpList_append_grows w hgd s x 35 ho 3 ie KI.zero 1 8 Tryd.underlying35 hie hz hsz hby KI.zsize (by decide) ka k k (KI.flat (L.take k)) hs (fun e => by have := hnil e; subst this; simp at hk; omega) (by rw [KI.flat_len, hlen]; rfl) hcell
    ⟨g1, o1, none⟩ 1 c1 (KI.flat [n]) hx rfl (fun j v hv => by rw [Addr.add_mid]; exact hr1 j v hv) (KI.flat_one _) (by omega) (by unfold maxLen; omega) (by omega) fun v' w' hown hg => ?_
  have ho2 : KI.Own w.heap.size v' (L.take k ++ [n]) w' := by
    unfold Kind.Own
    rw [KI.flat_append, List.length_append, hlen]
    exact hown
  obtain ⟨a', c', rfl, _⟩ := ho2.reads.form
  have hl2 : (L.take k ++ [n]).length = k + 1 := by rw [List.length_append, hlen]; rfl
  rw [hl2] at ho2 ⊢
  exact h a' c' w' ho2 ⟨hg.os, hg.tape, hg.output, hg.size, fun i hi => hg.block i hi (by simp)⟩
end Go.Proofs.YtepcfmigkhacgaaDoor.Rl
