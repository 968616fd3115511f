/- disk: what stays so from call to call; no disk. -/
import Derived.Test.YtepcfmigkhacgaaDoorDkJ
namespace Go.Proofs.YtepcfmigkhacgaaDoor.Dk
open Go.RowKit Go.Proofs.YtepcfmigkhacgaaDoor.Gr

/-- A disk behind at most n operations. -/
structure GoodN (n : Nat) (S : St) : Prop where
  lenN : S.now.length = 64
  lenS : S.sure.length = 64
  ops : S.ops ≤ n
  loose : S.loose.length ≤ n
  lasts : -1 ≤ S.lasts ∧ S.lasts ≤ 1099511627776
  now : ∀ s ∈ S.now, s.size ≤ 1048576
  sure : ∀ s ∈ S.sure, s.size ≤ 1048576
  chs : ∀ c ∈ S.loose, c.file < 64 ∧ c.at_ + c.s.size ≤ 1048576
theorem GoodN.good {n : Nat} {S : St} (h : GoodN n S) (hn : n ≤ 1000000000) : Good S :=
  { ops := by have := h.ops; omega, loose := by have := h.loose; omega, lasts := h.lasts, now := h.now, sure := h.sure, chs := h.chs }
theorem GoodN.mono {n m : Nat} {S : St} (h : GoodN n S) (hn : n ≤ m) : GoodN m S :=
  { h with ops := by have := h.ops; omega, loose := by have := h.loose; omega }
theorem getD_size {L : List ByteArray} (h : ∀ s ∈ L, s.size ≤ 1048576) (f : Nat) : (L.getD f ⟨#[]⟩).size ≤ 1048576 := by
  rw [List.getD_eq_getElem?_getD]
  cases hq : L[f]? with
  | none => exact Nat.zero_le _
  | some s => exact h s (List.mem_of_getElem? hq)
theorem mem_set_size {L : List ByteArray} (h : ∀ s ∈ L, s.size ≤ 1048576) (f : Nat) (t : ByteArray) (ht : t.size ≤ 1048576) : ∀ s ∈ L.set f t, s.size ≤ 1048576 := fun s hs => by
  rcases List.mem_or_eq_of_mem_set hs with h1 | h1
  · exact h s h1
  · rw [h1]; exact ht
theorem good_new : GoodN 0 newS where
  lenN := rfl
  lenS := rfl
  ops := Nat.le_refl _
  loose := Nat.le_refl _
  lasts := by decide
  now s hs := by rw [List.eq_of_mem_replicate hs]; exact Nat.zero_le _
  sure s hs := by rw [List.eq_of_mem_replicate hs]; exact Nat.zero_le _
  chs c hc := by simp [newS] at hc
theorem GoodN.op {n : Nat} {S : St} (h : GoodN n S) : GoodN (n + 1) (opS S).2 := by
  have h1 := h.ops
  have h2 := h.lasts
  have h3 := h.loose
  unfold opS
  split
  · exact { h with ops := by show S.ops + 1 ≤ n + 1; omega, loose := by show S.loose.length ≤ n + 1; omega }
  · split
    · exact { h with ops := by show S.ops + 1 ≤ n + 1; omega, loose := by show S.loose.length ≤ n + 1; omega, lasts := by show -1 ≤ S.lasts - 1 ∧ S.lasts - 1 ≤ _; omega }
    · exact { h with ops := by show S.ops + 1 ≤ n + 1; omega, loose := by show S.loose.length ≤ n + 1; omega }
theorem GoodN.append {n : Nat} {S : St} (h : GoodN n S) (f : Int) (s : ByteArray) : GoodN (n + 1) (appendS S f s).2 := by
  unfold appendS
  split
  · exact h.mono (by omega)
  · rename_i he
    obtain ⟨_, hf⟩ := errF_zero (Classical.not_not.1 he)
    split
    · exact h.mono (by omega)
    · rename_i hl
      have ho := h.op
      split
      · exact ho
      · have hz := getD_size h.now f.toNat
        have hs : (S.now.getD f.toNat ⟨#[]⟩ ++ s).size ≤ 1048576 := by rw [ByteArray.size_append]; omega
        unfold putS
        rw [opS_now]
        refine { ho with lenN := by simpa using h.lenN, loose := ?_, now := mem_set_size h.now _ _ hs, chs := ?_ }
        · show ((opS S).2.loose ++ [_]).length ≤ n + 1
          rw [opS_loose, List.length_append]
          have := h.loose
          simp
          omega
        · show ∀ c ∈ (opS S).2.loose ++ [_], _
          rw [opS_loose]
          intro c hc
          rcases List.mem_append.1 hc with h1 | h1
          · exact h.chs c h1
          · simp at h1
            subst h1
            refine ⟨by show f.toNat < 64; omega, ?_⟩
            rw [ByteArray.size_append] at hs
            exact hs
theorem GoodN.cut {n : Nat} {S : St} (h : GoodN n S) (f m : Int) : GoodN (n + 1) (cutterS S f m).2 := by
  unfold cutterS
  split
  · exact h.mono (by omega)
  · rename_i he
    obtain ⟨_, hf⟩ := errF_zero (Classical.not_not.1 he)
    split
    · exact h.mono (by omega)
    · rename_i hl
      have ho := h.op
      split
      · exact ho
      · have hz := getD_size h.now f.toNat
        have hs : ((S.now.getD f.toNat ⟨#[]⟩).extract 0 m.toNat).size ≤ 1048576 := by rw [ByteArray.size_extract]; omega
        unfold cutS
        rw [opS_now]
        refine { ho with lenN := by simpa using h.lenN, loose := ?_, now := mem_set_size h.now _ _ hs, chs := ?_ }
        · show ((opS S).2.loose ++ [_]).length ≤ n + 1
          rw [opS_loose, List.length_append]
          have := h.loose
          simp
          omega
        · show ∀ c ∈ (opS S).2.loose ++ [_], _
          rw [opS_loose]
          intro c hc
          rcases List.mem_append.1 hc with h1 | h1
          · exact h.chs c h1
          · simp at h1
            subst h1
            refine ⟨by show f.toNat < 64; omega, ?_⟩
            show m.toNat + 0 ≤ 1048576
            omega
theorem GoodN.sync {n : Nat} {S : St} (h : GoodN n S) (f : Int) : GoodN (n + 1) (syncerS S f).2 := by
  unfold syncerS
  split
  · exact h.mono (by omega)
  · have ho := h.op
    split
    · exact ho
    · unfold syncS
      refine { ho with lenS := by simpa using ho.lenS, loose := Nat.le_trans (keepF_le _ _) ho.loose, sure := mem_set_size ho.sure _ _ (getD_size ho.now _), chs := fun c hc => ho.chs c (List.mem_filter.1 hc).1 }
theorem GoodN.power {n : Nat} {S : St} (h : GoodN n S) (m : Int) : GoodN n (powerS S m).2 := by
  unfold powerS
  split
  · split
    · exact h
    · exact { h with lasts := by show -1 ≤ m ∧ m ≤ _; omega }
  · exact h
theorem mergeN_small {sure : List ByteArray} {X : List Fl} (hs : ∀ s ∈ sure, s.size ≤ 1048576) (hX : ∀ (f : Nat) (b : List UInt8), X.getD f none = some b → b.length ≤ 1048576) : ∀ n, ∀ s ∈ mergeN sure X n, s.size ≤ 1048576
  | 0 => hs
  | n + 1 => by
    cases hx : X.getD n none with
    | none => rw [mergeN_none hx]; exact mergeN_small hs hX n
    | some b =>
      rw [mergeN_some hx]
      exact mem_set_size (mergeN_small hs hX n) n _ (hX n b hx)
theorem GoodN.crash {n : Nat} {S : St} (h : GoodN n S) (keep : List Int) : GoodN n (crashS S keep) := by
  have h1 : (crashQ S keep).length = 64 := by unfold crashQ; rw [mergeN_len, h.lenS]
  have h2 : ∀ s ∈ crashQ S keep, s.size ≤ 1048576 := mergeN_small h.sure (crashN_small S.sure keep S.loose h.sure h.chs S.loose.length) 64
  exact { lenN := h1, lenS := h1, ops := h.ops, loose := Nat.zero_le _, lasts := by show -1 ≤ (-1 : Int) ∧ (-1 : Int) ≤ 1099511627776; decide, now := h2, sure := h2, chs := fun c hc => by simp [crashS] at hc }
theorem DAt.lens {w : World} {g : Nat} {lv : Value} {S : St} (h : DAt w g lv S) : S.now.length = 64 ∧ S.sure.length = 64 := ⟨h.now, h.sure⟩

/-! ### no disk -/
theorem code_On_nil (w : World) : Calls Tryd.prog 34 #[.pointer none] w fun e w' => e = .returned (.bool false) ∧ w = w' := by
  go_enter Tryd.func34, Tryd.ntmps34
  go_wp2
  go_ret
  exact ⟨rfl, rfl⟩
theorem code_Ops_nil (w : World) : Calls Tryd.prog 17 #[.pointer none] w fun e w' => e = .returned (.int .i64 0) ∧ w = w' := by
  go_enter Tryd.func17, Tryd.ntmps17
  go_wp2
  go_ret
  exact ⟨rfl, rfl⟩
theorem code_Loose_nil (w : World) : Calls Tryd.prog 29 #[.pointer none] w fun e w' => e = .returned (.int .i64 0) ∧ w = w' := by
  go_enter Tryd.func29, Tryd.ntmps29
  go_wp2
  go_ret
  exact ⟨rfl, rfl⟩
theorem code_Crash_nil (a : Option Addr) (n c : Nat) (w : World) : Calls Tryd.prog 16 #[.pointer none, .slice a n c] w fun e w' => e = .returned (.int .i64 1) ∧ Below w.heap.size w w' := by
  go_enter Tryd.func16, Tryd.ntmps16
  go_wp2_with fail
  go_ret
  exact ⟨rfl, (Below.refl _ _).alloc (Nat.le_refl _) _⟩

/-! ### a disk of the call's own -/
/-- A disk in block g, all of it in blocks from B on, behind at most n operations. -/
structure Mine (B : Nat) (n : Nat) (w : World) (g : Nat) (lv : Value) (S : St) : Prop where
  at_ : DAt w g lv S
  good : GoodN n S
  gB : B ≤ g
  own : ∀ k, lv.ownBlock = some k → B ≤ k
theorem Mine.fb {B n : Nat} {w : World} {g : Nat} {lv : Value} {S : St} (h : Mine B n w g lv S) (k : Nat) (hk : foot g lv k) : B ≤ k := by
  rcases hk with h1 | h1
  · rw [h1]; exact h.gB
  · exact h.own k h1
theorem Mine.next {B n m : Nat} {w w' : World} {g : Nat} {lv lv' : Value} {S T : St} (h : Mine B n w g lv S) (hl : Left w g lv T w' lv') (hT : GoodN m T) (hB : B ≤ w.heap.size) : Mine B m w' g lv' T ∧ Below B w w' :=
  ⟨⟨hl.at_, hT, h.gB, fun k hk => by
    rcases hl.foot k hk with h1 | h1
    · exact h.own k h1
    · omega⟩, hl.frm.below hB h.fb⟩
theorem mine_new {w : World} {g : Nat} {S : St} (h : DAt w g (.slice none 0 0) S) (hS : GoodN 0 S) {B : Nat} (hB : B ≤ g) : Mine B 0 w g (.slice none 0 0) S :=
  ⟨h, hS, hB, fun k hk => by simp [Value.ownBlock] at hk⟩
/-- What a call leaves of a disk of one's own. -/
def Step (B n : Nat) (w : World) (g : Nat) (r : Int) (T : St) (e : Ending) (w' : World) : Prop := e = .returned (.int .i64 r) ∧ Below B w w' ∧ ∃ lv', Mine B n w' g lv' T
section
variable {B n g : Nat} {w : World} {lv : Value} {S : St}
theorem Mine.append (h : Mine B n w g lv S) (hn : n ≤ 1000000) (hB : B ≤ w.heap.size) (f : Int) (s : ByteArray) : Calls Tryd.prog 27 #[.pointer (some ⟨g, 0, none⟩), .int .i64 f, .string s] w (Step B (n + 1) w g (appendS S f s).1 (appendS S f s).2) :=
  (code_Append g lv S f s w h.at_ (h.good.good (by omega)).toFits).mono fun _ _ ⟨he, lv', hl⟩ => by
    obtain ⟨h1, h2⟩ := h.next hl (h.good.append f s) hB
    exact ⟨he, h2, lv', h1⟩
theorem Mine.cut (h : Mine B n w g lv S) (hn : n ≤ 1000000) (hB : B ≤ w.heap.size) (f m : Int) : Calls Tryd.prog 66 #[.pointer (some ⟨g, 0, none⟩), .int .i64 f, .int .i64 m] w (Step B (n + 1) w g (cutterS S f m).1 (cutterS S f m).2) :=
  (code_Cut g lv S f m w h.at_ (h.good.good (by omega)).toFits).mono fun _ _ ⟨he, lv', hl⟩ => by
    obtain ⟨h1, h2⟩ := h.next hl (h.good.cut f m) hB
    exact ⟨he, h2, lv', h1⟩
theorem Mine.sync (h : Mine B n w g lv S) (hn : n ≤ 1000000) (hB : B ≤ w.heap.size) (f : Int) : Calls Tryd.prog 33 #[.pointer (some ⟨g, 0, none⟩), .int .i64 f] w (Step B (n + 1) w g (syncerS S f).1 (syncerS S f).2) :=
  (code_Sync g lv S f w h.at_ (h.good.good (by omega)).toFits).mono fun _ _ ⟨he, lv', hl⟩ => by
    obtain ⟨h1, h2⟩ := h.next hl (h.good.sync f) hB
    exact ⟨he, h2, lv', h1⟩
theorem Mine.power (h : Mine B n w g lv S) (hB : B ≤ w.heap.size) (m : Int) : Calls Tryd.prog 25 #[.pointer (some ⟨g, 0, none⟩), .int .i64 m] w (Step B n w g (powerS S m).1 (powerS S m).2) :=
  (code_Power g lv S m w h.at_).mono fun _ _ ⟨he, hl⟩ => by
    obtain ⟨h1, h2⟩ := h.next hl (h.good.power m) hB
    exact ⟨he, h2, lv, h1⟩
theorem Mine.crash (h : Mine B n w g lv S) (hn : n ≤ 1000000) (hB : B ≤ w.heap.size) (kv : Value) (keep : List Int) (hK : KI.At w kv keep) : Calls Tryd.prog 16 #[.pointer (some ⟨g, 0, none⟩), kv] w (Step B n w g 0 (crashS S keep)) :=
  (code_Crash g lv S kv keep w h.at_ (h.good.good (by omega)) hK).mono fun _ _ ⟨he, hl⟩ => by
    obtain ⟨h1, h2⟩ := h.next hl (h.good.crash keep) hB
    exact ⟨he, h2, _, h1⟩
theorem Mine.kept (h : Mine B n w g lv S) {w' : World} {F : Nat → Prop} (hf : Frm F w w') (hF : ∀ k, foot g lv k → ¬ F k) : Mine B n w' g lv S :=
  ⟨h.at_.kept hf (hF g (Or.inl rfl)) (fun k hk => hF k (Or.inr hk)), h.good, h.gB, h.own⟩
theorem Mine.below (h : Mine B n w g lv S) {w' : World} (hb : Below w.heap.size w w') : Mine B n w' g lv S := h.kept (F := fun _ => False) (Frm.of_below hb) (fun _ _ => id)
end
end Go.Proofs.YtepcfmigkhacgaaDoor.Dk
