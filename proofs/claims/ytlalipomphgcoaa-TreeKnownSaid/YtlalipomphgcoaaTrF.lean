/- The tree: hashes appended; the code's Prove. -/
import Derived.Test.YtlalipomphgcoaaTrE
import Derived.Great.BuildSlice
import Derived.Deep.AppendLies
namespace Go.Proofs.Ytlalipomphgcoaa.Tree
open Go.RowKit Go.Proofs.Ytlalipomphgcoaa.Sha

def valsH (L : List (List UInt8)) : List Value := L.flatMap valsB
theorem valsH_len (L : List (List UInt8)) (h : H32 L) : (valsH L).length = L.length * 32 := by
  induction L with
  | nil => rfl
  | cons a l ih =>
    have h1 := h a (by simp)
    have h2 := ih (fun x hx => h x (by simp [hx]))
    simp only [valsH, List.flatMap_cons, List.length_append] at h2 ⊢
    rw [h2, valsB_len, h1, List.length_cons]
    omega
theorem valsH_at : ∀ (L : List (List UInt8)) (_ : H32 L) (i : Nat) (h : List UInt8) (_ : L[i]? = some h) (j : Nat) (v : Value) (_ : (valsB h)[j]? = some v), (valsH L)[i * 32 + j]? = some v
  | [], _, i, h, hi, _, _, _ => by simp at hi
  | a :: l, h32, 0, h, hi, j, v, hv => by
    simp at hi
    subst hi
    have hj := (List.getElem?_eq_some_iff.1 hv).1
    rw [valsH, List.flatMap_cons, Nat.zero_mul, Nat.zero_add, List.getElem?_append_left hj]
    exact hv
  | a :: l, h32, i + 1, h, hi, j, v, hv => by
    have h1 := h32 a (by simp)
    rw [valsH, List.flatMap_cons, List.getElem?_append_right (by rw [valsB_len, h1]; omega), valsB_len, h1, show (i + 1) * 32 + j - 32 = i * 32 + j by omega]
    exact valsH_at l (fun x hx => h32 x (by simp [hx])) i h (by simpa using hi) j v hv

/-- Hashes in a row of one's own, from block B on, which grows by append. -/
structure OwnH (B : Nat) (v : Value) (P : List (List UInt8)) (w : World) : Prop where
  own : w.ownsRow B 23 32 v P.length (valsH P)
  len : H32 P
theorem OwnH.nil (B : Nat) (w : World) : OwnH B (.slice none 0 0) [] w := ⟨⟨rfl, Or.inl ⟨rfl, rfl⟩⟩, fun h hh => by simp at hh⟩
theorem OwnH.shape {B : Nat} {v : Value} {P : List (List UInt8)} {w : World} (h : OwnH B v P w) : v = .slice none 0 0 ∧ P = [] ∨ ∃ g cap, v = .slice (some ⟨g, 0, none⟩) P.length cap ∧ B ≤ g ∧ g < w.heap.size := by
  rcases h.own.2 with ⟨hv, h0⟩ | ⟨g, cap, cur, hv, hB, hg, _⟩
  · exact Or.inl ⟨hv, List.eq_nil_of_length_eq_zero h0⟩
  · exact Or.inr ⟨g, cap, hv, hB, (Array.getElem?_eq_some_iff.1 hg).1⟩
theorem OwnH.base {B : Nat} {v : Value} {P : List (List UInt8)} {w : World} (h : OwnH B v P w) : ∀ k, v.ownBlock = some k → B ≤ k := by
  intro k hk
  rcases h.shape with ⟨rfl, _⟩ | ⟨g, cap, rfl, hB, _⟩
  · simp [Value.ownBlock] at hk
  · simp [Value.ownBlock] at hk
    omega
theorem OwnH.hashes {B : Nat} {v : Value} {P : List (List UInt8)} {w : World} (h : OwnH B v P w) : Hashes w v P := by
  rcases h.shape with ⟨rfl, rfl⟩ | ⟨g, cap, rfl, _, _⟩
  · exact Or.inl ⟨none, 0, rfl, rfl⟩
  · by_cases h0 : P.length = 0
    · exact Or.inl ⟨_, _, by rw [h0], List.eq_nil_of_length_eq_zero h0⟩
    · refine Or.inr ⟨g, 0, cap, rfl, by omega, fun i x hx j v hv => ?_⟩
      have hc := h.own.cells (g := g) rfl (i * 32 + j) v (valsH_at P h.len i x hx j v hv)
      rw [Addr.add_mid] at hc
      rw [← hc]
      congr 2
      omega
theorem OwnH.butKept {B : Nat} {v : Value} {P : List (List UInt8)} {w w' : World} {g : Nat} (h : OwnH B v P w) (hb : But g w w') (hg : g < B) : OwnH B v P w' := by
  refine ⟨h.own.kept (row := some g) ⟨hb.os, hb.tape, hb.output, hb.size, fun k hk hne => hb.block k hk (fun e => hne (by rw [e]))⟩ ?_, h.len⟩
  rcases h.shape with ⟨rfl, _⟩ | ⟨k, cap, rfl, hB, _⟩
  · exact Or.inl rfl
  · refine Or.inr ?_
    simp [Value.ownBlock]
    omega
theorem OwnH.kept {B : Nat} {v : Value} {P : List (List UInt8)} {w w' : World} (h : OwnH B v P w) (hb : Below w.heap.size w w') : OwnH B v P w' :=
  ⟨h.own.kept (row := none) ⟨hb.os, hb.tape, hb.output, hb.size, fun k hk _ => hb.block k hk⟩ (by cases v.ownBlock <;> simp), h.len⟩
theorem RowOf.keptB {B : Nat} {w w' : World} {g n : Nat} {M : List (List UInt8)} (h : RowOf w g n M) (hb : Below B w w') (hg : g < B) : RowOf w' g n M := by
  obtain ⟨hM, ⟨C, hgr, hs⟩, hc⟩ := h
  refine ⟨hM, ⟨C, (hb.block g hg).trans hgr, hs⟩, fun i h hi j v hv => ?_⟩
  rw [hb.cell (show (⟨g, i * 32 + j, none⟩ : Addr).block < B from hg)]
  exact hc i h hi j v hv

theorem cellsB (h : List UInt8) : (Value.agg (valsB h).toArray).cells = (valsB h).toArray := rfl

/-- A slice literal of hashes. -/
theorem wpList_build_hashes {ops : Array Oper} {rest : List Oper} {o : Oper} {a : Act} {w : World} {Q : Exit → Act → World → Prop} (hg : o.guard = none) (len : Nat) (parts : Array (Nat × Operand)) (ho : o.op = .buildSlice 28 len parts)
    (L : List (List UInt8)) (h32 : H32 L) (hlen : L.length = len) (h0 : 0 < len) (h24 : len ≤ 1000)
    (hp : (parts.map fun (i, x) => (i, a.eval x)).toList = ((L.map fun h => Value.agg (valsB h).toArray).zipIdx 0).map fun x => (x.2, x.1))
    (h : ∀ w', RowOf w' w.heap.size len L → Below w.heap.size w w' → w'.heap[w.heap.size]? = some (.cells (valsH L).toArray 23 (0, 0)) → w.heap.size < w'.heap.size → wpList Try.prog ops Q rest (a.put o.dst (.slice (some ⟨w.heap.size, 0, none⟩) len len)) w') : wpList Try.prog ops Q (o :: rest) a w := by
  obtain ⟨ie, hie, hz, hsz, _⟩ := info_row
  have hcs : ((Array.range (len * 32)).map ((Value.agg (List.replicate 32 (Value.int .u8 0)).toArray).cells[· % (Value.agg (List.replicate 32 (Value.int .u8 0)).toArray).cells.size]!)).size = len * 32 := by simp
  have hfill := Great.fill_whole (s := 32) (by omega) (L.map fun h => Value.agg (valsB h).toArray) ((Array.range (len * 32)).map ((Value.agg (List.replicate 32 (Value.int .u8 0)).toArray).cells[· % (Value.agg (List.replicate 32 (Value.int .u8 0)).toArray).cells.size]!)) (fun v hv => by
    obtain ⟨x, hx, rfl⟩ := List.mem_map.1 hv
    rw [cellsB, valsB_size, h32 x hx]) (by rw [hcs, List.length_map, hlen])
  have hflat : ((L.map fun h => Value.agg (valsB h).toArray).flatMap fun v => v.cells.toList) = valsH L := by
    rw [List.flatMap_map]
    rfl
  rw [hflat] at hfill
  refine wpList_buildSlice hg 28 23 len parts ho (valsH L).toArray ie _ Try.underlying28 hie hz (by rw [hsz]; omega) (by rw [hsz]; omega) (by rw [hsz, hp]; exact hfill) ?_
  refine h _ ⟨h32, ⟨_, heap_alloc_new _ _, ?_⟩, fun i x hx j v hv => ?_⟩ ((Below.refl _ _).alloc (Nat.le_refl _) _) (heap_alloc_new _ _) (by simp)
  · rw [List.size_toArray, valsH_len L h32, hlen]
  · rw [cell_of_row _ _ _ _ _ _ (heap_alloc_new w _), List.getElem?_toArray]
    exact valsH_at L h32 i x hx j v hv

theorem wpList_build_hash1 {ops : Array Oper} {rest : List Oper} {o : Oper} {a : Act} {w : World} {Q : Exit → Act → World → Prop} (hg : o.guard = none) (x : Operand) (ho : o.op = .buildSlice 28 1 #[(0, x)])
    (y : List UInt8) (hy : y.length = 32) (hx : a.eval x = .agg (valsB y).toArray)
    (h : ∀ w', RowOf w' w.heap.size 1 [y] → Below w.heap.size w w' → w'.heap[w.heap.size]? = some (.cells (valsH [y]).toArray 23 (0, 0)) → w.heap.size < w'.heap.size → wpList Try.prog ops Q rest (a.put o.dst (.slice (some ⟨w.heap.size, 0, none⟩) 1 1)) w') : wpList Try.prog ops Q (o :: rest) a w :=
  wpList_build_hashes hg 1 _ ho [y] (fun z hz => by simp at hz; subst hz; exact hy) rfl (by omega) (by omega) (by simp [hx]) h

theorem valsB_oneCell (h : List UInt8) : ∀ u ∈ valsB h, u.oneCell' = true := by
  intro u hu
  simp only [valsB, List.mem_map] at hu
  obtain ⟨b, _, rfl⟩ := hu
  rfl
theorem valsH_oneCell (L : List (List UInt8)) : ∀ u ∈ valsH L, u.oneCell' = true := by
  intro u hu
  obtain ⟨h, _, hu⟩ := List.mem_flatMap.1 hu
  exact valsB_oneCell h u hu

/-- append of hashes that lie in a row, onto a row of one's own. -/
theorem wpList_append_hashes {ops : Array Oper} {rest : List Oper} {o : Oper} {a : Act} {w : World} {Q : Exit → Act → World → Prop} (hgd : o.guard = none) (s x : Operand)
    (ho : o.op = .call { callee := .builtin .append, args := #[s, x], argTypes := #[28, 28] })
    (B : Nat) (v : Value) (P : List (List UInt8)) (hs : a.eval s = v) (hown : OwnH B v P w) (g1 n1 cap1 m : Nat) (L : List (List UInt8)) (hx : a.eval x = .slice (some ⟨g1, 0, none⟩) m cap1) (hrow : RowOf w g1 n1 L) (hm : L.length = m) (h0 : 0 < m)
    (hn : P.length + m ≤ 2199023255552) (hB : B ≤ w.heap.size)
    (h : ∀ v' w', OwnH B v' (P ++ L) w' → Below B w w' → (∃ g cap, v' = .slice (some ⟨g, 0, none⟩) (P.length + m) cap) → wpList Try.prog ops Q rest (a.put o.dst v') w') : wpList Try.prog ops Q (o :: rest) a w := by
  obtain ⟨ie, hie, hz, hsz, hby⟩ := info_row
  refine wpList_append_lies w hgd s x 28 ho B 23 ie _ 32 32 Try.underlying28 hie hz hsz hby rfl (by omega) v P.length (valsH P) hs hown.own ⟨g1, 0, none⟩ m cap1 (valsH L) hx (by rw [valsH_len L hrow.len, hm]) (fun j u hj => ?_) (valsH_oneCell L) h0 (by unfold maxLen; omega) (by omega) hB _ rfl ?_
  · have hj' := (List.getElem?_eq_some_iff.1 hj).1
    rw [valsH_len L hrow.len] at hj'
    have hd : j / 32 < L.length := by omega
    have hh := hrow.len _ (List.getElem_mem hd)
    have hjm : j % 32 < (valsB L[j / 32]).length := by rw [valsB_len, hh]; omega
    have h1 := hrow.at_ (j / 32) L[j / 32] (List.getElem?_eq_getElem hd) (j % 32) _ (List.getElem?_eq_getElem hjm)
    have h2 := valsH_at L hrow.len (j / 32) L[j / 32] (List.getElem?_eq_getElem hd) (j % 32) _ (List.getElem?_eq_getElem hjm)
    rw [show j / 32 * 32 + j % 32 = j by omega] at h1 h2
    rw [hj] at h2
    rw [Addr.add_mid, Nat.zero_add, h1, h2]
  · intro g cap w' hown' hgrow _ _
    have hl : (P ++ L).length = P.length + m := by rw [List.length_append, hm]
    refine h _ w' ⟨by rw [hl, show valsH (P ++ L) = valsH P ++ valsH L by simp [valsH]]; exact hown', fun y hy => (List.mem_append.1 hy).elim (hown.len y) (hrow.len y)⟩ ((Below.refl _ _).grown hgrow hB hown.base) ⟨g, cap, rfl⟩

/-- A proof: of each row the other one of the pair. -/
def proofN : Nat → List (List UInt8) → Nat → List (List UInt8)
  | 0, _, _ => []
  | f + 1, M, i => if M.length ≤ 1 then [] else (M[oth i]?).toList ++ proofN f (upF M) (i / 2)
def proofA (M : List (List UInt8)) (i : Nat) : List (List UInt8) := proofN M.length M i
theorem proofN_fuel : ∀ (f g : Nat) (M : List (List UInt8)) (i : Nat), M.length ≤ f → M.length ≤ g → proofN f M i = proofN g M i
  | 0, 0, _, _, _, _ => rfl
  | 0, g + 1, M, i, h, _ => by rw [proofN, proofN, if_pos (by omega)]
  | f + 1, 0, M, i, _, h => by rw [proofN, proofN, if_pos (by omega)]
  | f + 1, g + 1, M, i, h1, h2 => by
    rw [proofN, proofN]
    split
    · rfl
    · rw [proofN_fuel f g (upF M) _ (by rw [upF_len]; omega) (by rw [upF_len]; omega)]
theorem proofA_one (M : List (List UInt8)) (i : Nat) (h : M.length ≤ 1) : proofA M i = [] := by
  unfold proofA
  cases hl : M.length with
  | zero => rfl
  | succ n => rw [proofN, if_pos h]
theorem proofA_step (M : List (List UInt8)) (i : Nat) (h : 1 < M.length) : proofA M i = (M[oth i]?).toList ++ proofA (upF M) (i / 2) := by
  unfold proofA
  obtain ⟨n, hn⟩ : ∃ n, M.length = n + 1 := ⟨M.length - 1, by omega⟩
  rw [hn, proofN, if_neg (by omega), proofN_fuel n (upF M).length (upF M) _ (by rw [upF_len]; omega) (Nat.le_refl _)]
theorem proofA_len (f : Nat) : ∀ (M : List (List UInt8)) (i : Nat), M.length ≤ f → (proofA M i).length ≤ M.length := by
  induction f with
  | zero => intro M i h; rw [proofA_one M i (by omega)]; simp
  | succ f ih =>
    intro M i h
    by_cases h1 : M.length ≤ 1
    · rw [proofA_one M i h1]; simp
    · rw [proofA_step M i (by omega), List.length_append]
      have h2 := ih (upF M) (i / 2) (by rw [upF_len]; omega)
      rw [upF_len] at h2
      have h3 : (M[oth i]?).toList.length ≤ 1 := by cases M[oth i]? <;> simp
      omega

theorem code_isPlace_yes (i n : Int) (h0 : 0 ≤ i) (h1 : i < n) (w : World) : Calls Try.prog 38 #[.int .i64 i, .int .i64 n] w fun e w' => e = .returned (.bool true) ∧ w = w' := by
  go_enter Try.func38, Try.ntmps38
  go_wp2
  all_goals
    go_ret
    exact ⟨rfl, rfl⟩
theorem code_isPlace_no (i n : Int) (h : i < 0 ∨ n ≤ i) (w : World) : Calls Try.prog 38 #[.int .i64 i, .int .i64 n] w fun e w' => e = .returned (.bool false) ∧ w = w' := by
  by_cases h0 : i < 0
  · have h2 : ¬ 0 ≤ i := by omega
    clear h
    go_enter Try.func38, Try.ntmps38
    go_wp2
    all_goals
      go_ret
      exact ⟨rfl, rfl⟩
  · have h1 : 0 ≤ i := by omega
    have h2 : ¬ i < n := by omega
    clear h h0
    go_enter Try.func38, Try.ntmps38
    go_wp2
    all_goals
      go_ret
      exact ⟨rfl, rfl⟩

theorem code_other' (i : Nat) (hi : i < 9223372036854775808) (w : World) : Calls Try.prog 41 #[.int .i64 i] w fun e w' => e = .returned (.int .i64 (oth i)) ∧ w = w' :=
  (code_other i hi w).mono fun _ _ ⟨he, hw⟩ => ⟨he, hw.symm⟩
theorem code_above' (n : Nat) (hn : n < 9223372036854775808) (w : World) : Calls Try.prog 50 #[.int .i64 n] w fun e w' => e = .returned (.int .i64 ((n / 2 + n % 2 : Nat) : Int)) ∧ w = w' :=
  (code_above n hn w).mono fun _ _ ⟨he, hw⟩ => ⟨he, hw.symm⟩

end Go.Proofs.Ytlalipomphgcoaa.Tree
