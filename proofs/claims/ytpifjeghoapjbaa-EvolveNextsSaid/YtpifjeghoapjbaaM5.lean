/- The tree: rows of hashes in memory; leaves. -/
import Derived.Test.YtpifjeghoapjbaaTrA
import Derived.Deep.OwnRows
import Derived.Deep.MidRow
import Derived.BigQuiet
import Derived.Test.YtpifjeghoapjbaaQTail
import Derived.Great.BuildSlice
import Derived.Deep.AppendLies
namespace Go.Proofs.Ytpifjeghoapjbaa.Tree
open Go.RowKit Go.Proofs.Ytpifjeghoapjbaa.Sha

def H32 (L : List (List UInt8)) : Prop := ∀ h ∈ L, h.length = 32

/-- A slice that reads as these hashes. -/
def Hashes (w : World) (v : Value) (L : List (List UInt8)) : Prop :=
  (∃ a cap, v = .slice a 0 cap ∧ L = []) ∨ ∃ g o cap, v = .slice (some ⟨g, o, none⟩) L.length cap ∧ 0 < L.length ∧ ∀ (i : Nat) (h : List UInt8), L[i]? = some h → w.rangeAt g (o + i * 32) (valsB h)

theorem range_kept {w w' : World} {g o : Nat} {cs : List Value} (hb : Below w.heap.size w w') (h : w.rangeAt g o cs) : w'.rangeAt g o cs := fun j v hv => by
  have hc := h j v hv
  rw [hb.cell (World.block_lt_of_cell? _ _ hc)]
  exact hc
theorem Hashes.kept {w w' : World} {v : Value} {L : List (List UInt8)} (h : Hashes w v L) (hb : Below w.heap.size w w') : Hashes w' v L := by
  rcases h with h | ⟨g, o, cap, hv, h0, hc⟩
  · exact Or.inl h
  · exact Or.inr ⟨g, o, cap, hv, h0, fun i h hi => range_kept hb (hc i h hi)⟩

/-- A row of one's own, with room for n hashes; from the first on it holds these. -/
structure RowOf (w : World) (g n : Nat) (M : List (List UInt8)) : Prop where
  len : H32 M
  row : ∃ C, w.heap[g]? = some (.cells C 23 (0, 0)) ∧ C.size = n * 32
  at_ : ∀ (i : Nat) (h : List UInt8), M[i]? = some h → w.rangeAt g (i * 32) (valsB h)

theorem RowOf.kept {w w' : World} {g n : Nat} {M : List (List UInt8)} (h : RowOf w g n M) (hb : Below w.heap.size w w') : RowOf w' g n M := by
  obtain ⟨hM, ⟨C, hg, hs⟩, hc⟩ := h
  exact ⟨hM, ⟨C, (hb.block g (Array.getElem?_eq_some_iff.1 hg).1).trans hg, hs⟩, fun i h hi => range_kept hb (hc i h hi)⟩
theorem RowOf.lt {w : World} {g n : Nat} {M : List (List UInt8)} (h : RowOf w g n M) : g < w.heap.size := by
  obtain ⟨_, ⟨C, hg, _⟩, _⟩ := h
  exact (Array.getElem?_eq_some_iff.1 hg).1
theorem there_row {w : World} {g n : Nat} {C : Array Value} {t : TypeId} (hg : w.heap[g]? = some (.cells C t (0, 0))) (hs : C.size = n * 32) (i : Nat) (hi : i < n) : w.there g (i * 32) 32 := by
  intro j hj
  refine ⟨?_, frozen_of_row w g _ _ _ hg⟩
  rw [cell_of_row w g _ _ _ _ hg, Array.getElem?_eq_getElem (by omega)]
  rfl
theorem valsB_len (h : List UInt8) : (valsB h).length = h.length := by simp [valsB]
theorem RowOf.there {w : World} {g n : Nat} {M : List (List UInt8)} (h : RowOf w g n M) (i : Nat) (hi : i < n) : w.there g (i * 32) 32 := by
  obtain ⟨_, ⟨C, hg, hs⟩, _⟩ := h
  exact there_row hg hs i hi
theorem RowOf.store {w : World} {g n : Nat} {M : List (List UInt8)} (h : RowOf w g n M) (i : Nat) (hi : i < n) (x : List UInt8) (hx : x.length = 32) (hM : i = M.length) : RowOf (w.setCells g (i * 32) (valsB x)) g n (M ++ [x]) := by
  have ht := h.there i hi
  obtain ⟨h32, ⟨C, hg, hs⟩, hc⟩ := h
  obtain ⟨C', hg', hs'⟩ := setCells_heap g 23 (0, 0) (valsB x) (i * 32) w C hg
  refine ⟨?_, ⟨C', hg', by rw [hs', hs]⟩, fun k y hy => ?_⟩
  · intro y hy
    rcases List.mem_append.1 hy with h | h
    · exact h32 y h
    · simp at h; subst h; exact hx
  by_cases hk : k < M.length
  · rw [List.getElem?_append_left hk] at hy
    refine World.rangeAt_setCells_apart (hc k y hy) g (i * 32) (valsB x) (Or.inr (Or.inl ?_))
    rw [valsB_len, h32 y (List.mem_of_getElem? hy)]
    omega
  · have hk2 : k = M.length := by
      have := (List.getElem?_eq_some_iff.1 hy).1
      simp at this
      omega
    subst hk2
    rw [List.getElem?_append_right (Nat.le_refl _), Nat.sub_self] at hy
    simp at hy
    subst hy
    subst hM
    exact World.rangeAt_setCells_same w g _ (valsB x) (by rw [valsB_len, hx]; exact ht)
theorem RowOf.hashes {w : World} {g n cap : Nat} {M : List (List UInt8)} (h : RowOf w g n M) : Hashes w (.slice (some ⟨g, 0, none⟩) M.length cap) M := by
  by_cases h0 : M.length = 0
  · exact Or.inl ⟨_, _, by rw [h0], List.eq_nil_of_length_eq_zero h0⟩
  · exact Or.inr ⟨g, 0, cap, rfl, by omega, fun i x hx => by rw [Nat.zero_add]; exact h.at_ i x hx⟩

theorem info_row : ∃ i, Try.prog.info? 23 = some i ∧ i.zero = some (.agg (List.replicate 32 (Value.int .u8 0)).toArray) ∧ i.size = 32 ∧ i.bytes = 32 := by
  have h : (Try.prog.info? 23).map (fun i => (i.zero, i.size, i.bytes)) = some (some (.agg (List.replicate 32 (Value.int .u8 0)).toArray), 32, 32) := by kernel_rfl
  obtain ⟨i, hi, hz⟩ := Option.map_eq_some_iff.1 h
  simp only [Prod.mk.injEq] at hz
  exact ⟨i, hi, hz.1, hz.2.1, hz.2.2⟩

theorem desc_hash : ∃ d, Try.prog.underlying 23 = some d ∧ d.isRow = true := ⟨_, Try.underlying23, rfl⟩

/-- make([]Hash, n). -/
theorem run_make_hashes (n : Nat) (hn : n ≤ 1099511627776) (w : World) :
    ∃ C : Array Value, C.size = n * 32 ∧ (Instr.makeSlice 24 (.int .i64 (n : Int)) (.int .i64 (n : Int))).run Try.prog w = .ok (.slice (some ⟨w.heap.size, 0, none⟩) n n) (w.alloc (.cells C 23)) := by
  obtain ⟨i, hi, hz, hs, hb⟩ := info_row
  have h := run_make (P := Try.prog) w 24 23 i _ Try.underlying24 hi hz .i64 .i64 (n : Int) (n : Int) (by omega) (Int.le_refl _) (by rw [hb]; omega) (by omega)
  rw [hs, Int.toNat_natCast] at h
  exact ⟨_, size_madeCells _ _, h⟩

end Go.Proofs.Ytpifjeghoapjbaa.Tree

namespace Go.Proofs.Ytpifjeghoapjbaa.Tree
open Go.RowKit Go.Proofs.Ytpifjeghoapjbaa.Sha

/-- A row goes up. -/
def upF : List (List UInt8) → List (List UInt8)
  | a :: b :: r => pairF a b :: upF r
  | [a] => [a]
  | [] => []
theorem upF_len : ∀ L : List (List UInt8), (upF L).length = L.length / 2 + L.length % 2
  | [] => rfl
  | [_] => by simp [upF]
  | a :: b :: r => by
    rw [upF, List.length_cons, upF_len r]
    simp only [List.length_cons]
    omega
theorem upF_two : ∀ (L : List (List UInt8)) (j : Nat) (a b : List UInt8), L[2 * j]? = some a → L[2 * j + 1]? = some b → (upF L)[j]? = some (pairF a b)
  | [], j, a, b, h, _ => by simp at h
  | [x], j, a, b, _, h => by simp at h
  | x :: y :: r, 0, a, b, h1, h2 => by
    simp at h1 h2
    subst h1 h2
    rfl
  | x :: y :: r, j + 1, a, b, h1, h2 => by
    rw [upF, List.getElem?_cons_succ]
    exact upF_two r j a b (by simpa [Nat.mul_add] using h1) (by simpa [Nat.mul_add, Nat.add_right_comm] using h2)
theorem upF_last : ∀ (L : List (List UInt8)) (j : Nat) (a : List UInt8), L[2 * j]? = some a → L.length = 2 * j + 1 → (upF L)[j]? = some a
  | [], j, a, h, _ => by simp at h
  | [x], 0, a, h, _ => by simpa [upF] using h
  | [x], j + 1, a, _, h => by simp at h
  | x :: y :: r, 0, a, _, h => by simp at h
  | x :: y :: r, j + 1, a, h1, h2 => by
    rw [upF, List.getElem?_cons_succ]
    exact upF_last r j a (by simpa [Nat.mul_add] using h1) (by simp only [List.length_cons] at h2; omega)
theorem upF_32 : ∀ (L : List (List UInt8)), H32 L → H32 (upF L)
  | [], _ => fun h hh => by simp [upF] at hh
  | [a], h => h
  | a :: b :: r, h => fun x hx => by
    rw [upF] at hx
    rcases List.mem_cons.1 hx with rfl | hx
    · rfl
    · exact upF_32 r (fun y hy => h y (by simp [hy])) x hx

/-- The place that makes a pair with i. -/
def oth (i : Nat) : Nat := i ^^^ 1
theorem oth_eq (i : Nat) : oth i = if i % 2 = 0 then i + 1 else i - 1 := by
  have h1 : (i ^^^ 1) / 2 = i / 2 := by rw [Nat.xor_div_two]; simp
  have h2 : (i ^^^ 1) % 2 = (i + 1) % 2 := by
    have h := Nat.xor_mod_two_pow (a := i) (b := 1) (n := 1)
    simp only [Nat.pow_one] at h
    rw [h]
    have : i % 2 = 0 ∨ i % 2 = 1 := by omega
    rcases this with h0 | h0 <;> rw [h0] <;> simp <;> omega
  unfold oth
  split <;> omega
theorem ofInt_i64 (a : Nat) (ha : a < 18446744073709551616) : (BitVec.ofInt 64 (a : Int)).toNat = a := by
  rw [BitVec.ofInt_natCast, BitVec.toNat_ofNat]; exact Nat.mod_eq_of_lt (by omega)
theorem i64_xor_one (a : Nat) (ha : a < 9223372036854775808) : bits .xor .i64 (a : Int) 1 = ((oth a : Nat) : Int) := by
  have hx : a ^^^ 1 < 2 ^ 63 := Nat.xor_lt_two_pow (by omega) (by omega)
  show IntKind.i64.wrap ((BitVec.ofInt 64 (a : Int) ^^^ BitVec.ofInt 64 ((1 : Nat) : Int)).toNat : Int) = _
  rw [BitVec.toNat_xor, ofInt_i64 a (by omega), ofInt_i64 1 (by omega), IntKind.wrap_i64]
  unfold oth
  omega

/-- An array in the middle of a row, read in a region that draws and whose callees make memory. -/
theorem quiet_load_mid {P : Program} {op : Oper} {a : Act} {W : World} {K : Act → Prop} (ty : TypeId) (x : Operand) (ho : op.op = .load ty x) (b o : Nat) (hx : a.eval x = .pointer (some ⟨b, o, none⟩)) (cs : List Value) (d : TypeDesc)
    (hW : W.rangeAt b o cs) (hu : P.underlying ty = some d) (hd : d.isRow = true) (hi : (P.info? ty).map (·.size) = some cs.length)
    (h : K (a.put op.dst (.agg cs.toArray))) : op.quiet P a (fun w' => ∃ p : Regrown, w' = Sort.grow (redrawn W p.d) p.os) K := by
  refine ⟨.agg cs.toArray, ?_, h⟩
  rintro w' ⟨p, rfl⟩
  unfold Oper.quietAt execOp
  have hr : (Sort.grow (redrawn W p.d) p.os).rangeAt b o cs := fun j v hv => cell_regrown (hW j v hv) p.d p.os
  simp only [ho, hx, Instr.loadAt, Instr.sureAddr, Sem.run_bind, Sem.run_pure, Result.andThen_ok, run_loadVar_mid _ b o ty cs d hr hu hd hi]
  exact ⟨rfl, rfl⟩

theorem regrown_same {P : Program} {f : FuncId} {args : Array Value} {w : World} {d : Nat} {os : Array Obj} {v : Value}
    (h : Calls P f args (Sort.grow (redrawn w d) os) fun e w' => e = .returned v ∧ w' = Sort.grow (redrawn w d) os) : Calls P f args (Sort.grow (redrawn w d) os) fun e w'' => e = .returned v ∧ ∃ p : Regrown, w'' = Sort.grow (redrawn w p.d) p.os :=
  h.mono fun _ _ ⟨he, hw⟩ => ⟨he, ⟨⟨d, os⟩, hw⟩⟩

theorem info_len (h : List UInt8) (hl : h.length = 32) : (Try.prog.info? 23).map (·.size) = some (valsB h).length := by rw [valsB_len, hl]; exact info_hash

end Go.Proofs.Ytpifjeghoapjbaa.Tree

namespace Go.Proofs.Ytpifjeghoapjbaa.Tree
open Go.RowKit Go.Proofs.Ytpifjeghoapjbaa.Sha

/-- All rows, from this one up to the one of one hash (or none). -/
def rowsN : Nat → List (List UInt8) → List (List (List UInt8))
  | 0, M => [M]
  | f + 1, M => if M.length ≤ 1 then [M] else M :: rowsN f (upF M)
def rowsA (M : List (List UInt8)) : List (List (List UInt8)) := rowsN M.length M
theorem rowsN_fuel : ∀ (f g : Nat) (M : List (List UInt8)), M.length ≤ f → M.length ≤ g → rowsN f M = rowsN g M
  | 0, 0, _, _, _ => rfl
  | 0, g + 1, M, h, _ => by rw [rowsN, rowsN, if_pos (by omega)]
  | f + 1, 0, M, _, h => by rw [rowsN, rowsN, if_pos (by omega)]
  | f + 1, g + 1, M, h1, h2 => by
    rw [rowsN, rowsN]
    split
    · rfl
    · rw [rowsN_fuel f g (upF M) (by rw [upF_len]; omega) (by rw [upF_len]; omega)]
theorem rowsA_one (M : List (List UInt8)) (h : M.length ≤ 1) : rowsA M = [M] := by
  unfold rowsA
  cases hl : M.length with
  | zero => rfl
  | succ n => rw [rowsN, if_pos h]
theorem rowsA_step (M : List (List UInt8)) (h : 1 < M.length) : rowsA M = M :: rowsA (upF M) := by
  unfold rowsA
  obtain ⟨n, hn⟩ : ∃ n, M.length = n + 1 := ⟨M.length - 1, by omega⟩
  rw [hn, rowsN, if_neg (by omega), rowsN_fuel n (upF M).length (upF M) (by rw [upF_len]; omega) (Nat.le_refl _)]
theorem rowsA_ne (M : List (List UInt8)) : rowsA M ≠ [] := by
  by_cases h : M.length ≤ 1
  · rw [rowsA_one M h]; simp
  · rw [rowsA_step M (by omega)]; simp
/-- The row of one hash (or none). -/
def lastA (M : List (List UInt8)) : List (List UInt8) := (rowsA M).getLast (rowsA_ne M)
theorem lastA_one (M : List (List UInt8)) (h : M.length ≤ 1) : lastA M = M := by
  unfold lastA
  simp only [rowsA_one M h]
  rfl
theorem lastA_step (M : List (List UInt8)) (h : 1 < M.length) : lastA M = lastA (upF M) := by
  unfold lastA
  simp only [rowsA_step M h]
  rw [List.getLast_cons (rowsA_ne _)]
/-- The top, the root. -/
def topA (L : List (List UInt8)) : List UInt8 := if L = [] then noneF else (lastA (L.map leafF)).headD []
def rootA (L : List (List UInt8)) : List UInt8 := rootF L.length (topA L)
theorem lastA_len (n : Nat) : ∀ M : List (List UInt8), M.length ≤ n → 0 < M.length → H32 M → ∃ h, lastA M = [h] ∧ h.length = 32 := by
  induction n with
  | zero => intro M h1 h2; omega
  | succ n ih =>
    intro M h1 h2 h3
    by_cases h : M.length ≤ 1
    · match M, h2, h with
      | [x], _, h => exact ⟨x, lastA_one _ h, h3 x (by simp)⟩
    · rw [lastA_step M (by omega)]
      exact ih _ (by rw [upF_len]; omega) (by rw [upF_len]; omega) (upF_32 M h3)
theorem leaves_32 (L : List (List UInt8)) : H32 (L.map leafF) := fun h hh => by
  obtain ⟨x, _, rfl⟩ := List.mem_map.1 hh
  rfl
theorem topA_len (L : List (List UInt8)) : (topA L).length = 32 := by
  unfold topA
  split
  · rfl
  · rename_i h
    obtain ⟨x, hx, hl⟩ := lastA_len (L.map leafF).length (L.map leafF) (Nat.le_refl _) (by rw [List.length_map]; exact Nat.pos_of_ne_zero fun h0 => h (List.eq_nil_of_length_eq_zero h0)) (leaves_32 L)
    rw [hx]
    exact hl

theorem cell_of_one' {w : World} {b : Nat} {v : Value} {t : TypeId} (h : w.heap[b]? = some (.cells #[v] t (0, 0))) : w.cell? ⟨b, 0, none⟩ = some v := by
  rw [cell_of_row w b 0 _ _ _ h]
  rfl

theorem setCells_other (g : Nat) : ∀ (vs : List Value) (o : Nat) (w : World) (k : Nat), k ≠ g → (w.setCells g o vs).heap[k]? = w.heap[k]?
  | [], _, _, _, _ => rfl
  | v :: r, o, w, k, h => by
    rw [World.setCells, setCells_other g r (o + 1) _ k h]
    exact heap_setCell_other w ⟨g, o, none⟩ k v h
theorem but_setCells {g : Nat} {a : World} : ∀ {w : World} (_ : But g a w) (vs : List Value) (o : Nat), But g a (w.setCells g o vs)
  | _, h, [], _ => h
  | _, h, v :: r, o => but_setCells (h.setCell o v) r (o + 1)

end Go.Proofs.Ytpifjeghoapjbaa.Tree

namespace Go.Proofs.Ytpifjeghoapjbaa.Tree
open Go.RowKit Go.Proofs.Ytpifjeghoapjbaa.Sha

theorem below_but {B g : Nat} {a w w' : World} (h : Below B a w) (hb : But g w w') (hg : B ≤ g) (hB : B ≤ w.heap.size) : Below B a w' :=
  ⟨hb.os.trans h.os, hb.tape.trans h.tape, hb.output.trans h.output, Nat.le_trans h.size hb.size, fun k hk => (hb.block k (by omega) (by omega)).trans (h.block k hk)⟩

theorem rootA_len (L : List (List UInt8)) : (rootA L).length = 32 := rfl

end Go.Proofs.Ytpifjeghoapjbaa.Tree

namespace Go.Proofs.Ytpifjeghoapjbaa.Tree
open Go.RowKit Go.Proofs.Ytpifjeghoapjbaa.Sha

def valsH (L : List (List UInt8)) : List Value := L.flatMap valsB
theorem valsH_len (L : List (List UInt8)) (h : H32 L) : (valsH L).length = L.length * 32 := by
  induction L with
  | nil => rfl
  | cons a l ih =>
    have h1 := h a (by simp)
    have h2 := ih (fun x hx => h x (by simp [hx]))
    simp only [valsH, List.flatMap_cons, List.length_append] at h2 ⊢
    rw [h2, valsB_len, h1, List.length_cons]
    omega
theorem valsH_at : ∀ (L : List (List UInt8)) (_ : H32 L) (i : Nat) (h : List UInt8) (_ : L[i]? = some h) (j : Nat) (v : Value) (_ : (valsB h)[j]? = some v), (valsH L)[i * 32 + j]? = some v
  | [], _, i, h, hi, _, _, _ => by simp at hi
  | a :: l, h32, 0, h, hi, j, v, hv => by
    simp at hi
    subst hi
    have hj := (List.getElem?_eq_some_iff.1 hv).1
    rw [valsH, List.flatMap_cons, Nat.zero_mul, Nat.zero_add, List.getElem?_append_left hj]
    exact hv
  | a :: l, h32, i + 1, h, hi, j, v, hv => by
    have h1 := h32 a (by simp)
    rw [valsH, List.flatMap_cons, List.getElem?_append_right (by rw [valsB_len, h1]; omega), valsB_len, h1, show (i + 1) * 32 + j - 32 = i * 32 + j by omega]
    exact valsH_at l (fun x hx => h32 x (by simp [hx])) i h (by simpa using hi) j v hv

/-- Hashes in a row of one's own, from block B on, which grows by append. -/
structure OwnH (B : Nat) (v : Value) (P : List (List UInt8)) (w : World) : Prop where
  own : w.ownsRow B 23 32 v P.length (valsH P)
  len : H32 P
theorem OwnH.nil (B : Nat) (w : World) : OwnH B (.slice none 0 0) [] w := ⟨⟨rfl, Or.inl ⟨rfl, rfl⟩⟩, fun h hh => by simp at hh⟩
theorem OwnH.shape {B : Nat} {v : Value} {P : List (List UInt8)} {w : World} (h : OwnH B v P w) : v = .slice none 0 0 ∧ P = [] ∨ ∃ g cap, v = .slice (some ⟨g, 0, none⟩) P.length cap ∧ B ≤ g ∧ g < w.heap.size := by
  rcases h.own.2 with ⟨hv, h0⟩ | ⟨g, cap, cur, hv, hB, hg, _⟩
  · exact Or.inl ⟨hv, List.eq_nil_of_length_eq_zero h0⟩
  · exact Or.inr ⟨g, cap, hv, hB, (Array.getElem?_eq_some_iff.1 hg).1⟩
theorem OwnH.base {B : Nat} {v : Value} {P : List (List UInt8)} {w : World} (h : OwnH B v P w) : ∀ k, v.ownBlock = some k → B ≤ k := by
  intro k hk
  rcases h.shape with ⟨rfl, _⟩ | ⟨g, cap, rfl, hB, _⟩
  · simp [Value.ownBlock] at hk
  · simp [Value.ownBlock] at hk
    omega
theorem OwnH.hashes {B : Nat} {v : Value} {P : List (List UInt8)} {w : World} (h : OwnH B v P w) : Hashes w v P := by
  rcases h.shape with ⟨rfl, rfl⟩ | ⟨g, cap, rfl, _, _⟩
  · exact Or.inl ⟨none, 0, rfl, rfl⟩
  · by_cases h0 : P.length = 0
    · exact Or.inl ⟨_, _, by rw [h0], List.eq_nil_of_length_eq_zero h0⟩
    · refine Or.inr ⟨g, 0, cap, rfl, by omega, fun i x hx j v hv => ?_⟩
      have hc := h.own.cells (g := g) rfl (i * 32 + j) v (valsH_at P h.len i x hx j v hv)
      rw [Addr.add_mid] at hc
      rw [← hc]
      congr 2
      omega
theorem OwnH.butKept {B : Nat} {v : Value} {P : List (List UInt8)} {w w' : World} {g : Nat} (h : OwnH B v P w) (hb : But g w w') (hg : g < B) : OwnH B v P w' := by
  refine ⟨h.own.kept (row := some g) ⟨hb.os, hb.tape, hb.output, hb.size, fun k hk hne => hb.block k hk (fun e => hne (by rw [e]))⟩ ?_, h.len⟩
  rcases h.shape with ⟨rfl, _⟩ | ⟨k, cap, rfl, hB, _⟩
  · exact Or.inl rfl
  · refine Or.inr ?_
    simp [Value.ownBlock]
    omega
theorem OwnH.kept {B : Nat} {v : Value} {P : List (List UInt8)} {w w' : World} (h : OwnH B v P w) (hb : Below w.heap.size w w') : OwnH B v P w' :=
  ⟨h.own.kept (row := none) ⟨hb.os, hb.tape, hb.output, hb.size, fun k hk _ => hb.block k hk⟩ (by cases v.ownBlock <;> simp), h.len⟩
theorem RowOf.keptB {B : Nat} {w w' : World} {g n : Nat} {M : List (List UInt8)} (h : RowOf w g n M) (hb : Below B w w') (hg : g < B) : RowOf w' g n M := by
  obtain ⟨hM, ⟨C, hgr, hs⟩, hc⟩ := h
  refine ⟨hM, ⟨C, (hb.block g hg).trans hgr, hs⟩, fun i h hi j v hv => ?_⟩
  rw [hb.cell (show (⟨g, i * 32 + j, none⟩ : Addr).block < B from hg)]
  exact hc i h hi j v hv

theorem cellsB (h : List UInt8) : (Value.agg (valsB h).toArray).cells = (valsB h).toArray := rfl

/-- A slice literal of hashes. -/
theorem wpList_build_hashes {ops : Array Oper} {rest : List Oper} {o : Oper} {a : Act} {w : World} {Q : Exit → Act → World → Prop} (hg : o.guard = none) (len : Nat) (parts : Array (Nat × Operand)) (ho : o.op = .buildSlice 24 len parts)
    (L : List (List UInt8)) (h32 : H32 L) (hlen : L.length = len) (h0 : 0 < len) (h24 : len ≤ 1000)
    (hp : (parts.map fun (i, x) => (i, a.eval x)).toList = ((L.map fun h => Value.agg (valsB h).toArray).zipIdx 0).map fun x => (x.2, x.1))
    (h : ∀ w', RowOf w' w.heap.size len L → Below w.heap.size w w' → w'.heap[w.heap.size]? = some (.cells (valsH L).toArray 23 (0, 0)) → w.heap.size < w'.heap.size → wpList Try.prog ops Q rest (a.put o.dst (.slice (some ⟨w.heap.size, 0, none⟩) len len)) w') : wpList Try.prog ops Q (o :: rest) a w := by
  obtain ⟨ie, hie, hz, hsz, _⟩ := info_row
  have hcs : ((Array.range (len * 32)).map ((Value.agg (List.replicate 32 (Value.int .u8 0)).toArray).cells[· % (Value.agg (List.replicate 32 (Value.int .u8 0)).toArray).cells.size]!)).size = len * 32 := by simp
  have hfill := Great.fill_whole (s := 32) (by omega) (L.map fun h => Value.agg (valsB h).toArray) ((Array.range (len * 32)).map ((Value.agg (List.replicate 32 (Value.int .u8 0)).toArray).cells[· % (Value.agg (List.replicate 32 (Value.int .u8 0)).toArray).cells.size]!)) (fun v hv => by
    obtain ⟨x, hx, rfl⟩ := List.mem_map.1 hv
    rw [cellsB, valsB_size, h32 x hx]) (by rw [hcs, List.length_map, hlen])
  have hflat : ((L.map fun h => Value.agg (valsB h).toArray).flatMap fun v => v.cells.toList) = valsH L := by
    rw [List.flatMap_map]
    rfl
  rw [hflat] at hfill
  refine wpList_buildSlice hg 24 23 len parts ho (valsH L).toArray ie _ Try.underlying24 hie hz (by rw [hsz]; omega) (by rw [hsz]; omega) (by rw [hsz, hp]; exact hfill) ?_
  refine h _ ⟨h32, ⟨_, heap_alloc_new _ _, ?_⟩, fun i x hx j v hv => ?_⟩ ((Below.refl _ _).alloc (Nat.le_refl _) _) (heap_alloc_new _ _) (by simp)
  · rw [List.size_toArray, valsH_len L h32, hlen]
  · rw [cell_of_row _ _ _ _ _ _ (heap_alloc_new w _), List.getElem?_toArray]
    exact valsH_at L h32 i x hx j v hv

theorem wpList_build_hash1 {ops : Array Oper} {rest : List Oper} {o : Oper} {a : Act} {w : World} {Q : Exit → Act → World → Prop} (hg : o.guard = none) (x : Operand) (ho : o.op = .buildSlice 24 1 #[(0, x)])
    (y : List UInt8) (hy : y.length = 32) (hx : a.eval x = .agg (valsB y).toArray)
    (h : ∀ w', RowOf w' w.heap.size 1 [y] → Below w.heap.size w w' → w'.heap[w.heap.size]? = some (.cells (valsH [y]).toArray 23 (0, 0)) → w.heap.size < w'.heap.size → wpList Try.prog ops Q rest (a.put o.dst (.slice (some ⟨w.heap.size, 0, none⟩) 1 1)) w') : wpList Try.prog ops Q (o :: rest) a w :=
  wpList_build_hashes hg 1 _ ho [y] (fun z hz => by simp at hz; subst hz; exact hy) rfl (by omega) (by omega) (by simp [hx]) h

theorem valsB_oneCell (h : List UInt8) : ∀ u ∈ valsB h, u.oneCell' = true := by
  intro u hu
  simp only [valsB, List.mem_map] at hu
  obtain ⟨b, _, rfl⟩ := hu
  rfl
theorem valsH_oneCell (L : List (List UInt8)) : ∀ u ∈ valsH L, u.oneCell' = true := by
  intro u hu
  obtain ⟨h, _, hu⟩ := List.mem_flatMap.1 hu
  exact valsB_oneCell h u hu

/-- append of hashes that lie in a row, onto a row of one's own. -/
theorem wpList_append_hashes {ops : Array Oper} {rest : List Oper} {o : Oper} {a : Act} {w : World} {Q : Exit → Act → World → Prop} (hgd : o.guard = none) (s x : Operand)
    (ho : o.op = .call { callee := .builtin .append, args := #[s, x], argTypes := #[24, 24] })
    (B : Nat) (v : Value) (P : List (List UInt8)) (hs : a.eval s = v) (hown : OwnH B v P w) (g1 n1 cap1 m : Nat) (L : List (List UInt8)) (hx : a.eval x = .slice (some ⟨g1, 0, none⟩) m cap1) (hrow : RowOf w g1 n1 L) (hm : L.length = m) (h0 : 0 < m)
    (hn : P.length + m ≤ 2199023255552) (hB : B ≤ w.heap.size)
    (h : ∀ v' w', OwnH B v' (P ++ L) w' → Below B w w' → (∃ g cap, v' = .slice (some ⟨g, 0, none⟩) (P.length + m) cap) → wpList Try.prog ops Q rest (a.put o.dst v') w') : wpList Try.prog ops Q (o :: rest) a w := by
  obtain ⟨ie, hie, hz, hsz, hby⟩ := info_row
  refine wpList_append_lies w hgd s x 24 ho B 23 ie _ 32 32 Try.underlying24 hie hz hsz hby rfl (by omega) v P.length (valsH P) hs hown.own ⟨g1, 0, none⟩ m cap1 (valsH L) hx (by rw [valsH_len L hrow.len, hm]) (fun j u hj => ?_) (valsH_oneCell L) h0 (by unfold maxLen; omega) (by omega) hB _ rfl ?_
  · have hj' := (List.getElem?_eq_some_iff.1 hj).1
    rw [valsH_len L hrow.len] at hj'
    have hd : j / 32 < L.length := by omega
    have hh := hrow.len _ (List.getElem_mem hd)
    have hjm : j % 32 < (valsB L[j / 32]).length := by rw [valsB_len, hh]; omega
    have h1 := hrow.at_ (j / 32) L[j / 32] (List.getElem?_eq_getElem hd) (j % 32) _ (List.getElem?_eq_getElem hjm)
    have h2 := valsH_at L hrow.len (j / 32) L[j / 32] (List.getElem?_eq_getElem hd) (j % 32) _ (List.getElem?_eq_getElem hjm)
    rw [show j / 32 * 32 + j % 32 = j by omega] at h1 h2
    rw [hj] at h2
    rw [Addr.add_mid, Nat.zero_add, h1, h2]
  · intro g cap w' hown' hgrow _ _
    have hl : (P ++ L).length = P.length + m := by rw [List.length_append, hm]
    refine h _ w' ⟨by rw [hl, show valsH (P ++ L) = valsH P ++ valsH L by simp [valsH]]; exact hown', fun y hy => (List.mem_append.1 hy).elim (hown.len y) (hrow.len y)⟩ ((Below.refl _ _).grown hgrow hB hown.base) ⟨g, cap, rfl⟩

/-- A proof: of each row the other one of the pair. -/
def proofN : Nat → List (List UInt8) → Nat → List (List UInt8)
  | 0, _, _ => []
  | f + 1, M, i => if M.length ≤ 1 then [] else (M[oth i]?).toList ++ proofN f (upF M) (i / 2)
def proofA (M : List (List UInt8)) (i : Nat) : List (List UInt8) := proofN M.length M i
theorem proofN_fuel : ∀ (f g : Nat) (M : List (List UInt8)) (i : Nat), M.length ≤ f → M.length ≤ g → proofN f M i = proofN g M i
  | 0, 0, _, _, _, _ => rfl
  | 0, g + 1, M, i, h, _ => by rw [proofN, proofN, if_pos (by omega)]
  | f + 1, 0, M, i, _, h => by rw [proofN, proofN, if_pos (by omega)]
  | f + 1, g + 1, M, i, h1, h2 => by
    rw [proofN, proofN]
    split
    · rfl
    · rw [proofN_fuel f g (upF M) _ (by rw [upF_len]; omega) (by rw [upF_len]; omega)]
theorem proofA_one (M : List (List UInt8)) (i : Nat) (h : M.length ≤ 1) : proofA M i = [] := by
  unfold proofA
  cases hl : M.length with
  | zero => rfl
  | succ n => rw [proofN, if_pos h]
theorem proofA_step (M : List (List UInt8)) (i : Nat) (h : 1 < M.length) : proofA M i = (M[oth i]?).toList ++ proofA (upF M) (i / 2) := by
  unfold proofA
  obtain ⟨n, hn⟩ : ∃ n, M.length = n + 1 := ⟨M.length - 1, by omega⟩
  rw [hn, proofN, if_neg (by omega), proofN_fuel n (upF M).length (upF M) _ (by rw [upF_len]; omega) (Nat.le_refl _)]
theorem proofA_len (f : Nat) : ∀ (M : List (List UInt8)) (i : Nat), M.length ≤ f → (proofA M i).length ≤ M.length := by
  induction f with
  | zero => intro M i h; rw [proofA_one M i (by omega)]; simp
  | succ f ih =>
    intro M i h
    by_cases h1 : M.length ≤ 1
    · rw [proofA_one M i h1]; simp
    · rw [proofA_step M i (by omega), List.length_append]
      have h2 := ih (upF M) (i / 2) (by rw [upF_len]; omega)
      rw [upF_len] at h2
      have h3 : (M[oth i]?).toList.length ≤ 1 := by cases M[oth i]? <;> simp
      omega

end Go.Proofs.Ytpifjeghoapjbaa.Tree
