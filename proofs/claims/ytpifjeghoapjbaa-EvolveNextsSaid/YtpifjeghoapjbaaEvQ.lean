/- evolve: what a round of the document's Next keeps. -/
import Derived.Test.YtpifjeghoapjbaaEvP
namespace Go.Proofs.Ytpifjeghoapjbaa.Evolve
open Go.RowKit Go.Proofs.Ytpifjeghoapjbaa.Sha Go.Proofs.Ytpifjeghoapjbaa.Tree Go.Proofs.Ytpifjeghoapjbaa.Once

/-- The key that is made, in its block, Right and Side in rows of one's own that are not one, all else below B as it was. -/
structure OutAt (w w2 : World) (B b0 g : Nat) (d p : Int) (leaf : List UInt8) (rv sv : Value) (R S : List (List UInt8)) (wr : World) : Prop where
  len : leaf.length = 32
  row : wr.heap[g]? = some (.cells (evRow d p leaf rv sv) 26 (0, 0))
  r : OwnH B rv R wr
  s : OwnH B sv S wr
  apart : ∀ k, rv.ownBlock = some k → sv.ownBlock ≠ some k
  rest : ∀ k, k < B → k ≠ g → wr.heap[k]? = w2.heap[k]?
  size : B ≤ wr.heap.size
  lt : b0 ≤ g ∧ g < B
  below : Below b0 w wr
section
variable {w w2 : World} {B b0 g : Nat} {d p : Int} {leaf : List UInt8} {rv sv : Value} {R S : List (List UInt8)} {wr : World}
theorem OutAt.ev (h : OutAt w w2 B b0 g d p leaf rv sv R S wr) : EvAt wr g d p leaf rv sv := ⟨h.len, h.row⟩
theorem OutAt.kept {w' : World} (h : OutAt w w2 B b0 g d p leaf rv sv R S wr) (hb : Below wr.heap.size wr w') : OutAt w w2 B b0 g d p leaf rv sv R S w' where
  len := h.len
  row := (hb.block g (Nat.lt_of_lt_of_le h.lt.2 h.size)).trans h.row
  r := h.r.kept hb
  s := h.s.kept hb
  apart := h.apart
  rest := fun k hk hg => (hb.block k (Nat.lt_of_lt_of_le hk h.size)).trans (h.rest k hk hg)
  size := Nat.le_trans h.size hb.size
  lt := h.lt
  below := h.below.trans (hb.mono (by have := h.lt; have := h.size; omega))
theorem OutAt.row_grown {v : Value} {w' : World} (h : OutAt w w2 B b0 g d p leaf rv sv R S wr) (hv : ∀ k, v.ownBlock = some k → B ≤ k) (hg : wr.grownBy w' v.ownBlock) : w'.heap[g]? = some (.cells (evRow d p leaf rv sv) 26 (0, 0)) := by
  rw [hg.block g (Nat.lt_of_lt_of_le h.lt.2 h.size) (fun e => by have := hv g e.symm; have := h.lt.2; omega)]
  exact h.row
theorem OutAt.growR {w' : World} {v' : Value} {x : List UInt8} (h : OutAt w w2 B b0 g d p leaf rv sv R S wr) (ho : OwnH B v' (R ++ [x]) w') (hg : wr.grownBy w' rv.ownBlock) (hk : ∀ k, v'.ownBlock = some k → rv.ownBlock = some k ∨ k = wr.heap.size) :
    OutAt w w2 B b0 g d p leaf v' sv (R ++ [x]) S (w'.setRow g (evRow d p leaf v' sv)) := by
  have hB := fun k hk => (own_lt h.r k hk).1
  have keep : ∀ k, k < B → w'.heap[k]? = wr.heap[k]? := fun k hkB => hg.block k (Nat.lt_of_lt_of_le hkB h.size) (fun e => by have := hB k e.symm; omega)
  exact
    { len := h.len
      row := setRow_heap _ _ _ _ _ _ (h.row_grown hB hg)
      r := own_set ho h.lt.2 _
      s := own_set (own_other h.s hg (fun k hk1 hk2 => h.apart k hk2 hk1)) h.lt.2 _
      apart := fun k hk1 hk2 => by
        rcases hk k hk1 with h1 | h1
        · exact h.apart k h1 hk2
        · have := (own_lt h.s k hk2).2; omega
      rest := fun k hkB hkg => by
        rw [setRow_other _ _ _ _ hkg, keep k hkB]
        exact h.rest k hkB hkg
      size := by rw [setRow_size]; exact Nat.le_trans h.size hg.size
      lt := h.lt
      below := below_setRow (h.below.grown hg (by have := h.lt; have := h.size; omega) (fun k hk1 => by have := hB k hk1; have := h.lt; omega)) h.lt.1 _ }
theorem OutAt.growS {w' : World} {v' : Value} {x : List UInt8} (h : OutAt w w2 B b0 g d p leaf rv sv R S wr) (ho : OwnH B v' (S ++ [x]) w') (hg : wr.grownBy w' sv.ownBlock) (hk : ∀ k, v'.ownBlock = some k → sv.ownBlock = some k ∨ k = wr.heap.size) :
    OutAt w w2 B b0 g d p leaf rv v' R (S ++ [x]) (w'.setRow g (evRow d p leaf rv v')) := by
  have hB := fun k hk => (own_lt h.s k hk).1
  have keep : ∀ k, k < B → w'.heap[k]? = wr.heap[k]? := fun k hkB => hg.block k (Nat.lt_of_lt_of_le hkB h.size) (fun e => by have := hB k e.symm; omega)
  exact
    { len := h.len
      row := setRow_heap _ _ _ _ _ _ (h.row_grown hB hg)
      r := own_set (own_other h.r hg (fun k hk1 hk2 => h.apart k hk1 hk2)) h.lt.2 _
      s := own_set ho h.lt.2 _
      apart := fun k hk1 hk2 => by
        rcases hk k hk2 with h1 | h1
        · exact h.apart k hk1 h1
        · have := (own_lt h.r k hk1).2; omega
      rest := fun k hkB hkg => by
        rw [setRow_other _ _ _ _ hkg, keep k hkB]
        exact h.rest k hkB hkg
      size := by rw [setRow_size]; exact Nat.le_trans h.size hg.size
      lt := h.lt
      below := below_setRow (h.below.grown hg (by have := h.lt; have := h.size; omega) (fun k hk1 => by have := hB k hk1; have := h.lt; omega)) h.lt.1 _ }
end

theorem built_ev32 (d p : Int) (a0 a1 a2 a3 a4 a5 a6 a7 a8 a9 a10 a11 a12 a13 a14 a15 a16 a17 a18 a19 a20 a21 a22 a23 a24 a25 a26 a27 a28 a29 a30 a31 : UInt8) : Try.prog.built 26 [(0, .int .i64 d), (1, .int .i64 p), (2, .agg (valsB (a0 :: a1 :: a2 :: a3 :: a4 :: a5 :: a6 :: a7 :: a8 :: a9 :: a10 :: a11 :: a12 :: a13 :: a14 :: a15 :: a16 :: a17 :: a18 :: a19 :: a20 :: a21 :: a22 :: a23 :: a24 :: a25 :: a26 :: a27 :: a28 :: a29 :: a30 :: a31 :: [])).toArray)] = some (evRow d p (a0 :: a1 :: a2 :: a3 :: a4 :: a5 :: a6 :: a7 :: a8 :: a9 :: a10 :: a11 :: a12 :: a13 :: a14 :: a15 :: a16 :: a17 :: a18 :: a19 :: a20 :: a21 :: a22 :: a23 :: a24 :: a25 :: a26 :: a27 :: a28 :: a29 :: a30 :: a31 :: []) (.slice none 0 0) (.slice none 0 0)) := by kernel_rfl
theorem built_ev (d p : Int) (T : List UInt8) (hT : T.length = 32) : Try.prog.built 26 [(0, .int .i64 d), (1, .int .i64 p), (2, .agg (valsB T).toArray)] = some (evRow d p T (.slice none 0 0) (.slice none 0 0)) := by
  match T, hT with
  | a0 :: a1 :: a2 :: a3 :: a4 :: a5 :: a6 :: a7 :: a8 :: a9 :: a10 :: a11 :: a12 :: a13 :: a14 :: a15 :: a16 :: a17 :: a18 :: a19 :: a20 :: a21 :: a22 :: a23 :: a24 :: a25 :: a26 :: a27 :: a28 :: a29 :: a30 :: a31 :: [], _ => exact built_ev32 d p a0 a1 a2 a3 a4 a5 a6 a7 a8 a9 a10 a11 a12 a13 a14 a15 a16 a17 a18 a19 a20 a21 a22 a23 a24 a25 a26 a27 a28 a29 a30 a31

/-- The rows that a key has not yet, as the document lays them: a key of their own. -/
theorem firstT_app (d n : Nat) (s : List UInt8) (A B : List (List UInt8)) : ∀ k, firstT d n s A B k = ((firstT d n s [] [] k).1, A ++ (firstT d n s [] [] k).2.1, B ++ (firstT d n s [] [] k).2.2)
  | 0 => by simp [firstT]
  | k + 1 => by
    have h := firstT_app d n s A B k
    simp only [firstT]
    rw [h]
    simp only [List.append_assoc]
theorem firstT_shift (d n : Nat) (s : List UInt8) (A B : List (List UInt8)) : ∀ k, firstT d n s A B k = firstT (d - n) 0 s A B k
  | 0 => rfl
  | k + 1 => by
    simp only [firstT]
    rw [firstT_shift d n s A B k, show d - 1 - (n + k) = d - n - 1 - (0 + k) by omega]
theorem nextT_doc (d p j : Nat) (hd : d ≤ 4) (leaf : List UInt8) (R S : List (List UInt8)) : nextT d p j leaf R S = ((keyP (d - 1 - j) 0 (R.getD j [])).1, R.take j ++ [zeroL] ++ (keyP (d - 1 - j) 0 (R.getD j [])).2.1, S.take j ++ [overE (digitsE d p) S (j + 1) d (pubK leaf)] ++ (keyP (d - 1 - j) 0 (R.getD j [])).2.2) := by
  unfold nextT
  rw [firstT_app, firstT_shift, show d - (j + 1) = d - 1 - j by omega, keyP_first _ _ (by omega)]

end Go.Proofs.Ytpifjeghoapjbaa.Evolve
