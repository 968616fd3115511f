/- evolve: what a round of the code's toFirst keeps; where the way goes left for the last time. -/
import Derived.Test.YtpifjeghoapjbaaEwE
import Derived.Test.YtpifjeghoapjbaaQFl
namespace Go.Proofs.Ytpifjeghoapjbaa.Evolve
open Go.RowKit Go.Proofs.Ytpifjeghoapjbaa.Sha Go.Proofs.Ytpifjeghoapjbaa.Tree Go.Proofs.Ytpifjeghoapjbaa.Once

/-- The last row below n at which the way goes left; -1, if there is none. -/
def lastG (d p : Nat) : Nat → Int
  | 0 => -1
  | n + 1 => if rightAt d p n then lastG d p n else n
theorem lastG_lt (d p : Nat) : ∀ n, lastG d p n < n ∧ -1 ≤ lastG d p n
  | 0 => by simp [lastG]
  | n + 1 => by
    have h := lastG_lt d p n
    unfold lastG
    split <;> omega

set_option maxRecDepth 100000 in
set_option maxHeartbeats 3200000 in
theorem code_lastLeft (d p : Nat) (hd : d ≤ 4) (hp : p < 16) (w : World) :
    Calls Try.prog 30 #[.agg #[.int .i64 d, .int .i64 p]] w fun e w' => e = .returned (.int .i64 (lastG d p d)) ∧ Below w.heap.size w w' := by
  have HGR := Lib.hid (fun row (hr : row < d) w => code_goesRight d p row hr hd hp w)
  obtain ⟨CW, hCW⟩ : ∃ C, #[Value.int .i64 d, Value.int .i64 p] = C := ⟨_, rfl⟩
  have HIW := Lib.hid (show (Try.prog.info? 49).map (·.size) = some CW.size by rw [← hCW]; kernel_rfl)
  have HCW := Lib.hid hCW
  rw [hCW] at HGR
  rw [hCW]
  go_enter Try.func30, Try.ntmps30
  go_upto_region 1 with (fail)
  have c10 : (w.alloc (.cells CW 49)).cell? ⟨w.heap.size, 0, none⟩ = some (.int .i64 d) := by rw [← hCW]; exact way_cell0 w d p
  clear hCW
  have HA0 := Lib.hid (heap_alloc_new w (.cells CW 49))
  have HBW := Lib.hid (show Below w.heap.size w (w.alloc (.cells CW 49)) from (Below.refl _ _).alloc (Nat.le_refl _) _)
  have hs0 : (w.alloc (.cells CW 49)).heap.size = w.heap.size + 1 := by simp
  generalize (w.alloc (.cells CW 49)) = W at HA0 HBW hs0 c10 ⊢
  obtain ⟨g1, hg1⟩ : ∃ x, w.heap.size = x := ⟨_, rfl⟩
  rw [hg1] at HA0 HBW hs0 c10
  rw [hg1]
  have HGE := Lib.hid hg1
  have HLT := Lib.hid (show g1 < W.heap.size by omega)
  clear hg1 hs0
  go_wp2_with fail
  clear c10
  go_loopw [3] (fun iv wr => ∃ n : Nat, n ≤ d ∧ iv = .int .i64 ((n : Int) - 1) ∧ lastG d p n = lastG d p d ∧ Below W.heap.size W wr) (fun iv _ => (intOf iv + 1).toNat)
  case atStart => exact ⟨d, Nat.le_refl _, rfl, rfl, Below.refl _ _⟩
  case round =>
    obtain ⟨n, hn, rfl, hla, hbr⟩ := hrel
    have HLA := Lib.hid hla
    have HBR := Lib.hid hbr
    have H1 := Lib.hid ((hbr.block g1 HLT.out).trans HA0.out)
    clear hla hbr
    cases n with
    | zero =>
      have h1 : ((0 : Nat) : Int) - 1 = -1 := rfl
      rw [h1]
      go_wp2_with fail
      go_ret
      exact ⟨by rw [← HLA.out]; rfl, HGE.out ▸ HBW.out.trans (HBR.out.mono (Nat.le_of_lt HLT.out))⟩
    | succ m =>
      have hmi : ((m + 1 : Nat) : Int) - 1 = (m : Int) := by omega
      rw [hmi]
      obtain ⟨t, ht⟩ : ∃ t, rightAt d p m = t := ⟨_, rfl⟩
      have HG1 := Lib.hid (HGR.out m (by omega))
      rw [show (p / 2 ^ (d - 1 - m) % 2 == 1) = t from ht] at HG1
      have HLA2 := Lib.hid (show (if t then lastG d p m else (m : Int)) = lastG d p d by rw [← HLA.out, ← ht]; rfl)
      have hm0 : (0 : Int) ≤ (m : Int) := by omega
      clear ht hmi
      go_wp2_with (refine wpList_load_row_g rfl 49 (.tmp 1) rfl g1 rfl 49 CW (0, 0) _ H1.out Try.underlying49 rfl HIW.out ?_)
      refine (HG1.out _).mono ?_
      rintro e w3 ⟨rfl, hb3⟩
      have HB3 := Lib.hid (HBR.out.trans (hb3.mono HBR.out.size))
      clear hb3
      cases t with
      | true =>
        rw [if_pos rfl] at HLA2
        go_wp2_with fail
        go_roundw
        case rel => exact ⟨m, by omega, rfl, HLA2.out, HB3.out⟩
        case measure => simp [intOf]
      | false =>
        rw [if_neg (by decide)] at HLA2
        go_wp2_with fail
        go_ret
        exact ⟨by rw [← HLA2.out]; rfl, HGE.out ▸ HBW.out.trans (HB3.out.mono (Nat.le_of_lt HLT.out))⟩

/-- Behind k rounds of toFirst: the seed, Right, Side. -/
def firstT (d n : Nat) (seed : List UInt8) (R S : List (List UInt8)) : Nat → List UInt8 × List (List UInt8) × List (List UInt8)
  | 0 => (seed, R, S)
  | k + 1 =>
    let t := firstT d n seed R S k
    (leftF t.1, t.2.1 ++ [rightF t.1], t.2.2 ++ [rootE (d - 1 - (n + k)) (rightF t.1)])
theorem firstT_len (d n : Nat) (seed : List UInt8) (R S : List (List UInt8)) (hs : seed.length = 32) : ∀ k, (firstT d n seed R S k).1.length = 32 ∧ (firstT d n seed R S k).2.1.length = R.length + k ∧ (firstT d n seed R S k).2.2.length = S.length + k
  | 0 => ⟨hs, rfl, rfl⟩
  | k + 1 => by
    obtain ⟨_, h2, h3⟩ := firstT_len d n seed R S hs k
    exact ⟨rfl, by simp [firstT, h2]; omega, by simp [firstT, h3]; omega⟩

/-- The key, the seed, the result in their blocks, Right and Side in rows of one's own that are not one, and none of the three. -/
structure FirstAt (w : World) (B g2 g3 g4 : Nat) (Z : Array Value) (d p : Int) (leaf T : List UInt8) (rv sv : Value) (R S : List (List UInt8)) (wr : World) : Prop where
  seed : wr.heap[g3]? = some (.cells (valsB T).toArray 23 (0, 0))
  row : wr.heap[g2]? = some (.cells (evRow d p leaf rv sv) 26 (0, 0))
  res : wr.heap[g4]? = some (.cells Z 26 (0, 0))
  len : leaf.length = 32
  r : OwnH B rv R wr
  s : OwnH B sv S wr
  apart : ∀ k, rv.ownBlock = some k → sv.ownBlock ≠ some k
  ro : ∀ k, rv.ownBlock = some k → k ≠ g2 ∧ k ≠ g3 ∧ k ≠ g4
  so : ∀ k, sv.ownBlock = some k → k ≠ g2 ∧ k ≠ g3 ∧ k ≠ g4
  lt : B ≤ g2 ∧ g2 < g3 ∧ g3 < g4
  size : g4 < wr.heap.size
  below : Below B w wr

theorem own_set_ne {B : Nat} {v : Value} {P : List (List UInt8)} {w : World} {g : Nat} (h : OwnH B v P w) (hg : ∀ k, v.ownBlock = some k → k ≠ g) (cs : Array Value) : OwnH B v P (w.setRow g cs) := by
  refine ⟨h.own.kept (row := some g) ⟨rfl, rfl, rfl, by rw [setRow_size]; exact Nat.le_refl _, fun k _ hne => setRow_other _ _ _ _ (fun e => hne (by rw [e]))⟩ ?_, h.len⟩
  cases hu : v.ownBlock with
  | none => exact Or.inl rfl
  | some k => exact Or.inr (fun e => by cases e; exact hg g hu rfl)

section
variable {w : World} {B g2 g3 g4 : Nat} {Z : Array Value} {d p : Int} {leaf T : List UInt8} {rv sv : Value} {R S : List (List UInt8)} {wr : World}
theorem FirstAt.ev (h : FirstAt w B g2 g3 g4 Z d p leaf T rv sv R S wr) : EvAt wr g2 d p leaf rv sv := ⟨h.len, h.row⟩
theorem FirstAt.base (h : FirstAt w B g2 g3 g4 Z d p leaf T rv sv R S wr) : B ≤ wr.heap.size := by have := h.lt; have := h.size; omega
theorem FirstAt.kept {w' : World} (h : FirstAt w B g2 g3 g4 Z d p leaf T rv sv R S wr) (hb : Below wr.heap.size wr w') : FirstAt w B g2 g3 g4 Z d p leaf T rv sv R S w' where
  seed := (hb.block g3 (by have := h.lt; have := h.size; omega)).trans h.seed
  row := (hb.block g2 (by have := h.lt; have := h.size; omega)).trans h.row
  res := (hb.block g4 h.size).trans h.res
  len := h.len
  r := h.r.kept hb
  s := h.s.kept hb
  apart := h.apart
  ro := h.ro
  so := h.so
  lt := h.lt
  size := Nat.lt_of_lt_of_le h.size hb.size
  below := h.below.trans (hb.mono h.base)
theorem FirstAt.row_grown {v : Value} {w' : World} (h : FirstAt w B g2 g3 g4 Z d p leaf T rv sv R S wr) (hv : ∀ k, v.ownBlock = some k → k ≠ g2 ∧ k ≠ g3 ∧ k ≠ g4) (hg : wr.grownBy w' v.ownBlock) : w'.heap[g2]? = some (.cells (evRow d p leaf rv sv) 26 (0, 0)) := by
  rw [hg.block g2 (by have := h.lt; have := h.size; omega) (fun e => (hv g2 e.symm).1 rfl)]
  exact h.row
theorem FirstAt.growR {w' : World} {v' : Value} {x : List UInt8} (h : FirstAt w B g2 g3 g4 Z d p leaf T rv sv R S wr) (ho : OwnH B v' (R ++ [x]) w') (hg : wr.grownBy w' rv.ownBlock) (hk : ∀ k, v'.ownBlock = some k → rv.ownBlock = some k ∨ k = wr.heap.size) :
    FirstAt w B g2 g3 g4 Z d p leaf T v' sv (R ++ [x]) S (w'.setRow g2 (evRow d p leaf v' sv)) := by
  have hl := h.lt
  have hz := h.size
  have keep : ∀ k, k < wr.heap.size → (∀ b, rv.ownBlock = some b → b ≠ k) → w'.heap[k]? = wr.heap[k]? := fun k hkB hne => hg.block k hkB (fun e => hne k e.symm rfl)
  have hro' : ∀ k, v'.ownBlock = some k → k ≠ g2 ∧ k ≠ g3 ∧ k ≠ g4 := fun k hk1 => by
    rcases hk k hk1 with h1 | h1
    · exact h.ro k h1
    · omega
  exact
    { seed := by
        rw [setRow_other _ _ _ _ (by omega), keep g3 (by omega) (fun b hb => (h.ro b hb).2.1)]
        exact h.seed
      row := setRow_heap _ _ _ _ _ _ (h.row_grown h.ro hg)
      res := by
        rw [setRow_other _ _ _ _ (by omega), keep g4 (by omega) (fun b hb => (h.ro b hb).2.2)]
        exact h.res
      len := h.len
      r := own_set_ne ho (fun k hk1 => (hro' k hk1).1) _
      s := own_set_ne (own_other h.s hg (fun k hk1 hk2 => h.apart k hk2 hk1)) (fun k hk1 => (h.so k hk1).1) _
      apart := fun k hk1 hk2 => by
        rcases hk k hk1 with h1 | h1
        · exact h.apart k h1 hk2
        · have := (own_lt h.s k hk2).2; omega
      ro := hro'
      so := h.so
      lt := h.lt
      size := by rw [setRow_size]; exact Nat.lt_of_lt_of_le h.size hg.size
      below := below_setRow (h.below.grown hg h.base (fun k hk1 => (own_lt h.r k hk1).1)) hl.1 _ }
theorem FirstAt.growS {w' : World} {v' : Value} {x : List UInt8} (h : FirstAt w B g2 g3 g4 Z d p leaf T rv sv R S wr) (ho : OwnH B v' (S ++ [x]) w') (hg : wr.grownBy w' sv.ownBlock) (hk : ∀ k, v'.ownBlock = some k → sv.ownBlock = some k ∨ k = wr.heap.size) :
    FirstAt w B g2 g3 g4 Z d p leaf T rv v' R (S ++ [x]) (w'.setRow g2 (evRow d p leaf rv v')) := by
  have hl := h.lt
  have hz := h.size
  have keep : ∀ k, k < wr.heap.size → (∀ b, sv.ownBlock = some b → b ≠ k) → w'.heap[k]? = wr.heap[k]? := fun k hkB hne => hg.block k hkB (fun e => hne k e.symm rfl)
  have hso' : ∀ k, v'.ownBlock = some k → k ≠ g2 ∧ k ≠ g3 ∧ k ≠ g4 := fun k hk1 => by
    rcases hk k hk1 with h1 | h1
    · exact h.so k h1
    · omega
  exact
    { seed := by
        rw [setRow_other _ _ _ _ (by omega), keep g3 (by omega) (fun b hb => (h.so b hb).2.1)]
        exact h.seed
      row := setRow_heap _ _ _ _ _ _ (h.row_grown h.so hg)
      res := by
        rw [setRow_other _ _ _ _ (by omega), keep g4 (by omega) (fun b hb => (h.so b hb).2.2)]
        exact h.res
      len := h.len
      r := own_set_ne (own_other h.r hg (fun k hk1 hk2 => h.apart k hk1 hk2)) (fun k hk1 => (h.ro k hk1).1) _
      s := own_set_ne ho (fun k hk1 => (hso' k hk1).1) _
      apart := fun k hk1 hk2 => by
        rcases hk k hk2 with h1 | h1
        · exact h.apart k hk1 h1
        · have := (own_lt h.r k hk1).2; omega
      ro := h.ro
      so := hso'
      lt := h.lt
      size := by rw [setRow_size]; exact Nat.lt_of_lt_of_le h.size hg.size
      below := below_setRow (h.below.grown hg h.base (fun k hk1 => (own_lt h.s k hk1).1)) hl.1 _ }
theorem FirstAt.goes (h : FirstAt w B g2 g3 g4 Z d p leaf T rv sv R S wr) (T' : List UInt8) : FirstAt w B g2 g3 g4 Z d p leaf T' rv sv R S (wr.setRow g3 (valsB T').toArray) := by
  have hl := h.lt
  exact
    { seed := setRow_heap _ _ _ _ _ _ h.seed
      row := by
        rw [setRow_other _ _ _ _ (by omega)]
        exact h.row
      res := by
        rw [setRow_other _ _ _ _ (by omega)]
        exact h.res
      len := h.len
      r := own_set_ne h.r (fun k hk1 => (h.ro k hk1).2.1) _
      s := own_set_ne h.s (fun k hk1 => (h.so k hk1).2.1) _
      apart := h.apart
      ro := h.ro
      so := h.so
      lt := h.lt
      size := by rw [setRow_size]; exact h.size
      below := below_setRow h.below (by omega) _ }
end
end Go.Proofs.Ytpifjeghoapjbaa.Evolve
