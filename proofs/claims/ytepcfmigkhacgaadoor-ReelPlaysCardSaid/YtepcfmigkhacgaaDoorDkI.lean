/- disk: what a crash keeps: in plain words; files as they are made. -/
import Derived.Test.YtepcfmigkhacgaaDoorDkH
namespace Go.Proofs.YtepcfmigkhacgaaDoor.Dk
open Go.RowKit Go.Proofs.YtepcfmigkhacgaaDoor.Gr

/-- Numbers among others. -/
def KI : Kind Tryd.prog Int where
  T := 3
  size := 1
  bytes := 8
  zero := .int .i64 0
  enc n := [.int .i64 n]
  info := by kernel_rfl
  zsize := rfl
  pos := by decide
  len _ := rfl
  one x u hu := by simp at hu; subst hu; rfl

def keptN (keep : List Int) (i : Nat) : Nat := (max (keep.getD i 0) 0).toNat
/-- A file as it is made: bytes, or nothing yet. -/
abbrev Fl := Option (List UInt8)
def getX (sure : List ByteArray) (X : List Fl) (f : Nat) : List UInt8 := (X.getD f none).getD (sure.getD f ⟨#[]⟩).data.toList
def stepX (sure : List ByteArray) (X : List Fl) (c : Ch) (k : Nat) : List Fl := X.set c.file (some (doneB c (getX sure X c.file) k))
def crashN (sure : List ByteArray) (keep : List Int) (L : List Ch) : Nat → List Fl
  | 0 => List.replicate 64 none
  | n + 1 => match L[n]? with
    | some c => stepX sure (crashN sure keep L n) c (keptN keep n)
    | none => crashN sure keep L n
def mergeN (sure : List ByteArray) (X : List Fl) : Nat → List ByteArray
  | 0 => sure
  | n + 1 => match X.getD n none with
    | some b => (mergeN sure X n).set n ⟨b.toArray⟩
    | none => mergeN sure X n
def crashQ (S : St) (keep : List Int) : List ByteArray := mergeN S.sure (crashN S.sure keep S.loose S.loose.length) 64
def crashS (S : St) (keep : List Int) : St := { now := crashQ S keep, sure := crashQ S keep, loose := [], on := true, lasts := -1, ops := S.ops }
theorem crashN_len (sure : List ByteArray) (keep : List Int) (L : List Ch) (n : Nat) : (crashN sure keep L n).length = 64 := by
  induction n with
  | zero => simp [crashN]
  | succ n ih =>
    unfold crashN
    split
    · simp [stepX, ih]
    · exact ih
theorem mergeN_len (sure : List ByteArray) (X : List Fl) (n : Nat) : (mergeN sure X n).length = sure.length := by
  induction n with
  | zero => rfl
  | succ n ih =>
    unfold mergeN
    split
    · simp [ih]
    · exact ih

theorem code_kept (kv : Value) (keep : List Int) (i p : Nat) (w : World) (hc : w.cell? ⟨p, 0, none⟩ = some kv) (hK : KI.At w kv keep) (hi : i ≤ 1000000000) :
    Calls Tryd.prog 44 #[.int .i64 i, .pointer (some ⟨p, 0, none⟩)] w fun e w' => e = .returned (.int .i64 (keptN keep i)) ∧ w = w' := by
  obtain ⟨a, cap, rfl, hcap⟩ := hK.form
  by_cases hlt : i < keep.length
  · obtain ⟨g, o, cap', hav, _, hr⟩ := hK.some (by omega)
    injection hav with hav1 hav2 hav3
    subst hav1 hav3
    have hx := List.getElem?_eq_getElem hlt
    obtain ⟨x, hxx⟩ : ∃ x, keep[i] = x := ⟨_, rfl⟩
    rw [hxx] at hx
    have hcx : w.cell? ⟨g, o + i, none⟩ = some (.int .i64 x) := by
      have := range_thing (K := KI) hr hx (j := 0) (u := .int .i64 x) rfl
      simpa [KI] using this
    have hkn : keptN keep i = (max x 0).toNat := by
      unfold keptN
      rw [List.getD_eq_getElem?_getD, hx]
      rfl
    rw [hkn]
    have h1 : ¬ (keep.length : Int) ≤ (i : Int) := by omega
    have h2 : (i : Int) < (keep.length : Int) := by omega
    clear hK hxx hx hr hkn hlt
    generalize keep.length = n at *
    by_cases hx0 : x < 0
    · have hm : (max x 0).toNat = 0 := by omega
      rw [hm]
      go_enter Tryd.func44, Tryd.ntmps44
      go_wp2_with fail
      go_ret
      exact ⟨rfl, rfl⟩
    · have hm : ((max x 0).toNat : Int) = x := by omega
      rw [hm]
      clear hm
      have hx1 : 0 ≤ x := by omega
      go_enter Tryd.func44, Tryd.ntmps44
      go_wp2_with fail
      go_ret
      exact ⟨rfl, rfl⟩
  · have hkn : keptN keep i = 0 := by
      unfold keptN
      rw [List.getD_eq_getElem?_getD, List.getElem?_eq_none (by omega)]
      rfl
    rw [hkn]
    have h1 : (keep.length : Int) ≤ (i : Int) := by omega
    clear hK hkn hlt
    generalize keep.length = n at *
    go_enter Tryd.func44, Tryd.ntmps44
    go_wp2_with fail
    go_ret
    exact ⟨rfl, rfl⟩

/-- Files as they are made, in a row of slices in block p; their bytes in blocks from B on. -/
structure FilesAt (B : Nat) (w : World) (p : Nat) (V : List Value) (X : List Fl) : Prop where
  heap : w.heap[p]? = some (.cells V.toArray 82 (0, 0))
  lenV : V.length = 64
  lenX : X.length = 64
  fNone : ∀ f : Nat, X[f]? = some none → V[f]? = some (Value.slice none 0 0)
  fSome : ∀ (f : Nat) (b : List UInt8), X[f]? = some (some b) → ∃ v, V[f]? = some v ∧ BAt w v b
  apart : ∀ f g k : Nat, f ≠ g → (V.getD f undef).ownBlock = Option.some k → (V.getD g undef).ownBlock ≠ Option.some k
  new : ∀ f k : Nat, (V.getD f undef).ownBlock = Option.some k → B ≤ k
theorem FilesAt.lt {B : Nat} {w : World} {p : Nat} {V : List Value} {X : List Fl} (h : FilesAt B w p V X) : p < w.heap.size := (Array.getElem?_eq_some_iff.1 h.heap).1
theorem FilesAt.val {B : Nat} {w : World} {p : Nat} {V : List Value} {X : List Fl} (h : FilesAt B w p V X) {f : Nat} (hf : f < 64) : (X.getD f .none = .none ∧ V.getD f undef = Value.slice .none 0 0) ∨ ∃ b, X.getD f .none = .some b ∧ BAt w (V.getD f undef) b := by
  have hx : X[f]? = .some (X.getD f .none) := by
    rw [List.getD_eq_getElem?_getD, List.getElem?_eq_getElem (by rw [h.lenX]; exact hf)]
    rfl
  cases hy : X.getD f .none with
  | none =>
    rw [hy] at hx
    exact Or.inl ⟨rfl, by rw [List.getD_eq_getElem?_getD, h.fNone f hx]; rfl⟩
  | some b =>
    rw [hy] at hx
    obtain ⟨v, hv, hb⟩ := h.fSome f b hx
    exact Or.inr ⟨b, rfl, by rw [List.getD_eq_getElem?_getD, hv]; exact hb⟩
theorem FilesAt.cell {B : Nat} {w : World} {p : Nat} {V : List Value} {X : List Fl} (h : FilesAt B w p V X) {f : Nat} (hf : f < 64) : w.cell? ⟨p, f, none⟩ = .some (V.getD f undef) := by
  rw [Lib.cell_of_heap h.heap, List.getElem?_toArray, List.getD_eq_getElem?_getD, List.getElem?_eq_getElem (by rw [h.lenV]; exact hf)]
  rfl
theorem FilesAt.form {B : Nat} {w : World} {p : Nat} {V : List Value} {X : List Fl} (h : FilesAt B w p V X) {f : Nat} (hf : f < 64) : ∃ a n c, V.getD f undef = Value.slice a n c := by
  rcases h.val hf with ⟨_, h1⟩ | ⟨b, _, hb⟩
  · exact ⟨_, _, _, h1⟩
  · obtain ⟨g, cap, hv, _⟩ := hb.form
    exact ⟨_, _, _, hv⟩
/-- The type of what the bytes lie in. -/
theorem FilesAt.type {B : Nat} {w : World} {p : Nat} {V : List Value} {X : List Fl} (h : FilesAt B w p V X) {f k : Nat} (hk : (V.getD f undef).ownBlock = Option.some k) : ∃ cur fz, w.heap[k]? = Option.some (.cells cur 5 fz) := by
  by_cases hf : f < 64
  · rcases h.val hf with ⟨_, h1⟩ | ⟨b, _, hb⟩
    · rw [h1] at hk; simp [Value.ownBlock] at hk
    · exact hb.type k hk
  · rw [List.getD_eq_getElem?_getD, List.getElem?_eq_none (by rw [h.lenV]; omega)] at hk
    simp [Value.ownBlock, undef] at hk
theorem FilesAt.ne {B : Nat} {w : World} {p : Nat} {V : List Value} {X : List Fl} (h : FilesAt B w p V X) {f k : Nat} (hk : (V.getD f undef).ownBlock = Option.some k) {cur : Array Value} {t : TypeId} {fz : Nat × Nat} {q : Nat} (hq : w.heap[q]? = Option.some (.cells cur t fz)) (ht : t ≠ 5) : k ≠ q := fun e => by
  obtain ⟨c2, fz2, h2⟩ := h.type hk
  rw [e, hq] at h2
  simp at h2
  exact ht h2.2.1
theorem FilesAt.frm {B : Nat} {F : Nat → Prop} {w w' : World} {p : Nat} {V : List Value} {X : List Fl} (h : FilesAt B w p V X) (hf : Frm F w w') (hp : ¬ F p) (hV : ∀ f k, (V.getD f undef).ownBlock = Option.some k → ¬ F k) : FilesAt B w' p V X where
  heap := (hf.block p h.lt hp).trans h.heap
  lenV := h.lenV
  lenX := h.lenX
  fNone := h.fNone
  fSome f b hb := by
    obtain ⟨v, hv, hB⟩ := h.fSome f b hb
    exact ⟨v, hv, hB.frm hf (fun k hk => hV f k (by rw [List.getD_eq_getElem?_getD, hv]; exact hk))⟩
  apart := h.apart
  new := h.new
/-- A file is made anew. -/
theorem FilesAt.put {B : Nat} {w w' : World} {p : Nat} {V : List Value} {X : List Fl} (h : FilesAt B w p V X) {f : Nat} (hlt : f < 64) {v : Value} {b : List UInt8} (hB : BAt w' v b) (hf : Frm (fun i => (V.getD f undef).ownBlock = Option.some i) w w')
    (ho : ∀ i, v.ownBlock = Option.some i → (V.getD f undef).ownBlock = Option.some i ∨ w.heap.size ≤ i) (hBw : B ≤ w.heap.size) : FilesAt B (w'.setCell ⟨p, f, .none⟩ v) p (V.set f v) (X.set f (.some b)) ∧ w'.cell? ⟨p, f, .none⟩ = .some (V.getD f undef) ∧ w'.frozen? ⟨p, f, .none⟩ = false := by
  have hpv : ∀ k, (V.getD f undef).ownBlock = Option.some k → k ≠ p := fun k hk => h.ne hk h.heap (by decide)
  have hh : w'.heap[p]? = .some (.cells V.toArray 82 (0, 0)) := (hf.block p h.lt (fun e => hpv p e rfl)).trans h.heap
  have hvp : ∀ k, v.ownBlock = Option.some k → k ≠ p := fun k hk => by
    rcases ho k hk with h1 | h1
    · exact hpv k h1
    · have := h.lt; omega
  have hgs : ∀ g, g ≠ f → (V.set f v).getD g undef = V.getD g undef := fun g hg => by
    rw [List.getD_eq_getElem?_getD, List.getElem?_set_ne (Ne.symm hg), List.getD_eq_getElem?_getD]
  have hfs : (V.set f v).getD f undef = v := by
    rw [List.getD_eq_getElem?_getD, List.getElem?_set_self (by rw [h.lenV]; exact hlt)]
    rfl
  have hfar : ∀ g k, g ≠ f → (V.getD g undef).ownBlock = Option.some k → v.ownBlock ≠ Option.some k := fun g k hg hk e => by
    rcases ho k e with h1 | h1
    · exact h.apart g f k hg hk h1
    · obtain ⟨c, fz, h2⟩ := h.type hk
      have := (Array.getElem?_eq_some_iff.1 h2).1
      omega
  have hset : w'.setCell ⟨p, f, .none⟩ v = w'.setRow p (V.set f v).toArray := by
    rw [setCell_eq_setRow w' p f _ _ _ v hh, List.setIfInBounds_toArray]
  have hst : Frm (fun k => k = p) w' (w'.setCell ⟨p, f, .none⟩ v) := Frm.setCell (F := fun k => k = p) (p := ⟨p, f, .none⟩) (Frm.refl _ _) (Or.inl rfl) v
  refine ⟨⟨?_, by simpa using h.lenV, by simpa using h.lenX, fun g hg => ?_, fun g c hg => ?_, fun g g' k hne hk => ?_, fun g k hk => ?_⟩, by rw [Lib.cell_of_heap hh, List.getElem?_toArray, List.getD_eq_getElem?_getD, List.getElem?_eq_getElem (by rw [h.lenV]; exact hlt)]; rfl, by simp [World.frozen?, hh]⟩
  · rw [hset]
    exact setRow_heap _ _ _ _ _ _ hh
  · by_cases e : g = f
    · subst e
      rw [List.getElem?_set_self (by rw [h.lenX]; exact hlt)] at hg
      simp at hg
    · rw [List.getElem?_set_ne (Ne.symm e)] at hg ⊢
      exact h.fNone g hg
  · by_cases e : g = f
    · subst e
      rw [List.getElem?_set_self (by rw [h.lenX]; exact hlt)] at hg
      simp at hg
      subst hg
      refine ⟨v, List.getElem?_set_self (by rw [h.lenV]; exact hlt), hB.frm (F := fun k => k = p) hst (fun k hk e => hvp k hk e)⟩
    · rw [List.getElem?_set_ne (Ne.symm e)] at hg
      obtain ⟨u, hu, hb⟩ := h.fSome g c hg
      have hug : V.getD g undef = u := by rw [List.getD_eq_getElem?_getD, hu]; rfl
      refine ⟨u, by rw [List.getElem?_set_ne (Ne.symm e)]; exact hu, (hb.frm hf (fun k hk e2 => ?_)).frm (F := fun k => k = p) hst (fun k hk e2 => ?_)⟩
      · exact h.apart g f k e (by rw [hug]; exact hk) e2
      · exact h.ne (f := g) (by rw [hug]; exact hk) h.heap (by decide) e2
  · by_cases e : g = f
    · subst e
      rw [hfs] at hk
      rw [hgs g' (Ne.symm hne)]
      exact fun e2 => hfar g' k (Ne.symm hne) e2 hk
    · rw [hgs g e] at hk
      by_cases e' : g' = f
      · subst e'
        rw [hfs]
        exact hfar g k e hk
      · rw [hgs g' e']
        exact h.apart g g' k hne hk
  · by_cases e : g = f
    · subst e
      rw [hfs] at hk
      rcases ho k hk with h1 | h1
      · exact h.new g k h1
      · omega
    · rw [hgs g e] at hk
      exact h.new g k hk
end Go.Proofs.YtepcfmigkhacgaaDoor.Dk
