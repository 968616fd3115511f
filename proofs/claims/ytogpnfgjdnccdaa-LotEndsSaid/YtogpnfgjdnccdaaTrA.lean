/- The tree: leaves, pairs, roots. -/
import Derived.Test.YtogpnfgjdnccdaaShaL5
import Derived.Deep.MidRow
import Derived.BigQuiet
namespace Go.Proofs.Ytogpnfgjdnccdaa.Tree
open Go.RowKit Go.Proofs.Ytogpnfgjdnccdaa.Sha

/-- What parts under a tag come to. -/
def ofT (tag : ByteArray) (P : List ByteArray) : List UInt8 := shaS ⟨(rowL tag P).toArray⟩
theorem ofT_len (tag : ByteArray) (P : List ByteArray) : (ofT tag P).length = 32 := rfl
abbrev leafT : ByteArray := ⟨#[108, 101, 97, 102]⟩
abbrev pairT : ByteArray := ⟨#[112, 97, 105, 114]⟩
abbrev noneT : ByteArray := ⟨#[110, 111, 110, 101]⟩
abbrev rootT : ByteArray := ⟨#[114, 111, 111, 116]⟩
def leafF (h : List UInt8) : List UInt8 := ofT leafT [⟨h.toArray⟩]
def pairF (a b : List UInt8) : List UInt8 := ofT pairT [⟨a.toArray⟩, ⟨b.toArray⟩]
def noneF : List UInt8 := ofT noneT []
def rootF (n : Nat) (top : List UInt8) : List UInt8 := ofT rootT [⟨(Digit.eightL n).toArray⟩, ⟨top.toArray⟩]
theorem leafF_len (h : List UInt8) : (leafF h).length = 32 := rfl
theorem pairF_len (a b : List UInt8) : (pairF a b).length = 32 := rfl
theorem noneF_len : noneF.length = 32 := rfl
theorem rootF_len (n : Nat) (t : List UInt8) : (rootF n t).length = 32 := rfl

theorem rowL_small (tag : ByteArray) (P : List ByteArray) (ht : tag.size ≤ 100) (hP : P.length ≤ 2) (hs : ∀ s ∈ P, s.size ≤ 100) : (rowL tag P).length ≤ 400 := by
  have h1 := putText_len tag.data.toList
  have h2 : tag.data.toList.length = tag.size := by rw [Array.length_toList]; rfl
  have hh : ∀ s : ByteArray, s.size ≤ 100 → (Digit.putTextL s.data.toList).length ≤ 110 := fun s h => by
    have h3 := putText_len s.data.toList
    have h4 : s.data.toList.length = s.size := by rw [Array.length_toList]; rfl
    omega
  unfold rowL
  rw [List.length_append]
  match P, hP with
  | [], _ => simp; omega
  | [a], _ =>
    have := hh a (hs a (by simp))
    simp
    omega
  | [a, b], _ =>
    have := hh a (hs a (by simp))
    have := hh b (hs b (by simp))
    simp
    omega

theorem size_of (l : List UInt8) (n : Nat) (h : l.length = n) : (ByteArray.mk l.toArray).size = n := by rw [size_mk, h]

/-- The code's Of, the document's Of, over one or two short texts that lie in a row of one's own. -/
theorem texts_one (w : World) (a : ByteArray) : Texts (w.alloc (.cells #[.string a] 9)) (.slice (some ⟨w.heap.size, 0, none⟩) 1 1) [a] :=
  Or.inr ⟨w.heap.size, 0, 1, rfl, by simp, fun i s hs => by
    match i, hs with
    | 0, hs => simp at hs; subst hs; simp⟩
theorem texts_two (w : World) (a b : ByteArray) : Texts (w.alloc (.cells #[.string a, .string b] 9)) (.slice (some ⟨w.heap.size, 0, none⟩) 2 2) [a, b] :=
  Or.inr ⟨w.heap.size, 0, 2, rfl, by simp, fun i s hs => by
    match i, hs with
    | 0, hs => simp at hs; subst hs; simp
    | 1, hs => simp at hs; subst hs; simp⟩

theorem small_bounds (tag : ByteArray) (P : List ByteArray) (ht : tag.size ≤ 100) (hP : P.length ≤ 2) (hs : ∀ s ∈ P, s.size ≤ 100) :
    tag.size ≤ 70368744177664 ∧ (∀ s ∈ P, s.size ≤ 70368744177664) ∧ (rowL tag P).length ≤ 1000000000 ∧ P.length ≤ 140737488355328 :=
  ⟨by omega, fun s h => by have := hs s h; omega, by have := rowL_small tag P ht hP hs; omega, by omega⟩

theorem code_ofT (tag : ByteArray) (v : Value) (P : List ByteArray) (w : World) (hT : Texts w v P) (ht : tag.size ≤ 100) (hP : P.length ≤ 2) (hs : ∀ s ∈ P, s.size ≤ 100) :
    Calls Try.prog 33 #[.string tag, v] w fun e w' => e = .returned (.agg (valsB (ofT tag P)).toArray) ∧ Below w.heap.size w w' := by
  obtain ⟨h1, h2, h3, h4⟩ := small_bounds tag P ht hP hs
  exact code_of tag v P w hT h1 h2 (by omega) h4
theorem ref_ofT (tag : ByteArray) (v : Value) (P : List ByteArray) (w : World) (hT : Texts w v P) (ht : tag.size ≤ 100) (hP : P.length ≤ 2) (hs : ∀ s ∈ P, s.size ≤ 100) :
    Calls Try.prog 23 #[.string tag, v] w fun e w' => e = .returned (.agg (valsB (ofT tag P)).toArray) ∧ Below w.heap.size w w' := by
  obtain ⟨h1, h2, h3, h4⟩ := small_bounds tag P ht hP hs
  exact refOf_any tag v P w hT h1 h2 h3 h4

/-- An array of 32 bytes. -/
structure Row32 (C : Array Value) : Prop where
  size : C.size = 32
  one : C.all (·.oneCell') = true
  info : (Try.prog.info? 32).map (·.size) = some C.size
theorem row32 (h : List UInt8) (hl : h.length = 32) : Row32 (valsB h).toArray :=
  ⟨by rw [valsB_size, hl], by simp [valsB, Value.oneCell'], by rw [valsB_size, hl]; exact info_hash⟩
theorem zero32 : #[Value.int .u8 0, Value.int .u8 0, Value.int .u8 0, Value.int .u8 0, Value.int .u8 0, Value.int .u8 0, Value.int .u8 0, Value.int .u8 0, Value.int .u8 0, Value.int .u8 0, Value.int .u8 0, Value.int .u8 0, Value.int .u8 0, Value.int .u8 0, Value.int .u8 0, Value.int .u8 0, Value.int .u8 0, Value.int .u8 0, Value.int .u8 0, Value.int .u8 0, Value.int .u8 0, Value.int .u8 0, Value.int .u8 0, Value.int .u8 0, Value.int .u8 0, Value.int .u8 0, Value.int .u8 0, Value.int .u8 0, Value.int .u8 0, Value.int .u8 0, Value.int .u8 0, Value.int .u8 0] = (List.replicate 32 (Value.int .u8 0)).toArray := rfl
theorem zero32_size : (List.replicate 32 (Value.int .u8 0)).toArray.size = 32 := rfl

end Go.Proofs.Ytogpnfgjdnccdaa.Tree
