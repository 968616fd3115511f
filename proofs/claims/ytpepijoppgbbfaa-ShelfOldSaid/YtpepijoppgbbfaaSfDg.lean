/- shelf: from; Get, Next, Len. -/
import Derived.Test.YtpepijoppgbbfaaSfDf
import Derived.Deep.WholeRow
namespace Go.Proofs.Ytpepijoppgbbfaa.Shf
open Go.RowKit Go.Proofs.Ytpepijoppgbbfaa.Gr

/-- The node that a search has found last. -/
def FirstAt (w : World) (p : Option Addr) : Option Th → Prop
  | none => p = none
  | some x => ∃ (g : Nat) (a b c : Value), p = some ⟨g, 0, none⟩ ∧ NodeAt w g x.1 x.2 a b c
theorem FirstAt.go {w w' : World} {p : Option Addr} {o : Option Th} (h : FirstAt w p o) (hb : Below w.heap.size w w') : FirstAt w' p o := by
  cases o with
  | none => exact h
  | some x =>
    obtain ⟨g, a, b, c, hp, hg⟩ := h
    exact ⟨g, a, b, c, hp, hg.go hb⟩
/-- How many things a pointer's node has. -/
def manyAt (w : World) (v : Value) : Nat := match v with
  | .pointer (some a) => match w.cell? ⟨a.block, 4, none⟩ with
    | some (.int .i64 i) => i.toNat
    | _ => 0
  | _ => 0
theorem manyAt_tr {w : World} {n₀ : Nat} {p : Option Addr} {T : Tr} (h : IsTr n₀ w p T) : manyAt w (.pointer p) = T.many := by
  cases T with
  | leaf =>
    obtain rfl : p = none := h
    rfl
  | node k z lo hi =>
    obtain ⟨g, pl, pr, rfl, _, hc, _, _⟩ := h
    have c4 : w.cell? ⟨g, 4, none⟩ = some (.int .i64 ((lo.many : Int) + (hi.many : Int) + 1)) := by rw [Lib.cell_of_heap hc]; rfl
    simp only [manyAt, c4, many_node]
    omega
theorem or_or (a b : Option Th) (x : Th) : (a.orElse fun _ => some x).orElse (fun _ => b) = a.orElse fun _ => some x := by
  cases a <;> rfl
theorem get_next : ∀ (l : List Th) (k : ByteArray), getL l k = match nextL l k with | some x => if x.1 = k then some x.2 else none | none => none
  | [], _ => rfl
  | x :: l, k => by
    unfold getL nextL
    split
    · exact get_next l k
    · rfl

set_option maxRecDepth 100000 in
set_option maxHeartbeats 3200000 in
theorem code_from (p : Option Addr) (l : List Th) (k : ByteArray) (w : World) (hT : TreeOf w p l) (hs : SortedL l) :
    Calls Try.prog 23 #[.agg #[.pointer p], .string k] w fun e w' => ∃ q, e = .returned (.pointer q) ∧ FirstAt w' q (nextL l k) ∧ Below w.heap.size w w' := by
  obtain ⟨T0, hT0, rfl⟩ := hT
  have HT0 := Lib.hid hT0
  have HS0 := Lib.hid hs
  clear hT0 hs
  go_enter Try.func23, Try.ntmps23
  go_wp2_with fail
  have hb0 : Below w.heap.size w (w.alloc (.cells #[.pointer p] 24)) := (Below.refl _ _).alloc (Nat.le_refl _) _
  have HB0 := Lib.hid hb0
  clear hb0
  go_loopw [5, 6] (fun fv nv wr => ∃ (f q : Option Addr) (o : Option Th) (T : Tr), fv = .pointer f ∧ nv = .pointer q ∧ IsTr w.heap.size w q T ∧ SortedL T.list ∧ FirstAt w f o ∧ ((nextL T.list k).orElse fun _ => o) = nextL T0.list k ∧ Below w.heap.size w wr) (fun _ nv _ => manyAt w nv)
  case atStart => exact ⟨none, p, none, T0, rfl, rfl, HT0.out, HS0.out, rfl, by cases nextL T0.list k <;> rfl, HB0.out⟩
  case round =>
    obtain ⟨f, q, o, T, rfl, rfl, hq, hs, hf, ho, hb⟩ := hrel
    have HB := Lib.hid hb
    have HM := Lib.hid (manyAt_tr hq)
    cases T with
    | leaf =>
      obtain rfl : q = none := hq
      have HF := Lib.hid (show FirstAt w f (nextL T0.list k) by rw [← ho]; exact hf)
      clear hs hf ho hb HM
      go_wp2_with fail
      go_ret
      exact ⟨_, rfl, HF.out.go HB.out, HB.out⟩
    | node k' z' lo hi =>
      obtain ⟨g, pl, pr, rfl, _, hc, hlo, hhi⟩ := hq
      obtain ⟨hs1, hs2, hs3⟩ := sorted_parts hs
      have hcr := (hb.block g (Array.getElem?_eq_some_iff.1 hc).1).trans hc
      have c0 : wr.cell? ⟨g, 0, none⟩ = some (.string k') := by rw [Lib.cell_of_heap hcr]; rfl
      have c2 : wr.cell? ⟨g, 2, none⟩ = some (.pointer pl) := by rw [Lib.cell_of_heap hcr]; rfl
      have c3 : wr.cell? ⟨g, 3, none⟩ = some (.pointer pr) := by rw [Lib.cell_of_heap hcr]; rfl
      have HML := Lib.hid (manyAt_tr hlo)
      have HMR := Lib.hid (manyAt_tr hhi)
      have HC := Lib.hid hc
      have HLO := Lib.hid hlo
      have HHI := Lib.hid hhi
      have HS1 := Lib.hid hs1
      have HS2 := Lib.hid hs2
      have HF := Lib.hid hf
      have hls := less_eq k' k
      rw [show (Tr.node k' z' lo hi).list = lo.list ++ (k', z') :: hi.list from rfl] at ho
      cases hlk : ltK k' k with
      | true =>
        rw [hlk] at hls
        rw [next_right (x := (k', z')) hs3 hlk] at ho
        have HO := Lib.hid ho
        clear hs hf ho hb hc hcr hlo hhi hs1 hs2 hs3 hlk
        go_wp2_with fail
        go_roundw
        case rel => exact ⟨f, pr, o, hi, rfl, rfl, HHI.out, HS2.out, HF.out, HO.out, HB.out⟩
        case measure => rw [HM.out, HMR.out, many_node]; omega
      | false =>
        rw [hlk] at hls
        rw [next_left (x := (k', z')) hlk, or_or] at ho
        have HO := Lib.hid ho
        clear hs hf ho hb hc hcr hlo hhi hs1 hs2 hs3 hlk
        go_upto_region 6 with (fail)
        go_quiet (fail)
        go_wp2_with fail
        go_roundw
        case rel => exact ⟨some ⟨g, 0, none⟩, pl, some (k', z'), lo, rfl, rfl, HLO.out, HS1.out, ⟨g, _, _, _, rfl, ⟨HC.out⟩⟩, HO.out, below_drewN HB.out _⟩
        case measure => rw [HM.out, HML.out, many_node]; omega

end Go.Proofs.Ytpepijoppgbbfaa.Shf
