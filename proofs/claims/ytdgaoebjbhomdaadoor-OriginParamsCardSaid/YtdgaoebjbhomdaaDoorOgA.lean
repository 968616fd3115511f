/- origin: seats, trusts, numbers, hashes and pointers in memory; origins in memory. -/
import Derived.Test.YtdgaoebjbhomdaaDoorOgM
import Derived.Test.YtdgaoebjbhomdaaDoorM6
import Derived.Test.YtdgaoebjbhomdaaDoorGs
import Derived.Test.YtdgaoebjbhomdaaDoorBl
import Derived.Test.YtdgaoebjbhomdaaDoorM5
namespace Go.Proofs.YtdgaoebjbhomdaaDoor.Gr
open Go.RowKit
/-- A literal of so many things, each told by its value. -/
theorem wp_build_vals {P : Program} {α : Type} {K : Kind P α} {w : World} {o : Oper} {a : Act} {R : Act → World → Prop} {Q : Exit → Act → World → Prop} (val : α → Value) (hval : ∀ x, (val x).cells.toList = K.enc x) (t : TypeId) (len : Nat) (parts : Array (Nat × Operand)) (ho : o.op = .buildSlice t len parts) (ht : P.underlying t = Option.some (.slice K.T))
    (L : List α) (hlen : L.length = len) (h0 : 0 < len) (h24 : len * K.size ≤ 1000000)
    (hp : (parts.map fun (i, x) => (i, a.eval x)).toList = ((L.map val).zipIdx 0).map fun x => (x.2, x.1))
    (h : ∀ w', K.At w' (.slice (Option.some ⟨w.heap.size, 0, none⟩) len len) L → w'.heap[w.heap.size]? = Option.some (.cells (K.flat L).toArray K.T (0, 0)) → Below w.heap.size w w' → w'.heap.size = w.heap.size + 1 → R (a.put o.dst (.slice (Option.some ⟨w.heap.size, 0, none⟩) len len)) w') : o.wp P a w R Q := by
  obtain ⟨ie, hie, hq⟩ := Option.map_eq_some_iff.1 K.info
  simp only [Prod.mk.injEq] at hq
  obtain ⟨hz, hsz, hby⟩ := hq
  have hpos := K.pos
  have hcs : ((Array.range (len * K.size)).map (K.zero.cells[· % K.zero.cells.size]!)).size = len * K.size := by simp
  have hfill := Great.fill_whole (s := K.size) hpos (L.map val) ((Array.range (len * K.size)).map (K.zero.cells[· % K.zero.cells.size]!)) (fun v hv => by
    obtain ⟨x, hx, rfl⟩ := List.mem_map.1 hv
    rw [← Array.length_toList, hval, K.len]) (by rw [hcs, List.length_map, hlen])
  have hflat : ((L.map val).flatMap fun v => v.cells.toList) = K.flat L := by
    rw [List.flatMap_map]
    show L.flatMap (fun x => (val x).cells.toList) = L.flatMap K.enc
    simp only [hval]
  rw [hflat] at hfill
  refine wp_buildSlice t K.T len parts ho (K.flat L).toArray ie K.zero ht hie hz (by rw [hsz]; omega) (by rw [hsz]; exact Nat.ne_of_gt (Nat.mul_pos h0 hpos)) (by rw [hsz, hp]; exact hfill) ?_
  refine h _ (Or.inr ⟨w.heap.size, 0, len, by rw [hlen], by omega, by omega, fun j u hj => ?_⟩) (heap_alloc_new _ _) ((Below.refl _ _).alloc (Nat.le_refl _) _) (by simp)
  rw [Nat.zero_add, Lib.cell_of_heap (heap_alloc_new w _), List.getElem?_toArray]
  exact hj
theorem wpList_build_vals {P : Program} {α : Type} {K : Kind P α} {w : World} {ops : Array Oper} {rest : List Oper} {o : Oper} {a : Act} {Q : Exit → Act → World → Prop} (hgd : o.guard = none) (val : α → Value) (hval : ∀ x, (val x).cells.toList = K.enc x) (t : TypeId) (len : Nat) (parts : Array (Nat × Operand)) (ho : o.op = .buildSlice t len parts) (ht : P.underlying t = Option.some (.slice K.T))
    (L : List α) (hlen : L.length = len) (h0 : 0 < len) (h24 : len * K.size ≤ 1000000)
    (hp : (parts.map fun (i, x) => (i, a.eval x)).toList = ((L.map val).zipIdx 0).map fun x => (x.2, x.1))
    (h : ∀ w', K.At w' (.slice (Option.some ⟨w.heap.size, 0, none⟩) len len) L → w'.heap[w.heap.size]? = Option.some (.cells (K.flat L).toArray K.T (0, 0)) → Below w.heap.size w w' → w'.heap.size = w.heap.size + 1 → wpList P ops Q rest (a.put o.dst (.slice (Option.some ⟨w.heap.size, 0, none⟩) len len)) w') : wpList P ops Q (o :: rest) a w :=
  wpList_plain hgd fun _ hK => wp_build_vals (K := K) val hval t len parts ho ht L hlen h0 h24 hp fun w' h1 h2 h3 h4 => hK _ _ (h w' h1 h2 h3 h4)
end Go.Proofs.YtdgaoebjbhomdaaDoor.Gr
namespace Go.Proofs.YtdgaoebjbhomdaaDoor.Og
open Go.RowKit Go.Proofs.YtdgaoebjbhomdaaDoor.Sha Go.Proofs.YtdgaoebjbhomdaaDoor.Gr Go.Proofs.YtdgaoebjbhomdaaDoor.Digit Go.Proofs.YtdgaoebjbhomdaaDoor.Deed

def KU : Kind Tryd.prog UInt64 where
  T := 22
  size := 1
  bytes := 8
  zero := .int .u64 0
  enc x := [nV x]
  info := by kernel_rfl
  zsize := rfl
  pos := by decide
  len _ := rfl
  one x u hu := by simp at hu; subst hu; rfl
def KH : Kind Tryd.prog H32 where
  T := 29
  size := 32
  bytes := 32
  zero := .agg z32.toArray
  enc x := valsB x.1
  info := by kernel_rfl
  zsize := rfl
  pos := by decide
  len x := valsB_32 x
  one x := valsB_one _
abbrev pV (p : Nat × Nat) : Value := .pointer (some ⟨p.1, p.2, none⟩)
/-- Pointers to numbers, by block and place. -/
def KP : Kind Tryd.prog (Nat × Nat) where
  T := 91
  size := 1
  bytes := 8
  zero := .pointer none
  enc x := [pV x]
  info := by kernel_rfl
  zsize := rfl
  pos := by decide
  len _ := rfl
  one x u hu := by simp at hu; subst hu; rfl
/-- Pointers to hashes. -/
def KQ : Kind Tryd.prog (Nat × Nat) where
  T := 93
  size := 1
  bytes := 8
  zero := .pointer none
  enc x := [pV x]
  info := by kernel_rfl
  zsize := rfl
  pos := by decide
  len _ := rfl
  one x u hu := by simp at hu; subst hu; rfl
def zSeat : List Value := z32 ++ (z32 ++ [.int .u64 0, .int .u64 0, .int .u64 0])
def KSeat : Kind Tryd.prog SeatD where
  T := 67
  size := 67
  bytes := 88
  zero := .agg zSeat.toArray
  enc x := valsB x.pool.1 ++ (valsB x.key.1 ++ [nV x.pledge, nV x.cost, nV x.margin])
  info := by kernel_rfl
  zsize := rfl
  pos := by decide
  len x := by rw [List.length_append, List.length_append, valsB_32, valsB_32]; rfl
  one x u hu := by
    simp only [List.mem_append, List.mem_cons, List.not_mem_nil, or_false] at hu
    rcases hu with h | h | rfl | rfl | rfl
    · exact valsB_one _ u h
    · exact valsB_one _ u h
    · rfl
    · rfl
    · rfl
def KTrust : Kind Tryd.prog TrustD where
  T := 69
  size := 64
  bytes := 64
  zero := .agg (z32 ++ z32).toArray
  enc x := valsB x.key.1 ++ valsB x.pool.1
  info := by kernel_rfl
  zsize := rfl
  pos := by decide
  len x := by rw [List.length_append, valsB_32, valsB_32]
  one x u hu := by
    rcases List.mem_append.1 hu with h | h
    · exact valsB_one _ u h
    · exact valsB_one _ u h
structure SeatP (w : World) (b o : Nat) (s : SeatD) : Prop where
  pool : w.rangeAt b o (valsB s.pool.1)
  key : w.rangeAt b (o + 32) (valsB s.key.1)
  pledge : w.cell? ⟨b, o + 64, none⟩ = some (nV s.pledge)
  cost : w.cell? ⟨b, o + 65, none⟩ = some (nV s.cost)
  margin : w.cell? ⟨b, o + 66, none⟩ = some (nV s.margin)
theorem Seat_parts {w : World} {b o : Nat} {s : SeatD} (h : w.rangeAt b o (KSeat.enc s)) : SeatP w b o s := by
  have h3 := range_right h 32 (valsB_32 _)
  have h4 := range_right h3 32 (valsB_32 _)
  rw [Nat.add_assoc] at h4
  refine ⟨range_left h, range_left h3, ?_, ?_, ?_⟩
  · exact h4 0 _ rfl
  · exact h4 1 _ rfl
  · exact h4 2 _ rfl
theorem Trust_parts {w : World} {b o : Nat} {x : TrustD} (h : w.rangeAt b o (KTrust.enc x)) : w.rangeAt b o (valsB x.key.1) ∧ w.rangeAt b (o + 32) (valsB x.pool.1) :=
  ⟨range_left h, range_right h 32 (valsB_32 _)⟩
/-- Numbers that a slice reads as. -/
theorem nums_at {w : World} {v : Value} {L : List UInt64} (h : KU.At w v L) (hc : ∀ a n cap, v = .slice a n cap → cap ≤ maxLen) : ∃ a len cap, v = .slice a len cap ∧ len = L.length ∧ Wide.Nums w a len cap (L.map (·.toNat)) := by
  have hlt : ∀ x ∈ L.map (·.toNat), x < 18446744073709551616 := fun x hx => by
    obtain ⟨n, _, rfl⟩ := List.mem_map.1 hx
    exact n.toNat_lt
  rcases h with ⟨a, cap, rfl, rfl⟩ | ⟨g, o, cap, rfl, h0, h1, hR⟩
  · exact ⟨a, 0, cap, rfl, rfl, rfl, Nat.zero_le _, hc _ _ _ rfl, hlt, Or.inl rfl⟩
  · refine ⟨_, _, _, rfl, rfl, by simp, h1, hc _ _ _ rfl, hlt, Or.inr ⟨_, rfl, fun i x hx => ?_⟩⟩
    rw [List.getElem?_map] at hx
    obtain ⟨n, hn, rfl⟩ := Option.map_eq_some_iff.1 hx
    have h3 := hR (i * 1 + 0) (nV n) (KU.flat_at L i n 0 (nV n) hn rfl)
    rw [Addr.add_mid]
    rw [show o + (i * 1 + 0) = o + i by omega] at h3
    exact h3

/-! ### An origin in memory -/
/-- An origin's cells: fifteen numbers, the nonce, three slices. -/
def cellsO (o : OriginD) (c s t : Value) : List Value := o.n.map nV ++ (valsB o.no.1 ++ [c, s, t])
structure OAt (w : World) (o : OriginD) (c s t : Value) : Prop where
  n : o.n.length = 15
  coins : KOut.At w c o.coins
  seats : KSeat.At w s o.seats
  trusts : KTrust.At w t o.trusts
theorem OAt.kept {w w' : World} {o : OriginD} {c s t : Value} (h : OAt w o c s t) (hb : Below w.heap.size w w') : OAt w' o c s t := ⟨h.n, h.coins.kept hb, h.seats.kept hb, h.trusts.kept hb⟩
theorem cellsO_len {w : World} {o : OriginD} {c s t : Value} (h : OAt w o c s t) : (cellsO o c s t).length = 50 := by
  unfold cellsO
  rw [List.length_append, List.length_append, List.length_map, h.n, valsB_32]
  rfl
theorem info_O {w : World} {o : OriginD} {c s t : Value} (h : OAt w o c s t) : (Tryd.prog.info? 34).map (·.size) = some (cellsO o c s t).length := by rw [cellsO_len h]; kernel_rfl
/-- An origin's cells at a place. -/
structure OPart (w : World) (g : Nat) (o : OriginD) (c s t : Value) : Prop where
  num : ∀ i, i < 15 → w.cell? ⟨g, i, none⟩ = some (nV (o.n.getD i 0))
  ns : w.rangeAt g 0 (o.n.map nV)
  no : w.rangeAt g 15 (valsB o.no.1)
  c : w.cell? ⟨g, 47, none⟩ = some c
  s : w.cell? ⟨g, 48, none⟩ = some s
  t : w.cell? ⟨g, 49, none⟩ = some t
theorem O_parts {w : World} {g : Nat} {o : OriginD} {c s t : Value} (hn : o.n.length = 15) (h : w.rangeAt g 0 (cellsO o c s t)) : OPart w g o c s t := by
  have h1 := range_left h
  have h2 := range_right h 15 (by rw [List.length_map, hn])
  have h3 := range_right h2 32 (valsB_32 _)
  refine ⟨fun i hi => ?_, h1, range_left h2, h3 0 _ rfl, h3 1 _ rfl, h3 2 _ rfl⟩
  have h4 := h1 i (nV (o.n.getD i 0)) (by rw [List.getElem?_map, List.getD_eq_getElem?_getD, List.getElem?_eq_getElem (by omega)]; rfl)
  rwa [Nat.zero_add] at h4
theorem OPart.kept {w w' : World} {g : Nat} {o : OriginD} {c s t : Value} (h : OPart w g o c s t) (hg : g < w.heap.size) (hb : Below w.heap.size w w') : OPart w' g o c s t :=
  ⟨fun i hi => by rw [hb.cell hg]; exact h.num i hi, range_kept hb h.ns, range_kept hb h.no, by rw [hb.cell hg]; exact h.c, by rw [hb.cell hg]; exact h.s, by rw [hb.cell hg]; exact h.t⟩
abbrev oV (o : OriginD) (c s t : Value) : Value := .agg (cellsO o c s t).toArray
end Go.Proofs.YtdgaoebjbhomdaaDoor.Og
