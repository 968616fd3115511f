/- The code's own: Of. -/
import Derived.Test.YtdgaoebjbhomdaaDoorM3
import Derived.Test.YtdgaoebjbhomdaaDoorBld
import Derived.ArgAppend
import Derived.Lib.ConvBytes
import Derived.Deep.Upon
import Derived.Deep.Draws
import Derived.Test.YtdgaoebjbhomdaaDoorQTail
import Derived.Deep.OwnRows
import Derived.Deep.Cut
import Derived.BigQuiet
import Derived.Deep.CutBlock
import Derived.Deep.RegionHeld3
namespace Go.Proofs.YtdgaoebjbhomdaaDoor.Sha
open Go.RowKit

/-- A slice that holds these texts. -/
def Texts (w : World) (v : Value) (P : List ByteArray) : Prop :=
  (∃ a cap, v = .slice a 0 cap ∧ P = []) ∨ ∃ g o cap, v = .slice (some ⟨g, o, none⟩) P.length cap ∧ 0 < P.length ∧ ∀ (i : Nat) (s : ByteArray), P[i]? = some s → w.cell? ⟨g, o + i, none⟩ = some (.string s)
theorem Texts.kept {w w' : World} {v : Value} {P : List ByteArray} (h : Texts w v P) (hb : Below w.heap.size w w') : Texts w' v P := by
  rcases h with h | ⟨g, o, cap, hv, h0, hc⟩
  · exact Or.inl h
  · refine Or.inr ⟨g, o, cap, hv, h0, fun i s hs => ?_⟩
    rw [hb.cell (World.block_lt_of_cell? _ _ (hc i s hs))]
    exact hc i s hs

/-- The told texts of the tag and the parts. -/
def rowL (tag : ByteArray) (P : List ByteArray) : List UInt8 := Digit.putTextL tag.data.toList ++ P.flatMap fun s => Digit.putTextL s.data.toList
theorem rowL_snoc (tag : ByteArray) (P : List ByteArray) (s : ByteArray) : rowL tag (P ++ [s]) = rowL tag P ++ Digit.putTextL s.data.toList := by
  simp [rowL]
theorem rowL_le (tag : ByteArray) (P : List ByteArray) (k : Nat) : (rowL tag (P.take k)).length ≤ (rowL tag P).length := by
  have e : rowL tag P = rowL tag (P.take k) ++ (P.drop k).flatMap fun s => Digit.putTextL s.data.toList := by
    unfold rowL
    rw [List.append_assoc, ← List.flatMap_append, List.take_append_drop]
  rw [e, List.length_append]
  omega

theorem builder_kept {T e : TypeId} {B b : Nat} {bs : List Value} {w w' : World} (h : Lib.IsBuilder T e B b bs w) (hb : Below w.heap.size w w') : Lib.IsBuilder T e B b bs w' := by
  have one : ∀ p, Lib.BuilderAt T e B b p bs w → Lib.BuilderAt T e B b p bs w' := by
    intro p hp
    have hlt := hp.lt
    obtain ⟨hB, v, hbk, hown, hne⟩ := hp
    refine ⟨hB, v, (hb.block b hlt).trans hbk, ?_, hne⟩
    exact hown.kept (row := none) ⟨hb.os, hb.tape, hb.output, hb.size, fun k hk _ => hb.block k hk⟩ (by cases hv : v.ownBlock <;> simp)
  rcases h with h | h
  · exact Or.inl (one _ h)
  · exact Or.inr (one _ h)

theorem strCells_mk (l : List UInt8) : Lib.strCells ⟨l.toArray⟩ = Lib.byteCells l := by rw [Lib.strCells_eq]
theorem size_mk (l : List UInt8) : (ByteArray.mk l.toArray).size = l.length := by simp [ByteArray.size]

set_option maxRecDepth 100000 in
set_option maxHeartbeats 1600000 in
theorem code_of (tag : ByteArray) (v : Value) (P : List ByteArray) (w : World) (hT : Texts w v P) (ht : tag.size ≤ 70368744177664) (hm : ∀ s ∈ P, s.size ≤ 70368744177664) (hsum : (rowL tag P).length ≤ 140737488355232) (hlen : P.length ≤ 140737488355328) :
    Calls Tryd.prog 29 #[.string tag, v] w fun e w' => e = .returned (.agg (valsB (shaS ⟨(rowL tag P).toArray⟩)).toArray) ∧ Below w.heap.size w w' := by
  obtain ⟨a, n, cap, hv, hn, hcells⟩ : ∃ a n cap, v = .slice a n cap ∧ P.length = n ∧ ∀ (i : Nat) (s : ByteArray), P[i]? = some s → ∃ g o, a = some ⟨g, o, none⟩ ∧ w.cell? ⟨g, o + i, none⟩ = some (.string s) := by
    rcases hT with ⟨a, cap, rfl, rfl⟩ | ⟨g, o, cap, rfl, _, hc⟩
    · exact ⟨a, 0, cap, rfl, rfl, fun i s h => by simp at h⟩
    · exact ⟨_, _, cap, rfl, rfl, fun i s h => ⟨g, o, rfl, hc i s h⟩⟩
  subst hv
  have HSUM := Lib.hid hsum
  have HM := Lib.hid hm
  have HC := Lib.hid hcells
  have HN := Lib.hid hn
  have hn0 : n ≤ 140737488355328 := by omega
  clear hsum hm hT hcells hn hlen
  go_enter Tryd.func29, Tryd.ntmps29
  go_wp2_with fail
  obtain ⟨Z, hZ⟩ : ∃ Z, (List.replicate 32 (Value.int .u8 0)).toArray = Z := ⟨_, rfl⟩
  have HZS := Lib.hid (show Z.size = 32 by rw [← hZ]; rfl)
  rw [show #[Value.int .u8 0, .int .u8 0, .int .u8 0, .int .u8 0, .int .u8 0, .int .u8 0, .int .u8 0, .int .u8 0, .int .u8 0, .int .u8 0, .int .u8 0, .int .u8 0, .int .u8 0, .int .u8 0, .int .u8 0, .int .u8 0,
    .int .u8 0, .int .u8 0, .int .u8 0, .int .u8 0, .int .u8 0, .int .u8 0, .int .u8 0, .int .u8 0, .int .u8 0, .int .u8 0, .int .u8 0, .int .u8 0, .int .u8 0, .int .u8 0, .int .u8 0, .int .u8 0] = (List.replicate 32 (Value.int .u8 0)).toArray from rfl, hZ]
  clear hZ
  refine (Digit.putText_any tag _ ht).mono ?_
  rintro e w1 ⟨rfl, hb1⟩
  have hB0 : w.heap.size + 1 = (w.alloc (.cells Z 29)).heap.size := by simp
  have hfr := Lib.fresh_isBuilder 111 5 (w.alloc (.cells Z 29))
  rw [← hB0] at hfr
  have hbl1 := builder_kept hfr hb1
  have hbz1 : Below (w.heap.size + 1) (w.alloc (.cells Z 29)) w1 := (((Below.refl _ _).alloc (by simp) _).trans (hb1.mono (by simp)))
  have hs1 : w.heap.size + 1 ≤ w1.heap.size := by
    have := hbz1.size
    simp at this
    omega
  have hrow0 : (Digit.putTextL tag.data.toList).length ≤ (rowL tag P).length := by
    unfold rowL
    rw [List.length_append]
    omega
  have HWR := Lib.hid (Bld.write_any (w.heap.size + 1) (w.heap.size + 1) [] ⟨(Digit.putTextL tag.data.toList).toArray⟩ w1 hbl1 (by
    have := HSUM.out
    rw [size_mk, List.length_nil]
    omega) hs1)
  have HBZ1 := Lib.hid hbz1
  clear hfr hbl1 hbz1 hb1 hrow0 hB0
  go_wp2_with fail
  refine HWR.out.mono ?_
  rintro e w2 ⟨rfl, hat, hb2⟩
  have HAT := Lib.hid hat
  have HB2 := Lib.hid hb2
  clear hat hb2
  go_wp2_with fail
  go_loopw [13] (fun i wr => ∃ k : Nat, k ≤ n ∧ i = .int .i64 k ∧ Lib.IsBuilder 111 5 (w.heap.size + 1) (w.heap.size + 1) (Lib.byteCells (rowL tag (P.take k))) wr ∧ Below (w.heap.size + 1) (w.alloc (.cells Z 29)) wr) (fun i _ => n - (intOf i).toNat)
  case atStart => exact ⟨0, by omega, rfl, Or.inr (by
    have h := HAT.out
    rw [List.nil_append, strCells_mk] at h
    have e : rowL tag (P.take 0) = Digit.putTextL tag.data.toList := by simp [rowL]
    rw [e]
    exact h), HBZ1.out.trans HB2.out⟩
  case round =>
    obtain ⟨k, hk, rfl, hbld, hbel⟩ := hrel
    have HBLD := Lib.hid hbld
    have HBEL := Lib.hid hbel
    clear hbld hbel
    by_cases hlt : k < n
    · obtain ⟨s, hs⟩ : ∃ s, P[k]? = some s := ⟨P[k]'(by rw [HN.out]; exact hlt), List.getElem?_eq_getElem _⟩
      obtain ⟨g, o, rfl, hcell⟩ := HC.out k s hs
      have hsz := HM.out s (List.mem_of_getElem? hs)
      have hcs : wr.cell? ⟨g, o + k, none⟩ = some (.string s) := by
        have hg := World.block_lt_of_cell? _ _ hcell
        simp only at hg
        rw [HBEL.out.cell (show g < w.heap.size + 1 by omega)]
        have hc2 := ((Below.refl w.heap.size w).alloc (Nat.le_refl _) (.cells Z 29)).cell (p := ⟨g, o + k, none⟩) hg
        rw [hc2]
        exact hcell
      have HTK := Lib.hid (show rowL tag (P.take (k + 1)) = rowL tag (P.take k) ++ Digit.putTextL s.data.toList by
        rw [List.take_add_one, hs]
        exact rowL_snoc tag _ s)
      have hrl := rowL_le tag P (k + 1)
      have HPT := Lib.hid (fun w => Digit.putText_any s w hsz)
      have HRL := Lib.hid hrl
      have hk0 : (0 : Int) ≤ (k : Int) := by omega
      have hkn : (k : Int) < (n : Int) := by omega
      clear hs hcell hsz hrl
      go_wp2_with fail
      refine (HPT.out _).mono ?_
      rintro e w3 ⟨rfl, hb3⟩
      have hsw : w.heap.size + 1 ≤ wr.heap.size := by
        have := HBEL.out.size
        simp at this
        omega
      have HWR3 := Lib.hid (Bld.write_any (w.heap.size + 1) (w.heap.size + 1) (Lib.byteCells (rowL tag (P.take k))) ⟨(Digit.putTextL s.data.toList).toArray⟩ w3 (builder_kept HBLD.out hb3) (by
        have h1 := HSUM.out
        have h2 := HRL.out
        rw [HTK.out, List.length_append] at h2
        rw [size_mk, Lib.byteCells_length]
        omega) (Nat.le_trans hsw hb3.size))
      have HB3 := Lib.hid (hb3.mono hsw)
      clear hb3
      go_wp2_with fail
      refine HWR3.out.mono ?_
      rintro e w4 ⟨rfl, hat4, hb4⟩
      have HAT4 := Lib.hid hat4
      have HB4 := Lib.hid hb4
      clear hat4 hb4
      go_wp2_with fail
      go_roundw
      case rel => exact ⟨k + 1, by omega, by go_num, Or.inr (by
        have h := HAT4.out
        rw [strCells_mk, ← Lib.byteCells_append, ← HTK.out] at h
        exact h), (HBEL.out.trans HB3.out).trans HB4.out⟩
      case measure => simp [intOf]; omega
    · have hkn : k = n := by omega
      subst hkn
      have HB := HBLD.out
      rw [List.take_of_length_le (Nat.le_of_eq HN.out)] at HB
      have hsw : w.heap.size + 1 ≤ wr.heap.size := by
        have := HBEL.out.size
        simp at this
        omega
      have HST := Lib.hid (Tryd.Builder_String_any (w.heap.size + 1) (w.heap.size + 1) (rowL tag P) wr HB hsw)
      have HSM := Lib.hid (fun w => code_sum ⟨(rowL tag P).toArray⟩ (by rw [size_mk]; exact HSUM.out) w)
      obtain ⟨T, hT⟩ : ∃ T : ByteArray, (⟨(rowL tag P).toArray⟩ : ByteArray) = T := ⟨_, rfl⟩
      rw [hT] at HST HSM
      have HTT := Lib.hid hT
      clear HB hT
      go_wp2_with fail
      refine HST.out.mono ?_
      rintro e w3 ⟨rfl, hb3⟩
      have HB3 := Lib.hid hb3
      clear hb3
      go_wp2_with fail
      refine (HSM.out _).mono ?_
      rintro e w4 ⟨rfl, hb4⟩
      have HB4 := Lib.hid hb4
      clear hb4
      have hz : w4.heap[w.heap.size]? = some (.cells Z 29 (0, 0)) := by
        rw [HB4.out.block _ (Nat.lt_of_lt_of_le (Nat.lt_of_lt_of_le (Nat.lt_succ_self _) hsw) HB3.out.size), HB3.out.block _ (Nat.lt_succ_self _), HBEL.out.block _ (Nat.lt_succ_self _)]
        exact heap_alloc_new w _
      have hbw : Below w.heap.size w w4 := ((((Below.refl _ _).alloc (Nat.le_refl _) _).trans (HBEL.out.mono (Nat.le_succ _))).trans (HB3.out.mono (Nat.le_succ _))).trans (HB4.out.mono (Nat.le_trans (Nat.le_succ _) (Nat.le_trans hsw HB3.out.size)))
      have hsz : (valsB (shaS T)).toArray.size = 32 := by rw [valsB_size]; rfl
      have hone : (valsB (shaS T)).toArray.all (·.oneCell') = true := by simp [valsB, Value.oneCell']
      obtain ⟨C, hC⟩ : ∃ C, (valsB (shaS T)).toArray = C := ⟨_, rfl⟩
      rw [hC] at hsz hone
      rw [hC]
      have HCC := Lib.hid hC
      have HINF := Lib.hid (show (Tryd.prog.info? 29).map (·.size) = some C.size by rw [hsz]; exact info_hash)
      have hzs : Z.size = C.size := by rw [HZS.out, hsz]
      have HZ := Lib.hid hz
      have HBW := Lib.hid hbw
      clear hC hz hbw
      go_wp2_with (refine wpList_store_row rfl 29 (.tmp 4) (.tmp 22) rfl w.heap.size C rfl rfl 29 Z HZ.out HINF.out hzs hone ?_)
      refine bodyPost_ret (results_cell_row (p := 4) (ty := 29) Tryd.results29 _ _ w.heap.size 29 C (0, 0) _ rfl (setRow_heap _ _ _ _ _ _ HZ.out) Tryd.underlying29 rfl HINF.out) rfl ⟨by rw [HTT.out, HCC.out], below_setRow HBW.out (Nat.le_refl _) _⟩

end Go.Proofs.YtdgaoebjbhomdaaDoor.Sha

namespace Go.Proofs.YtdgaoebjbhomdaaDoor.Sha
open Go.RowKit

/-- A slice of n bytes in a row of one's own (from block B on), of which no cell is frozen. -/
def OwnB (B : Nat) (v : Value) (n : Nat) (xs : List UInt8) (w : World) : Prop :=
  ∃ g cap cur fz, v = .slice (some ⟨g, 0, none⟩) n cap ∧ B ≤ g ∧ w.heap[g]? = some (.cells cur 5 fz) ∧ (∀ i, i < cur.size → ¬ (fz.1 ≤ i ∧ i < fz.2)) ∧ n ≤ cap ∧ cap ≤ maxLen ∧ cur.size = cap ∧ xs.length = n ∧ ∀ (i : Nat) (b : UInt8), xs[i]? = some b → cur[i]? = some (.int .u8 (b.toNat : Int))

theorem OwnB.kept {B : Nat} {v : Value} {n : Nat} {xs : List UInt8} {w w' : World} (h : OwnB B v n xs w) (hb : Below w.heap.size w w') : OwnB B v n xs w' := by
  obtain ⟨g, cap, cur, fz, hv, hB, hg, r⟩ := h
  exact ⟨g, cap, cur, fz, hv, hB, (hb.block g (Array.getElem?_eq_some_iff.1 hg).1).trans hg, r⟩

theorem frozen_in {w : World} {g i : Nat} {cur : Array Value} {t : TypeId} {fz : Nat × Nat} (hg : w.heap[g]? = some (.cells cur t fz)) (h : ¬ (fz.1 ≤ i ∧ i < fz.2)) : w.frozen? ⟨g, i, none⟩ = false := by
  obtain ⟨lo, hi⟩ := fz
  unfold World.frozen?
  rw [hg]
  simp only at h ⊢
  rw [Bool.eq_false_iff]
  intro k
  simp at k
  exact h k

theorem setCells_heap (g : Nat) (t : TypeId) (fz : Nat × Nat) : ∀ (vs : List Value) (o : Nat) (w : World) (cur : Array Value), w.heap[g]? = some (.cells cur t fz) → ∃ cur', (w.setCells g o vs).heap[g]? = some (.cells cur' t fz) ∧ cur'.size = cur.size
  | [], _, _, cur, h => ⟨cur, h, rfl⟩
  | v :: r, o, w, cur, h => by
    have h1 : (w.setCell ⟨g, o, none⟩ v).heap[g]? = some (.cells (cur.setIfInBounds o v) t fz) := by
      rw [setCell_eq_setRow w g o cur t fz v h]
      exact setRow_heap w g cur _ t fz h
    obtain ⟨cur', h2, h3⟩ := setCells_heap g t fz r (o + 1) _ _ h1
    exact ⟨cur', h2, by rw [h3]; simp⟩

theorem below_setCells' {B b : Nat} {a : World} (hb : B ≤ b) : ∀ (vs : List Value) (o : Nat) (w : World), Below B a w → Below B a (w.setCells b o vs)
  | [], _, _, h => h
  | v :: r, o, _, h => below_setCells' hb r (o + 1) _ (h.setCell (p := ⟨b, o, none⟩) hb v)

theorem wpList_append_ownB {w : World} {ops : Array Oper} {rest : List Oper} {o : Oper} {a : Act} {Q : Exit → Act → World → Prop} (hg : o.guard = none) (s x : Operand)
    (hop : o.op = Op.call { callee := Callee.builtin Builtin.append, args := #[s, x], argTypes := #[109, 109] })
    (B : Nat) (v : Value) (n : Nat) (xs : List UInt8) (hs : a.eval s = v) (hown : OwnB B v n xs w) (ad : Addr) (m c : Nat) (news : List UInt8) (hx : a.eval x = .slice (some ad) m c) (hn : news.length = m)
    (hc : ∀ (j : Nat) (b : UInt8), news[j]? = some b → w.cell? (ad.add j) = some (.int .u8 (b.toNat : Int))) (hm : 0 < m) (b1 : n + m ≤ 140737488355328) (hB : B ≤ w.heap.size)
    (hK : ∀ v' w', OwnB B v' (n + m) (xs ++ news) w' → Below B w w' → wpList Tryd.prog ops Q rest (a.put o.dst v') w') : wpList Tryd.prog ops Q (o :: rest) a w := by
  obtain ⟨i0, hi, hz0, hz1, hz2⟩ := info_parts info8
  obtain ⟨g, cap, cur, fz, hv, hBg, hgr, hfz, hncap, hcap, hcs, hxl, hcells⟩ := hown
  have hcellg : ∀ i, w.cell? ⟨g, i, none⟩ = cur[i]? := fun i => cell_of_row w g i cur _ _ hgr
  refine wpList_append_arg w hg s x 109 hop 5 i0 (.int .u8 0) 1 1 Tryd.underlying109 hi hz0 hz1 hz2 rfl (by decide) g 0 n cap (valsB xs) (hs.trans hv) (by simp [valsB, hxl]) ?_ ad m c (valsB news) hx (by simp [valsB, hn]) ?_ ?_ ?_ (by unfold maxLen; omega) (by omega) ?_ ?_
  · intro j u hj
    simp only [valsB, List.getElem?_map] at hj
    obtain ⟨b, hb, rfl⟩ := Option.map_eq_some_iff.1 hj
    rw [Nat.zero_add, hcellg]
    exact hcells j b hb
  · intro j u hj
    simp only [valsB, List.getElem?_map] at hj
    obtain ⟨b, hb, rfl⟩ := Option.map_eq_some_iff.1 hj
    exact hc j b hb
  · intro u hu
    simp only [valsB, List.mem_map] at hu
    obtain ⟨b, _, rfl⟩ := hu
    rfl
  · intro hr j hj
    have hj' : j < m := by simpa [valsB, hn] using hj
    constructor
    · rw [hcellg, Array.getElem?_eq_getElem (by omega)]
      rfl
    · exact frozen_in hgr (hfz _ (by omega))
  · intro hr
    obtain ⟨cur', hg', hs'⟩ := setCells_heap g 5 fz (valsB news) (0 + n * 1) w cur hgr
    refine hK _ _ ⟨g, cap, cur', fz, rfl, hBg, hg', by rw [hs']; exact hfz, hr, hcap, by rw [hs', hcs], by simp [hxl, hn], ?_⟩ (below_setCells' hBg (valsB news) _ w (Below.refl _ _))
    intro i b hb
    rw [← cell_of_row _ g i cur' _ _ hg']
    by_cases hlt : i < n
    · rw [World.cell?_setCells_out g (valsB news) _ w ⟨g, i, none⟩ (fun _ _ => Or.inl (by simp only; omega)), hcellg]
      rw [List.getElem?_append_left (by omega)] at hb
      exact hcells i b hb
    · rw [List.getElem?_append_right (by omega)] at hb
      rw [hxl] at hb
      have hlm : i - n < news.length := (List.getElem?_eq_some_iff.1 hb).1
      have h := World.cell?_setCells_in g (valsB news) (0 + n * 1) w (fun j hj => by
        have hj' : j < m := by simpa [valsB, hn] using hj
        rw [hcellg, Array.getElem?_eq_getElem (by omega)]
        rfl) (i - n) (by simpa [valsB] using hlm)
      rw [show 0 + n * 1 + (i - n) = i by omega] at h
      rw [h]
      simp only [valsB, List.getElem_map]
      obtain ⟨_, rfl⟩ := List.getElem?_eq_some_iff.1 hb
      rfl
  · intro hr v' w' hown' hgrow
    have hBw : Below B w w' := (Below.refl B w).grown hgrow hB (fun k hk => by cases hk)
    rcases hown'.2 with ⟨_, h0⟩ | ⟨g', cap', cur', rfl, hb', hg', hn', hc', hs', htk⟩
    · omega
    · refine hK _ _ ⟨g', cap', cur', (0, 0), rfl, Nat.le_trans hB hb', hg', fun i _ k => by simp only at k; omega, hn', hc', by omega, by simp [hxl, hn], ?_⟩ hBw
      intro i b hb
      have h1 : (valsB xs ++ valsB news)[i]? = some (.int .u8 (b.toNat : Int)) := by
        rw [show valsB xs ++ valsB news = valsB (xs ++ news) by simp [valsB]]
        unfold valsB
        rw [List.getElem?_map, hb]
        rfl
      rw [← htk, List.getElem?_take] at h1
      split at h1
      · simpa using h1
      · cases h1

/-- A text turned to bytes: a row of one's own. -/
theorem conv_text (w : World) (s : ByteArray) (hs : s.size ≤ 140737488355328) :
    ∃ cap W, (convert 9 109 (.string s)).run Tryd.prog w = .ok (.slice (some ⟨w.heap.size, 0, none⟩) s.size cap) W ∧ OwnB w.heap.size (.slice (some ⟨w.heap.size, 0, none⟩) s.size cap) s.size s.data.toList W ∧ Below w.heap.size w W ∧
      ∀ (j : Nat) (b : UInt8), s.data.toList[j]? = some b → W.cell? ((⟨w.heap.size, 0, none⟩ : Addr).add j) = some (.int .u8 (b.toNat : Int)) := by
  have hsz : s.data.toList.length = s.size := by rw [Array.length_toList]; rfl
  have hcs : (Lib.bytesCells w 5 s).size = grownCap w s.size 0 5 := by
    have := grownCap_ge w s.size 0 5
    simp [Lib.bytesCells]
    have e : s.data.size = s.size := rfl
    omega
  have hget : ∀ (j : Nat) (b : UInt8), s.data.toList[j]? = some b → (Lib.bytesCells w 5 s)[j]? = some (.int .u8 (b.toNat : Int)) := by
    intro j b hb
    have hj : j < s.data.size := by
      have := (List.getElem?_eq_some_iff.1 hb).1
      simpa using this
    unfold Lib.bytesCells
    rw [Array.getElem?_append_left (by simpa using hj), Array.getElem?_map]
    rw [Array.getElem?_toList] at hb
    rw [hb]
    rfl
  refine ⟨_, _, Lib.run_convert_string_bytes w 9 109 5 s Tryd.underlying9 Tryd.underlying109 Tryd.underlying5, ?_, ?_, ?_⟩
  · refine ⟨w.heap.size, _, _, _, rfl, Nat.le_refl _, Lib.bytesWorld_at_new w 5 s, ?_, grownCap_ge _ _ _ _, grownCap_le_maxLen _ _ _ _ (by unfold maxLen; omega), hcs, hsz, hget⟩
    intro i hi k
    simp only at k
    omega
  · refine ⟨rfl, rfl, rfl, by rw [Lib.bytesWorld_size]; omega, fun k hk => Lib.bytesWorld_at_old w 5 s k hk⟩
  · intro j b hb
    have e : (⟨w.heap.size, 0, none⟩ : Addr).add j = ⟨w.heap.size, j, none⟩ := by
      unfold Addr.add
      split
      · rename_i h0
        subst h0
        rfl
      · simp
    rw [e, cell_of_row _ _ j _ _ _ (Lib.bytesWorld_at_new w 5 s)]
    exact hget j b hb

end Go.Proofs.YtdgaoebjbhomdaaDoor.Sha

namespace Go.Proofs.YtdgaoebjbhomdaaDoor.Sha
open Go.RowKit

def abcS : List UInt8 := [186, 120, 22, 191, 143, 1, 207, 234, 65, 65, 64, 222, 93, 174, 34, 35, 176, 3, 97, 163, 150, 23, 122, 156, 180, 16, 255, 97, 242, 0, 21, 173]
def noneS : List UInt8 := [227, 176, 196, 66, 152, 252, 28, 20, 154, 251, 244, 200, 153, 111, 185, 36, 39, 174, 65, 228, 100, 155, 147, 76, 164, 149, 153, 27, 120, 82, 184, 85]
theorem shaS_abc : shaS ⟨#[97, 98, 99]⟩ = abcS := by
  have h : natsOf ⟨#[97, 98, 99]⟩ = [97, 98, 99] := rfl
  unfold shaS
  rw [h, sha_abc]
  rfl
theorem shaS_none : shaS ⟨#[]⟩ = noneS := by
  have h : natsOf ⟨#[]⟩ = [] := rfl
  unfold shaS
  rw [h, sha_none]
  rfl
theorem hex_abc : ByteArray.mk (hexL abcS).toArray = ⟨#[98, 97, 55, 56, 49, 54, 98, 102, 56, 102, 48, 49, 99, 102, 101, 97, 52, 49, 52, 49, 52, 48, 100, 101, 53, 100, 97, 101, 50, 50, 50, 51, 98, 48, 48, 51, 54, 49, 97, 51, 57, 54, 49, 55, 55, 97, 57, 99, 98, 52, 49, 48, 102, 102, 54, 49, 102, 50, 48, 48, 49, 53, 97, 100]⟩ := by rfl
theorem hex_none : ByteArray.mk (hexL noneS).toArray = ⟨#[101, 51, 98, 48, 99, 52, 52, 50, 57, 56, 102, 99, 49, 99, 49, 52, 57, 97, 102, 98, 102, 52, 99, 56, 57, 57, 54, 102, 98, 57, 50, 52, 50, 55, 97, 101, 52, 49, 101, 52, 54, 52, 57, 98, 57, 51, 52, 99, 97, 52, 57, 53, 57, 57, 49, 98, 55, 56, 53, 50, 98, 56, 53, 53]⟩ := by rfl

theorem sum_abc (w : World) : Calls Tryd.prog 67 #[.string ⟨#[97, 98, 99]⟩] w fun e w' => e = .returned (.agg (valsB abcS).toArray) ∧ Below w.heap.size w w' := by
  have h := code_sum ⟨#[97, 98, 99]⟩ (by decide) w
  rw [shaS_abc] at h
  exact h
theorem sum_none (w : World) : Calls Tryd.prog 67 #[.string ⟨#[]⟩] w fun e w' => e = .returned (.agg (valsB noneS).toArray) ∧ Below w.heap.size w w' := by
  have h := code_sum ⟨#[]⟩ (by decide) w
  rw [shaS_none] at h
  exact h
def nought63 : ByteArray := ⟨(Lib.repeatL [48] 63).toArray⟩
theorem rep63 (w : World) : Calls Tryd.prog 101 #[.string ⟨#[48]⟩, .int .i64 63] w fun e w' => e = .returned (.string nought63) ∧ Below w.heap.size w w' :=
  Tryd.strings_Repeat ⟨#[48]⟩ 63 w (by decide) (by decide)
theorem size63 : nought63.size = 63 := by decide
theorem row_t : rowL ⟨#[116]⟩ [⟨#[97, 98]⟩] = [1, 116, 2, 97, 98] := by decide
theorem of_t (w : World) : Calls Tryd.prog 29 #[.string ⟨#[116]⟩, .slice (some ⟨w.heap.size, 0, none⟩) 1 1] (w.alloc (.cells #[.string ⟨#[97, 98]⟩] 9))
    fun e w' => e = .returned (.agg (valsB (shaS ⟨#[1, 116, 2, 97, 98]⟩)).toArray) ∧ Below w.heap.size w w' := by
  have h := code_of ⟨#[116]⟩ (.slice (some ⟨w.heap.size, 0, none⟩) 1 1) [⟨#[97, 98]⟩] (w.alloc (.cells #[.string ⟨#[97, 98]⟩] 9))
    (Or.inr ⟨w.heap.size, 0, 1, rfl, by decide, fun i s hs => by
      match i, hs with
      | 0, hs =>
        simp at hs
        subst hs
        rw [World.cell?_alloc_mark]
        rfl⟩) (by decide) (fun s hs => by simp at hs; subst hs; decide) (by rw [row_t]; decide) (by decide)
  rw [row_t] at h
  refine h.mono ?_
  rintro e w' ⟨he, hb⟩
  exact ⟨he, ((Below.refl _ _).alloc (Nat.le_refl _) _).trans (hb.mono (by simp))⟩

end Go.Proofs.YtdgaoebjbhomdaaDoor.Sha

namespace Go.Proofs.YtdgaoebjbhomdaaDoor.Sha
open Go.RowKit

/-- The blocks of the state apart from one another. -/
structure Apart (gb gv gk gw : Nat) : Prop where
  vw : gv ≠ gw
  bv : gb ≠ gv
  bw : gb ≠ gw
  kv : gk ≠ gv
  kw : gk ≠ gw

/-- The state: the bytes made whole, the eight words, the roots' words, a block's words. -/
structure RS (w0 : World) (B gb gv gk gw : Nat) (D : List UInt8) (vs X : List Nat) (w : World) : Prop where
  bytes : ∀ (i : Nat) (b : UInt8), D[i]? = some b → w.cell? ⟨gb, i, none⟩ = some (.int .u8 (b.toNat : Int))
  v : w.heap[gv]? = some (.cells (vals32 vs).toArray 135 (0, 0))
  k : Dig32 w gk kL
  x : w.heap[gw]? = some (.cells (vals32 X).toArray 135 (0, 0))
  below : Below B w0 w
  vl : vs.length = 8
  xl : X.length = 64
  vb : B ≤ gv
  xb : B ≤ gw

section
variable {w0 : World} {B gb gv gk gw : Nat} {D : List UInt8} {vs X : List Nat} {w : World}

theorem RS.drew (h : RS w0 B gb gv gk gw D vs X w) : RS w0 B gb gv gk gw D vs X w.drew := ⟨h.bytes, h.v, h.k, h.x, h.below.drew, h.vl, h.xl, h.vb, h.xb⟩
theorem RS.drewN (h : RS w0 B gb gv gk gw D vs X w) (n : Nat) : RS w0 B gb gv gk gw D vs X (w.drewN n) := ⟨h.bytes, h.v, h.k, h.x, bdrewN h.below n, h.vl, h.xl, h.vb, h.xb⟩
theorem RS.kept (h : RS w0 B gb gv gk gw D vs X w) {w' : World} (hb : Below w.heap.size w w') (hB : B ≤ w.heap.size) : RS w0 B gb gv gk gw D vs X w' :=
  ⟨fun i b hi => Sha.kept hb (h.bytes i b hi), (hb.block gv (Array.getElem?_eq_some_iff.1 h.v).1).trans h.v, fun i x hx => Sha.kept hb (h.k i x hx), (hb.block gw (Array.getElem?_eq_some_iff.1 h.x).1).trans h.x, h.below.trans (hb.mono hB), h.vl, h.xl, h.vb, h.xb⟩
theorem RS.cellV (h : RS w0 B gb gv gk gw D vs X w) (i x : Nat) (hx : vs[i]? = some x) : w.cell? ⟨gv, i, none⟩ = some (.int .u32 x) := by
  rw [cell_of_row w gv i _ _ _ h.v]
  simp [vals32, hx]
theorem RS.cellX (h : RS w0 B gb gv gk gw D vs X w) (i x : Nat) (hx : X[i]? = some x) : w.cell? ⟨gw, i, none⟩ = some (.int .u32 x) := by
  rw [cell_of_row w gw i _ _ _ h.x]
  simp [vals32, hx]
theorem RS.frozV (h : RS w0 B gb gv gk gw D vs X w) (i : Nat) : w.frozen? ⟨gv, i, none⟩ = false := frozen_of_row w gv i _ _ h.v
theorem RS.frozX (h : RS w0 B gb gv gk gw D vs X w) (i : Nat) : w.frozen? ⟨gw, i, none⟩ = false := frozen_of_row w gw i _ _ h.x
theorem vals_set (vs : List Nat) (i x : Nat) : (vals32 vs).toArray.setIfInBounds i (.int .u32 (x : Int)) = (vals32 (vs.set i x)).toArray := by
  simp [vals32, List.map_set]
theorem cell_setCell_far (w : World) (a b : Addr) (u : Value) (h : b.block ≠ a.block) : (w.setCell a u).cell? b = w.cell? b := by
  have := heap_setCell_other w a b.block u h
  simp only [World.cell?, this]
theorem RS.setV (h : RS w0 B gb gv gk gw D vs X w) (A : Apart gb gv gk gw) (i x : Nat) : RS w0 B gb gv gk gw D (vs.set i x) X (w.setCell ⟨gv, i, none⟩ (.int .u32 x)) :=
  ⟨fun j b hj => (cell_setCell_far w _ _ _ A.bv).trans (h.bytes j b hj), by rw [heap_setCell_same w gv i _ _ _ h.v, vals_set], fun j y hy => (cell_setCell_far w _ _ _ A.kv).trans (h.k j y hy),
    (heap_setCell_other w _ gw _ A.vw.symm).trans h.x, h.below.setCell (p := ⟨gv, i, none⟩) h.vb _, by simp [h.vl], h.xl, h.vb, h.xb⟩
theorem RS.setX (h : RS w0 B gb gv gk gw D vs X w) (A : Apart gb gv gk gw) (i x : Nat) : RS w0 B gb gv gk gw D vs (X.set i x) (w.setCell ⟨gw, i, none⟩ (.int .u32 x)) :=
  ⟨fun j b hj => (cell_setCell_far w _ _ _ A.bw).trans (h.bytes j b hj), (heap_setCell_other w _ gv _ A.vw).trans h.v, fun j y hy => (cell_setCell_far w _ _ _ A.kw).trans (h.k j y hy),
    by rw [heap_setCell_same w gw i _ _ _ h.x, vals_set], h.below.setCell (p := ⟨gw, i, none⟩) h.xb _, h.vl, by simp [h.xl], h.vb, h.xb⟩
end

theorem growW_add (n m : Nat) : ∀ W : List Nat, growW (n + m) W = growW m (growW n W) := by
  induction n with
  | zero => intro W; rw [Nat.zero_add]; rfl
  | succ n ih => intro W; rw [show n + 1 + m = (n + m) + 1 by omega, growW, ih, growW]
theorem growW_pre (m : Nat) : ∀ (W : List Nat) (i : Nat), i < W.length → (growW m W)[i]? = W[i]? := by
  induction m with
  | zero => intro W i _; rfl
  | succ m ih =>
    intro W i hi
    rw [growW, ih _ _ (by simp; omega), List.getElem?_append_left hi]

/-- A block's 64 words. -/
def wsL (l : List Nat) : List Nat := growW 48 (wordsL l)
theorem wsL_first (l : List Nat) (hl : l.length = 64) (t : Nat) (ht : t < 16) : (wsL l)[t]? = some (l.getD (4 * t) 0 * 16777216 + l.getD (4 * t + 1) 0 * 65536 + l.getD (4 * t + 2) 0 * 256 + l.getD (4 * t + 3) 0) := by
  unfold wsL
  rw [growW_pre 48 _ t (by rw [wordsL_length 16 l (by omega)]; exact ht)]
  exact wordsL_get l t (by omega)
theorem wsL_length (l : List Nat) (hl : l.length = 64) : (wsL l).length = 64 := by
  unfold wsL
  rw [growW_length, wordsL_length 16 l (by omega)]
theorem wsL_low (l : List Nat) (h : ∀ x ∈ l, x < 256) : Low (wsL l) := growW_low 48 _ (wordsL_low l h)
theorem wsL_next (l : List Nat) (hl : l.length = 64) (t x2 x7 x15 x16 : Nat) (h16 : 16 ≤ t) (ht : t < 64) (h2 : (wsL l)[t - 2]? = some x2) (h7 : (wsL l)[t - 7]? = some x7) (h15 : (wsL l)[t - 15]? = some x15) (hx16 : (wsL l)[t - 16]? = some x16) :
    (wsL l)[t]? = some ((s1 x2 + x7 + s0 x15 + x16) % 4294967296) := by
  obtain ⟨n, rfl⟩ : ∃ n, t = 16 + n := ⟨t - 16, by omega⟩
  have hw : (wordsL l).length = 16 := wordsL_length 16 l (by omega)
  have hg : (growW n (wordsL l)).length = 16 + n := by rw [growW_length, hw]
  have hall : wsL l = growW (48 - (n + 1)) (growW (n + 1) (wordsL l)) := by
    unfold wsL
    rw [← growW_add, show n + 1 + (48 - (n + 1)) = 48 by omega]
  have hpre : ∀ i, i < 16 + n + 1 → (wsL l)[i]? = (growW (n + 1) (wordsL l))[i]? := fun i hi => by
    rw [hall, growW_pre _ _ i (by rw [growW_length, hw]; omega)]
  have hlow : ∀ i, i < 16 + n → (wsL l)[i]? = (growW n (wordsL l))[i]? := fun i hi => by
    rw [hpre i (by omega), growW_succ, List.getElem?_append_left (by omega)]
  rw [hpre _ (by omega), growW_succ, List.getElem?_append_right (by omega), hg, Nat.sub_self, List.getElem?_cons_zero]
  rw [hlow _ (by omega)] at h2 h7 h15 hx16
  simp only [nextW, List.getD, h2, h7, h15, hx16, Option.getD_some]

/-- A word turned, the world told exactly. -/
theorem turn_drew (x n : Nat) (z : Int) (w : World) (hz : z = (n : Int)) (hx : x < 4294967296) (hn : n ≤ 31) :
    Calls Tryd.prog 103 #[.int .u32 x, .int .i64 z] w fun e w' => e = .returned (.int .u32 (turnN x n)) ∧ w' = w.drew := by
  subst hz
  have ho := turn_or x n hx hn
  have hs : IntKind.i64.wrap (32 - (n : Int)) = ((32 - n : Nat) : Int) := by rw [IntWalk.i64_in _ ⟨by omega, by omega⟩]; omega
  obtain ⟨m, hm⟩ : ∃ m, 32 - n = m := ⟨_, rfl⟩
  rw [hm] at ho hs
  have hn0 : (0 : Int) ≤ (n : Int) := by omega
  have hm0 : (0 : Int) ≤ (m : Int) := by omega
  have hm32 : m ≤ 32 := by omega
  have hn32 : n ≤ 32 := by omega
  clear hm
  go_enter Tryd.func103, Tryd.ntmps103
  go_wp2
  go_region
  all_goals
    go_wp2
    go_ret
    exact ⟨rfl, rfl⟩

end Go.Proofs.YtdgaoebjbhomdaaDoor.Sha

namespace Go.Proofs.YtdgaoebjbhomdaaDoor.Sha
open Go.RowKit

theorem ownsRow_empty (w : World) (e : TypeId) (B : Nat) (hB : B ≤ w.heap.size) : (w.alloc (.cells #[] e)).ownsRow B e 1 (.slice (some ⟨w.heap.size, 0, none⟩) 0 0) 0 [] :=
  ⟨rfl, Or.inr ⟨w.heap.size, 0, #[], rfl, hB, heap_alloc_new w _, Nat.le_refl _, Nat.zero_le _, rfl, rfl⟩⟩

theorem put_high (m N : Nat) (ys : List UInt8) (hm : 128 ≤ m) (h10 : m < 128 ^ 10) (h : ys ++ Digit.putL m = Digit.putL N) : (ys ++ [UInt8.ofNat (m % 128 + 128)]) ++ Digit.putL (m / 128) = Digit.putL N := by
  rw [← h, Digit.putL_eq m h10, if_neg (by omega)]
  simp
theorem put_low (m N : Nat) (ys : List UInt8) (hm : m < 128) (h : ys ++ Digit.putL m = Digit.putL N) : ys ++ [UInt8.ofNat m] = Digit.putL N := by
  rw [← h, Digit.putL_eq m (by omega), if_pos hm]

end Go.Proofs.YtdgaoebjbhomdaaDoor.Sha

namespace Go.Proofs.YtdgaoebjbhomdaaDoor.Sha
open Go.RowKit

/-- The statement with this number. -/
def blkIn (n : Nat) : Code → Option Code
  | .block m c => if m = n then some (.block m c) else blkIn n c
  | .loop c => blkIn n c
  | .seq a b => match blkIn n a with
    | some c => some c
    | none => blkIn n b
  | .cond _ a b => match blkIn n a with
    | some c => some c
    | none => blkIn n b
  | _ => none
noncomputable def blkS (n : Nat) : Code := ((Tryd.f90.body.bind (blkIn n)).getD .skip)

theorem keep_frozen {w : World} {a : Addr} (h : w.frozen? a = false) : w.drew.frozen? a = false := h
theorem turn_quiet (x n : Nat) (z : Int) (w : World) (k : Nat) (hz : z = (n : Int)) (hx : x < 4294967296) (hn : n ≤ 31) :
    Calls Tryd.prog 103 #[.int .u32 x, .int .i64 z] (w.drewN k) fun e w' => e = .returned (.int .u32 (turnN x n)) ∧ ∃ m, w' = w.drewN m :=
  (turn_drew x n z (w.drewN k) hz hx hn).mono fun _ _ ⟨he, hw⟩ => ⟨he, k + 1, hw⟩
theorem big_x (h s c k w : Nat) : (((h : Int) + s + c + k) % 4294967296 + w) % 4294967296 = ((h + s + c + k + w) % 4294967296 : Nat) := by omega
theorem big_y (s m : Nat) : ((s : Int) + m) % 4294967296 = ((s + m) % 4294967296 : Nat) := by omega
theorem mix_x (ve vf vg vh kk ww : Nat) (le : ve < 4294967296) (lf : vf < 4294967296) (lg : vg < 4294967296) :
    (((vh : Int) + bits BinOp.xor IntKind.u32 (bits BinOp.xor IntKind.u32 (turnN ve 6) (turnN ve 11)) (turnN ve 25) +
          bits BinOp.or IntKind.u32 (bits BinOp.and IntKind.u32 ve vf) (bits BinOp.and IntKind.u32 (bits BinOp.xor IntKind.u32 ve 4294967295) vg) + kk) % 4294967296 + ww) % 4294967296 =
      (((vh + S1 ve + ch ve vf vg + kk + ww) % 4294967296 : Nat) : Int) := by
  rw [xor3 _ _ _ (turnN_lt ve 6 le (by omega)) (turnN_lt ve 11 le (by omega)) (turnN_lt ve 25 le (by omega)), ch_walk ve vf vg le lf lg, big_x]
  rfl
theorem mix_y (va vb vc : Nat) (la : va < 4294967296) (lb : vb < 4294967296) (lc : vc < 4294967296) :
    (bits BinOp.xor IntKind.u32 (bits BinOp.xor IntKind.u32 (turnN va 2) (turnN va 13)) (turnN va 22) +
        bits BinOp.or IntKind.u32 (bits BinOp.or IntKind.u32 (bits BinOp.and IntKind.u32 va vb) (bits BinOp.and IntKind.u32 va vc)) (bits BinOp.and IntKind.u32 vb vc)) % 4294967296 =
      (((S0 va + maj va vb vc) % 4294967296 : Nat) : Int) := by
  rw [xor3 _ _ _ (turnN_lt va 2 la (by omega)) (turnN_lt va 13 la (by omega)) (turnN_lt va 22 la (by omega)), maj_walk va vb vc la lb lc, big_y]
  rfl
/-- Eight words, those from k on moved up by one. -/
def shv (l : List Nat) (k : Nat) : List Nat := l.take (k + 1) ++ (l.drop k).take (7 - k)
theorem shv_at (l : List Nat) (hl : l.length = 8) (j : Nat) (hj : j < 7) : ∃ a b, (shv l (j + 1))[j]? = some a ∧ (shv l (j + 1))[j + 1]? = some b ∧ (shv l (j + 1)).set (j + 1) a = shv l j := by
  match l, hl with
  | [x0, x1, x2, x3, x4, x5, x6, x7], _ =>
    have h : j = 0 ∨ j = 1 ∨ j = 2 ∨ j = 3 ∨ j = 4 ∨ j = 5 ∨ j = 6 := by omega
    rcases h with rfl | rfl | rfl | rfl | rfl | rfl | rfl <;> exact ⟨_, _, rfl, rfl, rfl⟩
end Go.Proofs.YtdgaoebjbhomdaaDoor.Sha

namespace Go.Proofs.YtdgaoebjbhomdaaDoor.Sha
open Go.RowKit

set_option maxRecDepth 100000 in
set_option maxHeartbeats 3200000 in
theorem sum_shift {u0 u1 u2 u3 u5 u6 u7 u8 u9 u10 u11 u12 u13 u14 u15 u16 u17 u19 u20 u21 u22 u23 u24 u25 u26 u27 u28 u29 u30 u31 u32 u33 u34 u35 u36 u37 u38 u39 u40 u41 u42 u43 u44 u45 u46 u47 u48 u49 u50 u51 u52 u53 u54 u55 u56 u57 u58 u59 u60 u61 u62 u63 u64 u65 u66 u67 u68 u69 u70 u71 u72 u73 u74 u75 u76 u77 u78 u79 u80 u81 u82 u83 u84 u85 u86 u87 u88 u89 u90 u91 u92 u93 u94 u95 u96 u97 u98 u99 u100 u101 u102 u103 u104 u105 u106 u107 u108 u109 u110 u111 u112 u113 u114 u115 u116 u117 u118 u119 u120 u121 u122 u123 u124 u125 u126 u127 u128 u129 u130 u131 u132 u133 u134 u135 u136 u137 u138 u139 u140 u141 u142 u143 u144 u145 u146 u147 u148 u149 u150 u151 u152 u153 u154 u155 u156 u157 u158 u159 u160 u161 u162 u163 u164 u165 u166 u167 u168 u169 u170 u171 u172 u173 u174 u175 u176 u177 u178 u179 u180 u181 u182 u183 u184 u185 u186 u187 u188 u189 u190 u191 u192 u193 u194 u195 u196 u197 u198 u199 u200 u201 u202 u203 u204 u205 u206 u207 u208 u209 u210 u211 u212 u213 u214 u215 u216 u217 u218 u219 u220 u221 u222 u223 u224 u225 u226 u227 u228 u229 u230 u231 u232 u233 u234 u235 u236 u237 u238 u239 u240 u241 u242 u243 u244 u245 u246 u247 u248 u249 u250 u251 u252 u253 u254 u255 u256 u257 u258 u259 u260 u261 u262 u263 u264 u265 u266 u267 u268 : Value} {w W0 : World} {B gb gv gk gw g1 : Nat} {D : List UInt8} {V : EightW} {X ys : List Nat} (hA : Apart gb gv gk gw) (hg1 : gv ≠ g1) (hB : B ≤ w.heap.size) (hrs : RS W0 B gb gv gk gw D (shv (vL V) 7) X w) (hys : Dig32 w g1 ys) (Q0 : Exit → Act → World → Prop)
    (hexit : ∀ (w' : World) (x18 x210 x211 x212 x213 x214 x215 x216 x217 x218 x219 x220 x221 : Value), RS W0 B gb gv gk gw D (shv (vL V) 0) X w' ∧ Dig32 w' g1 ys ∧ B ≤ w'.heap.size → Q0 .normal ⟨#[u0, u1, u2, u3, .slice (some ⟨gv, 0, none⟩) 8 8, u5, u6, u7, u8, u9, u10, u11, u12, u13, u14, u15, u16, u17, x18, u19, u20, u21, u22, u23, u24, u25, u26, u27, u28, u29, u30, u31, u32, u33, u34, u35, u36, u37, u38, u39, u40, u41, u42, u43, u44, u45, u46, u47, u48, u49, u50, u51, u52, u53, u54, u55, u56, u57, u58, u59, u60, u61, u62, u63, u64, u65, u66, u67, u68, u69, u70, u71, u72, u73, u74, u75, u76, u77, u78, u79, u80, u81, u82, u83, u84, u85, u86, u87, u88, u89, u90, u91, u92, u93, u94, u95, u96, u97, u98, u99, u100, u101, u102, u103, u104, u105, u106, u107, u108, u109, u110, u111, u112, u113, u114, u115, u116, u117, u118, u119, u120, u121, u122, u123, u124, u125, u126, u127, u128, u129, u130, u131, u132, u133, u134, u135, u136, u137, u138, u139, u140, u141, u142, u143, u144, u145, u146, u147, u148, u149, u150, u151, u152, u153, u154, u155, u156, u157, u158, u159, u160, u161, u162, u163, u164, u165, u166, u167, u168, u169, u170, u171, u172, u173, u174, u175, u176, u177, u178, u179, u180, u181, u182, u183, u184, u185, u186, u187, u188, u189, u190, u191, u192, u193, u194, u195, u196, u197, u198, u199, u200, u201, u202, u203, u204, u205, u206, u207, u208, u209, x210, x211, x212, x213, x214, x215, x216, x217, x218, x219, x220, x221, u222, u223, u224, u225, u226, u227, u228, u229, u230, u231, u232, u233, u234, u235, u236, u237, u238, u239, u240, u241, u242, u243, u244, u245, u246, u247, u248, u249, u250, u251, u252, u253, u254, u255, u256, u257, u258, u259, u260, u261, u262, u263, u264, u265, u266, u267, u268], []⟩ w') :
    (blkS 8).wp Tryd.prog Q0 ⟨#[u0, u1, u2, u3, .slice (some ⟨gv, 0, none⟩) 8 8, u5, u6, u7, u8, u9, u10, u11, u12, u13, u14, u15, u16, u17, .int .i64 7, u19, u20, u21, u22, u23, u24, u25, u26, u27, u28, u29, u30, u31, u32, u33, u34, u35, u36, u37, u38, u39, u40, u41, u42, u43, u44, u45, u46, u47, u48, u49, u50, u51, u52, u53, u54, u55, u56, u57, u58, u59, u60, u61, u62, u63, u64, u65, u66, u67, u68, u69, u70, u71, u72, u73, u74, u75, u76, u77, u78, u79, u80, u81, u82, u83, u84, u85, u86, u87, u88, u89, u90, u91, u92, u93, u94, u95, u96, u97, u98, u99, u100, u101, u102, u103, u104, u105, u106, u107, u108, u109, u110, u111, u112, u113, u114, u115, u116, u117, u118, u119, u120, u121, u122, u123, u124, u125, u126, u127, u128, u129, u130, u131, u132, u133, u134, u135, u136, u137, u138, u139, u140, u141, u142, u143, u144, u145, u146, u147, u148, u149, u150, u151, u152, u153, u154, u155, u156, u157, u158, u159, u160, u161, u162, u163, u164, u165, u166, u167, u168, u169, u170, u171, u172, u173, u174, u175, u176, u177, u178, u179, u180, u181, u182, u183, u184, u185, u186, u187, u188, u189, u190, u191, u192, u193, u194, u195, u196, u197, u198, u199, u200, u201, u202, u203, u204, u205, u206, u207, u208, u209, u210, u211, u212, u213, u214, u215, u216, u217, u218, u219, u220, u221, u222, u223, u224, u225, u226, u227, u228, u229, u230, u231, u232, u233, u234, u235, u236, u237, u238, u239, u240, u241, u242, u243, u244, u245, u246, u247, u248, u249, u250, u251, u252, u253, u254, u255, u256, u257, u258, u259, u260, u261, u262, u263, u264, u265, u266, u267, u268], []⟩ w := by
  have HX := Lib.hid hexit
  clear hexit
  conv => arg 2; whnf
  go_wp2_with fail
  go_loopw [18] (fun i wi => ∃ k : Nat, i = .int .i64 k ∧ k ≤ 7 ∧ B ≤ wi.heap.size ∧ RS W0 B gb gv gk gw D (shv (vL V) k) X wi ∧ Dig32 wi g1 ys) (fun i _ => (intOf i).toNat)
  case atStart => exact ⟨7, rfl, by omega, hB, hrs, hys⟩
  case round =>
    obtain ⟨k, rfl, hk, hwB7, hrs7, hw7⟩ := hrel
    have HG1 := Lib.hid hg1
    have HA := Lib.hid hA
    clear hrs hys hg1 hA hB
    by_cases hk0 : 0 < k
    · obtain ⟨j, rfl⟩ : ∃ j, k = j + 1 := ⟨k - 1, by omega⟩
      obtain ⟨a, b, ha, hb, hset⟩ := shv_at (vL V) rfl j (by omega)
      have c1 := hrs7.cellV j a ha
      have c2 := hrs7.cellV (j + 1) b hb
      have f2 := hrs7.frozV (j + 1)
      have ij : ((j + 1 : Nat) : Int) - 1 = (j : Int) := by omega
      obtain ⟨k, hkk⟩ : ∃ k, j + 1 = k := ⟨_, rfl⟩
      rw [hkk] at hset c2 f2 ij hk0
      rw [hkk]
      have HSET := Lib.hid hset
      have HR7 := Lib.hid hrs7
      have HW7 := Lib.hid hw7
      have hj0 : (0 : Int) ≤ (j : Int) := by omega
      have hj8 : (j : Int) < 8 := by omega
      have hk0' : (0 : Int) < (k : Int) := by omega
      have hk0'' : (0 : Int) ≤ (k : Int) := by omega
      have hk8 : (k : Int) < 8 := by omega
      clear hset hrs7 hw7 ha hb
      go_wp2_with fail
      go_roundw
      case rel =>
        refine ⟨j, rfl, by omega, by simpa using hwB7, ?_, fun i x hx => (cell_setCell_far wr _ _ _ HG1.out.symm).trans (HW7.out i x hx)⟩
        have h := HR7.out.setV HA.out k a
        rw [hkk, HSET.out] at h
        exact h
      case measure => simp [intOf]; omega
    · obtain rfl : k = 0 := by omega
      have HR7 := Lib.hid hrs7
      have HW7 := Lib.hid hw7
      have hz : ((0 : Nat) : Int) = 0 := rfl
      clear hrs7 hw7 hk0
      go_wp2_with fail
      exact HX.out _ _ _ _ _ _ _ _ _ _ _ _ _ _ ⟨HR7.out, HW7.out, hwB7⟩

end Go.Proofs.YtdgaoebjbhomdaaDoor.Sha

namespace Go.Proofs.YtdgaoebjbhomdaaDoor.Sha
open Go.RowKit

set_option maxRecDepth 100000 in
set_option maxHeartbeats 3200000 in
theorem sum_words {u0 u1 u2 u4 u5 u9 u10 u11 u12 u13 u14 u15 u16 u17 u18 u19 u20 u21 u22 u23 u24 u25 u26 u27 u28 u29 u30 u31 u32 u33 u34 u35 u36 u37 u38 u39 u40 u41 u42 u43 u44 u45 u46 u47 u48 u49 u50 u51 u52 u53 u54 u55 u56 u57 u58 u59 u60 u61 u62 u63 u64 u65 u66 u67 u68 u69 u70 u71 u72 u73 u74 u75 u76 u77 u78 u79 u80 u81 u82 u83 u84 u85 u86 u87 u88 u89 u90 u91 u92 u93 u94 u95 u96 u97 u98 u99 u100 u101 u102 u103 u104 u105 u106 u107 u108 u109 u110 u111 u112 u113 u114 u115 u116 u117 u118 u119 u120 u121 u122 u123 u124 u125 u126 u127 u128 u129 u130 u131 u132 u133 u134 u135 u136 u137 u138 u139 u140 u141 u142 u143 u144 u145 u146 u147 u148 u149 u150 u151 u152 u153 u154 u155 u156 u157 u158 u159 u160 u161 u162 u163 u164 u165 u166 u167 u168 u169 u170 u171 u172 u173 u174 u175 u176 u177 u178 u179 u180 u181 u182 u183 u184 u185 u186 u187 u188 u189 u190 u191 u192 u193 u194 u195 u196 u197 u198 u199 u200 u201 u202 u203 u204 u205 u206 u207 u208 u209 u210 u211 u212 u213 u214 u215 u216 u217 u218 u219 u220 u221 u222 u223 u224 u225 u226 u227 u228 u229 u230 u231 u232 u233 u234 u235 u236 u237 u238 u239 u240 u241 u242 u243 u244 u245 u246 u247 u248 u249 u250 u251 u252 u253 u254 u255 u256 u257 u258 u259 u260 u261 u262 u263 u264 u265 u266 u267 u268 : Value} {w W0 : World} {B g6 gv gk gw N cap6 m : Nat} {D : List UInt8} {vs X WS blk : List Nat} (hA : Apart g6 gv gk gw) (hB : B ≤ w.heap.size) (hrs : RS W0 B g6 gv gk gw D vs X w) (hm64 : m + 64 ≤ N) (hN : N ≤ 2000000000) (hbg : ∀ i, i < 64 → ∃ b : UInt8, D[m + i]? = some b ∧ blk.getD i 0 = b.toNat) (hf : ∀ t, t < 16 → WS[t]? = some (blk.getD (4 * t) 0 * 16777216 + blk.getD (4 * t + 1) 0 * 65536 + blk.getD (4 * t + 2) 0 * 256 + blk.getD (4 * t + 3) 0)) (hnx : ∀ t x2 x7 x15 x16, 16 ≤ t → t < 64 → WS[t - 2]? = some x2 → WS[t - 7]? = some x7 → WS[t - 15]? = some x15 → WS[t - 16]? = some x16 → WS[t]? = some ((s1 x2 + x7 + s0 x15 + x16) % 4294967296)) (hwl : WS.length = 64) (hwlow : Low WS) (Q0 : Exit → Act → World → Prop)
    (hexit : ∀ (w' : World) (x8 x9 x10 x11 x50 x51 x52 x53 x54 x55 x56 x57 x58 x59 x60 x61 x62 x63 x64 x65 x66 x67 x68 x69 x70 x71 x72 x73 x74 x75 x76 x77 x78 x79 x80 x81 x82 x83 x84 x85 x86 x87 x88 x89 x90 x91 x92 x93 x94 x95 x96 x97 x98 x99 x100 x101 x102 x103 x104 x105 x106 x107 x108 x109 x110 x111 x112 x113 x114 x115 x116 x117 x118 x119 x120 x121 x122 x123 x124 x125 x126 x127 x128 x129 x130 x131 x132 x133 : Value), RS W0 B g6 gv gk gw D vs WS w' ∧ B ≤ w'.heap.size → Q0 .normal ⟨#[u0, u1, u2, .slice (some ⟨g6, 0, none⟩) N cap6, u4, u5, .slice (some ⟨gw, 0, none⟩) 64 64, .int .i64 (m : Int), x8, x9, x10, x11, u12, u13, u14, u15, u16, u17, u18, u19, u20, u21, u22, u23, u24, u25, u26, u27, u28, u29, u30, u31, u32, u33, u34, u35, u36, u37, u38, u39, u40, u41, u42, u43, u44, u45, u46, u47, u48, u49, x50, x51, x52, x53, x54, x55, x56, x57, x58, x59, x60, x61, x62, x63, x64, x65, x66, x67, x68, x69, x70, x71, x72, x73, x74, x75, x76, x77, x78, x79, x80, x81, x82, x83, x84, x85, x86, x87, x88, x89, x90, x91, x92, x93, x94, x95, x96, x97, x98, x99, x100, x101, x102, x103, x104, x105, x106, x107, x108, x109, x110, x111, x112, x113, x114, x115, x116, x117, x118, x119, x120, x121, x122, x123, x124, x125, x126, x127, x128, x129, x130, x131, x132, x133, u134, u135, u136, u137, u138, u139, u140, u141, u142, u143, u144, u145, u146, u147, u148, u149, u150, u151, u152, u153, u154, u155, u156, u157, u158, u159, u160, u161, u162, u163, u164, u165, u166, u167, u168, u169, u170, u171, u172, u173, u174, u175, u176, u177, u178, u179, u180, u181, u182, u183, u184, u185, u186, u187, u188, u189, u190, u191, u192, u193, u194, u195, u196, u197, u198, u199, u200, u201, u202, u203, u204, u205, u206, u207, u208, u209, u210, u211, u212, u213, u214, u215, u216, u217, u218, u219, u220, u221, u222, u223, u224, u225, u226, u227, u228, u229, u230, u231, u232, u233, u234, u235, u236, u237, u238, u239, u240, u241, u242, u243, u244, u245, u246, u247, u248, u249, u250, u251, u252, u253, u254, u255, u256, u257, u258, u259, u260, u261, u262, u263, u264, u265, u266, u267, u268], []⟩ w') :
    (blkS 4).wp Tryd.prog Q0 ⟨#[u0, u1, u2, .slice (some ⟨g6, 0, none⟩) N cap6, u4, u5, .slice (some ⟨gw, 0, none⟩) 64 64, .int .i64 (m : Int), .int .i64 0, u9, u10, u11, u12, u13, u14, u15, u16, u17, u18, u19, u20, u21, u22, u23, u24, u25, u26, u27, u28, u29, u30, u31, u32, u33, u34, u35, u36, u37, u38, u39, u40, u41, u42, u43, u44, u45, u46, u47, u48, u49, u50, u51, u52, u53, u54, u55, u56, u57, u58, u59, u60, u61, u62, u63, u64, u65, u66, u67, u68, u69, u70, u71, u72, u73, u74, u75, u76, u77, u78, u79, u80, u81, u82, u83, u84, u85, u86, u87, u88, u89, u90, u91, u92, u93, u94, u95, u96, u97, u98, u99, u100, u101, u102, u103, u104, u105, u106, u107, u108, u109, u110, u111, u112, u113, u114, u115, u116, u117, u118, u119, u120, u121, u122, u123, u124, u125, u126, u127, u128, u129, u130, u131, u132, u133, u134, u135, u136, u137, u138, u139, u140, u141, u142, u143, u144, u145, u146, u147, u148, u149, u150, u151, u152, u153, u154, u155, u156, u157, u158, u159, u160, u161, u162, u163, u164, u165, u166, u167, u168, u169, u170, u171, u172, u173, u174, u175, u176, u177, u178, u179, u180, u181, u182, u183, u184, u185, u186, u187, u188, u189, u190, u191, u192, u193, u194, u195, u196, u197, u198, u199, u200, u201, u202, u203, u204, u205, u206, u207, u208, u209, u210, u211, u212, u213, u214, u215, u216, u217, u218, u219, u220, u221, u222, u223, u224, u225, u226, u227, u228, u229, u230, u231, u232, u233, u234, u235, u236, u237, u238, u239, u240, u241, u242, u243, u244, u245, u246, u247, u248, u249, u250, u251, u252, u253, u254, u255, u256, u257, u258, u259, u260, u261, u262, u263, u264, u265, u266, u267, u268], []⟩ w := by
  have HX := Lib.hid hexit
  clear hexit
  conv => arg 2; whnf
  have HRS := Lib.hid hrs
  have HA := Lib.hid hA
  have HBG := Lib.hid hbg
  have HF := Lib.hid hf
  have HNX := Lib.hid hnx
  have HWL := Lib.hid hwl
  have HWLow := Lib.hid hwlow
  clear hrs hA hbg hf hnx hwl hwlow
  go_wp2_with fail
  go_loopw [8] (fun i wi => ∃ (t : Nat) (X : List Nat), i = .int .i64 t ∧ t ≤ 64 ∧ (∀ j, j < t → X[j]? = WS[j]?) ∧ B ≤ wi.heap.size ∧ RS W0 B g6 gv gk gw D vs X wi) (fun i _ => 64 - (intOf i).toNat)
  case atStart => exact ⟨0, X, rfl, by omega, by omega, hB, HRS.out⟩
  case round =>
    clear hB HRS
    obtain ⟨t, X, rfl, ht, hpre, hwB, hrs⟩ := hrel
    by_cases ht64 : t < 64
    · by_cases ht16 : t < 16
      · obtain ⟨q, hq⟩ : ∃ q, m + 4 * t = q := ⟨_, rfl⟩
        obtain ⟨b0, e0, d0⟩ := HBG.out (4 * t) (by omega)
        obtain ⟨b1, e1, d1⟩ := HBG.out (4 * t + 1) (by omega)
        obtain ⟨b2, e2, d2⟩ := HBG.out (4 * t + 2) (by omega)
        obtain ⟨b3, e3, d3⟩ := HBG.out (4 * t + 3) (by omega)
        have hfirst := HF.out t ht16
        rw [d0, d1, d2, d3] at hfirst
        have l0 := b0.toNat_lt
        have l1 := b1.toNat_lt
        have l2 := b2.toNat_lt
        have l3 := b3.toNat_lt
        have ho := or_word b0.toNat b1.toNat b2.toNat b3.toNat l0 l1 l2 l3
        obtain ⟨x, hx⟩ : ∃ x, b0.toNat * 16777216 + b1.toNat * 65536 + b2.toNat * 256 + b3.toNat = x := ⟨_, rfl⟩
        rw [hx] at hfirst ho
        have c0 := hrs.bytes q b0 (by rw [← hq]; exact e0)
        have c1 := hrs.bytes (q + 1) b1 (by rw [← hq]; exact e1)
        have c2 := hrs.bytes (q + 2) b2 (by rw [← hq]; exact e2)
        have c3 := hrs.bytes (q + 3) b3 (by rw [← hq]; exact e3)
        obtain ⟨xo, hxo⟩ : ∃ x, X[t]? = some x := ⟨_, List.getElem?_eq_getElem (by rw [hrs.xl]; exact ht64)⟩
        have cx := hrs.cellX t xo hxo
        have fx := hrs.frozX t
        have hqi : (m : Int) + 4 * (t : Int) = (q : Int) := by omega
        have hq3 : (q : Int) + 3 < (N : Int) := by omega
        have hq2 : (q : Int) + 2 < (N : Int) := by omega
        have hq1 : (q : Int) + 1 < (N : Int) := by omega
        have hqq : (q : Int) < (N : Int) := by omega
        have hq0 : (0 : Int) ≤ (q : Int) := by omega
        have ht0 : (0 : Int) ≤ (t : Int) := by omega
        have hti : (t : Int) < 16 := by omega
        have hti4 : (t : Int) < 64 := by omega
        have HRI := Lib.hid hrs
        have HPRE := Lib.hid hpre
        have HFI := Lib.hid hfirst
        clear hrs hpre hfirst e0 e1 e2 e3 d0 d1 d2 d3 hx hxo hq
        go_wp2_with fail
        refine QT.wp_region_drew_tail 32 (by kernel_rfl) (by kernel_rfl) ?_
        simp only [List.take_succ_cons, List.take_zero, List.drop_succ_cons, List.drop_zero]
        repeat (go_big_quiet_step (fail))
        refine wpQuiet_nil ?_
        intro _ hw'
        obtain ⟨nq, hw''⟩ := hw'
        subst hw''
        go_wp2_with fail
        go_roundw
        case rel =>
          refine ⟨t + 1, X.set t x, by go_num, by omega, ?_, ?_, ?_⟩
          · intro j hj
            by_cases hjt : j = t
            · subst hjt
              rw [List.getElem?_set_self (by rw [HRI.out.xl]; exact ht64), HFI.out]
            · rw [List.getElem?_set_ne (fun h => hjt h.symm)]
              exact HPRE.out j (by omega)
          · simpa using hwB
          · exact (HRI.out.drewN nq).setX HA.out t x
        case measure => simp [intOf]; omega
      · obtain ⟨j2, hj2⟩ : ∃ n, t - 2 = n := ⟨_, rfl⟩
        obtain ⟨j7, hj7⟩ : ∃ n, t - 7 = n := ⟨_, rfl⟩
        obtain ⟨j15, hj15⟩ : ∃ n, t - 15 = n := ⟨_, rfl⟩
        obtain ⟨j16, hj16⟩ : ∃ n, t - 16 = n := ⟨_, rfl⟩
        have xl := hrs.xl
        obtain ⟨x2, g2'⟩ : ∃ x, WS[t - 2]? = some x := ⟨_, List.getElem?_eq_getElem (by rw [HWL.out]; omega)⟩
        obtain ⟨x7, g7⟩ : ∃ x, WS[t - 7]? = some x := ⟨_, List.getElem?_eq_getElem (by rw [HWL.out]; omega)⟩
        obtain ⟨x15, g15⟩ : ∃ x, WS[t - 15]? = some x := ⟨_, List.getElem?_eq_getElem (by rw [HWL.out]; omega)⟩
        obtain ⟨x16, g16⟩ : ∃ x, WS[t - 16]? = some x := ⟨_, List.getElem?_eq_getElem (by rw [HWL.out]; omega)⟩
        have hnext := HNX.out t x2 x7 x15 x16 (by omega) ht64 g2' g7 g15 g16
        have l2 := HWLow.out x2 (List.mem_of_getElem? g2')
        have l15 := HWLow.out x15 (List.mem_of_getElem? g15)
        have c2 := hrs.cellX j2 x2 (by rw [hpre _ (by omega), ← hj2]; exact g2')
        have c7 := hrs.cellX j7 x7 (by rw [hpre _ (by omega), ← hj7]; exact g7)
        have c15 := hrs.cellX j15 x15 (by rw [hpre _ (by omega), ← hj15]; exact g15)
        have c16 := hrs.cellX j16 x16 (by rw [hpre _ (by omega), ← hj16]; exact g16)
        obtain ⟨xo, hxo⟩ : ∃ x, X[t]? = some x := ⟨_, List.getElem?_eq_getElem (by rw [hrs.xl]; exact ht64)⟩
        have cx := hrs.cellX t xo hxo
        have fx := hrs.frozX t
        have T1 := Lib.hid (fun w k => turn_quiet x2 17 17 w k rfl l2 (by omega))
        have T2 := Lib.hid (fun w k => turn_quiet x2 19 19 w k rfl l2 (by omega))
        have T3 := Lib.hid (fun w k => turn_quiet x15 7 7 w k rfl l15 (by omega))
        have T4 := Lib.hid (fun w k => turn_quiet x15 18 18 w k rfl l15 (by omega))
        have hs1 : bits .xor .u32 (bits .xor .u32 ((turnN x2 17 : Nat) : Int) ((turnN x2 19 : Nat) : Int)) ((x2 : Int) / 1024) = ((s1 x2 : Nat) : Int) := by
          rw [show (x2 : Int) / 1024 = ((x2 / 2 ^ 10 : Nat) : Int) by omega, xor3 _ _ _ (turnN_lt x2 17 l2 (by omega)) (turnN_lt x2 19 l2 (by omega)) (by omega)]
          rfl
        have hs0 : bits .xor .u32 (bits .xor .u32 ((turnN x15 7 : Nat) : Int) ((turnN x15 18 : Nat) : Int)) ((x15 : Int) / 8) = ((s0 x15 : Nat) : Int) := by
          rw [show (x15 : Int) / 8 = ((x15 / 2 ^ 3 : Nat) : Int) by omega, xor3 _ _ _ (turnN_lt x15 7 l15 (by omega)) (turnN_lt x15 18 l15 (by omega)) (by omega)]
          rfl
        have hsum := sum_word (s1 x2) x7 (s0 x15) x16
        obtain ⟨x, hx⟩ : ∃ x, (s1 x2 + x7 + s0 x15 + x16) % 4294967296 = x := ⟨_, rfl⟩
        rw [hx] at hsum hnext
        have i2 : (t : Int) - 2 = (j2 : Int) := by omega
        have m2 : (0 : Int) ≤ (j2 : Int) := by omega
        have n2 : (j2 : Int) < 64 := by omega
        have i7 : (t : Int) - 7 = (j7 : Int) := by omega
        have m7 : (0 : Int) ≤ (j7 : Int) := by omega
        have n7 : (j7 : Int) < 64 := by omega
        have i15 : (t : Int) - 15 = (j15 : Int) := by omega
        have m15 : (0 : Int) ≤ (j15 : Int) := by omega
        have n15 : (j15 : Int) < 64 := by omega
        have i16 : (t : Int) - 16 = (j16 : Int) := by omega
        have m16 : (0 : Int) ≤ (j16 : Int) := by omega
        have n16 : (j16 : Int) < 64 := by omega
        have v7 : IntKind.i64.wrap ((t : Int) - 7) = (j7 : Int) := by rw [IntWalk.i64_in _ ⟨by omega, by omega⟩]; omega
        have v16 : IntKind.i64.wrap ((t : Int) - 16) = (j16 : Int) := by rw [IntWalk.i64_in _ ⟨by omega, by omega⟩]; omega
        have ht0 : (0 : Int) ≤ (t : Int) := by omega
        have hti : ¬ (t : Int) < 16 := by omega
        have hti4 : (t : Int) < 64 := by omega
        have HRI := Lib.hid hrs
        have HPRE := Lib.hid hpre
        have HFI := Lib.hid hnext
        clear hrs hpre hnext g2' g7 g15 g16 hx hxo hj2 hj7 hj15 hj16 xl
        go_wp2_with fail
        refine QT.wp_region_drew_tail 32 (by kernel_rfl) (by kernel_rfl) ?_
        simp only [List.take_succ_cons, List.take_zero, List.drop_succ_cons, List.drop_zero]
        repeat (go_big_quiet_step ((go_at_call 103; first | with_reducible exact T1.out _ _ | with_reducible exact T2.out _ _ | with_reducible exact T3.out _ _ | with_reducible exact T4.out _ _)))
        refine wpQuiet_nil ?_
        intro _ hw'
        obtain ⟨nq, hw''⟩ := hw'
        subst hw''
        clear T1 T2 T3 T4
        go_wp2_with fail
        go_roundw
        case rel =>
          refine ⟨t + 1, X.set t x, by go_num, by omega, ?_, ?_, ?_⟩
          · intro j hj
            by_cases hjt : j = t
            · subst hjt
              rw [List.getElem?_set_self (by rw [HRI.out.xl]; exact ht64), HFI.out]
            · rw [List.getElem?_set_ne (fun h => hjt h.symm)]
              exact HPRE.out j (by omega)
          · simpa using hwB
          · exact (HRI.out.drewN nq).setX HA.out t x
        case measure => simp [intOf]; omega
    · obtain rfl : t = 64 := by omega
      have hXW : X = WS := List.ext_getElem? fun j => by
        by_cases hj : j < 64
        · exact hpre j hj
        · rw [List.getElem?_eq_none (by rw [hrs.xl]; omega), List.getElem?_eq_none (by rw [HWL.out]; omega)]
      rw [hXW] at hrs
      have HR := Lib.hid hrs
      clear hXW hrs hpre ht64 ht
      go_wp2_with fail
      exact HX.out _ _ _ _ _ _ _ _ _ _ _ _ _ _ _ _ _ _ _ _ _ _ _ _ _ _ _ _ _ _ _ _ _ _ _ _ _ _ _ _ _ _ _ _ _ _ _ _ _ _ _ _ _ _ _ _ _ _ _ _ _ _ _ _ _ _ _ _ _ _ _ _ _ _ _ _ _ _ _ _ _ _ _ _ _ _ _ _ _ ⟨HR.out, hwB⟩

end Go.Proofs.YtdgaoebjbhomdaaDoor.Sha

namespace Go.Proofs.YtdgaoebjbhomdaaDoor.Sha
open Go.RowKit

set_option maxRecDepth 100000 in
set_option maxHeartbeats 3200000 in
theorem sum_round {u0 u1 u2 u3 u7 u8 u9 u10 u11 u12 u14 u15 u16 u17 u18 u19 u20 u21 u22 u23 u24 u25 u26 u27 u28 u29 u30 u31 u32 u33 u34 u35 u36 u37 u38 u39 u40 u41 u42 u43 u44 u45 u46 u47 u48 u49 u50 u51 u52 u53 u54 u55 u56 u57 u58 u59 u60 u61 u62 u63 u64 u65 u66 u67 u68 u69 u70 u71 u72 u73 u74 u75 u76 u77 u78 u79 u80 u81 u82 u83 u84 u85 u86 u87 u88 u89 u90 u91 u92 u93 u94 u95 u96 u97 u98 u99 u100 u101 u102 u103 u104 u105 u106 u107 u108 u109 u110 u111 u112 u113 u114 u115 u116 u117 u118 u119 u120 u121 u122 u123 u124 u125 u126 u127 u128 u129 u130 u131 u132 u133 u134 u135 u136 u137 u138 u139 u140 u141 u142 u143 u144 u145 u146 u147 u148 u149 u150 u151 u152 u153 u154 u155 u156 u157 u158 u159 u160 u161 u162 u163 u164 u165 u166 u167 u168 u169 u170 u171 u172 u173 u174 u175 u176 u177 u178 u179 u180 u181 u182 u183 u184 u185 u186 u187 u188 u189 u190 u191 u192 u193 u194 u195 u196 u197 u198 u199 u200 u201 u202 u203 u204 u205 u206 u207 u208 u209 u210 u211 u212 u213 u214 u215 u216 u217 u218 u219 u220 u221 u222 u223 u224 u225 u226 u227 u228 u229 u230 u231 u232 u233 u234 u235 u236 u237 u238 u239 u240 u241 u242 u243 u244 u245 u246 u247 u248 u249 u250 u251 u252 u253 u254 u255 u256 u257 u258 u259 u260 u261 u262 u263 u264 u265 u266 u267 u268 : Value} {w W0 : World} {B gb gv gk gw g1 t capk kk ww : Nat} {D : List UInt8} {U : EightW} {WS ys : List Nat} (hA : Apart gb gv gk gw) (hg1 : gv ≠ g1) (hB : B ≤ w.heap.size) (ht64 : t < 64) (gkk : kL[t]? = some kk) (gww : WS[t]? = some ww) (hlow : LowE U) (hrs : RS W0 B gb gv gk gw D (vL U) WS w) (hys : Dig32 w g1 ys) (Q0 : Exit → Act → World → Prop)
    (hexit : ∀ (w' : World) (x14 x15 x16 x17 x18 x141 x142 x143 x144 x145 x146 x147 x148 x149 x150 x151 x152 x153 x154 x155 x156 x157 x158 x159 x160 x161 x162 x163 x164 x165 x166 x167 x168 x169 x170 x171 x172 x173 x174 x175 x176 x177 x178 x179 x180 x181 x182 x183 x184 x185 x186 x187 x188 x189 x190 x191 x192 x193 x194 x195 x196 x197 x198 x199 x200 x201 x202 x203 x204 x205 x206 x207 x208 x209 x210 x211 x212 x213 x214 x215 x216 x217 x218 x219 x220 x221 x222 x223 x224 x225 x226 x227 x228 x229 x230 x231 x232 x233 : Value), RS W0 B gb gv gk gw D (vL (step U kk ww)) WS w' ∧ Dig32 w' g1 ys ∧ B ≤ w'.heap.size → Q0 .normal ⟨#[u0, u1, u2, u3, .slice (some ⟨gv, 0, none⟩) 8 8, .slice (some ⟨gk, 0, none⟩) 64 capk, .slice (some ⟨gw, 0, none⟩) 64 64, u7, u8, u9, u10, u11, u12, .int .i64 (t : Int), x14, x15, x16, x17, x18, u19, u20, u21, u22, u23, u24, u25, u26, u27, u28, u29, u30, u31, u32, u33, u34, u35, u36, u37, u38, u39, u40, u41, u42, u43, u44, u45, u46, u47, u48, u49, u50, u51, u52, u53, u54, u55, u56, u57, u58, u59, u60, u61, u62, u63, u64, u65, u66, u67, u68, u69, u70, u71, u72, u73, u74, u75, u76, u77, u78, u79, u80, u81, u82, u83, u84, u85, u86, u87, u88, u89, u90, u91, u92, u93, u94, u95, u96, u97, u98, u99, u100, u101, u102, u103, u104, u105, u106, u107, u108, u109, u110, u111, u112, u113, u114, u115, u116, u117, u118, u119, u120, u121, u122, u123, u124, u125, u126, u127, u128, u129, u130, u131, u132, u133, u134, u135, u136, u137, u138, u139, u140, x141, x142, x143, x144, x145, x146, x147, x148, x149, x150, x151, x152, x153, x154, x155, x156, x157, x158, x159, x160, x161, x162, x163, x164, x165, x166, x167, x168, x169, x170, x171, x172, x173, x174, x175, x176, x177, x178, x179, x180, x181, x182, x183, x184, x185, x186, x187, x188, x189, x190, x191, x192, x193, x194, x195, x196, x197, x198, x199, x200, x201, x202, x203, x204, x205, x206, x207, x208, x209, x210, x211, x212, x213, x214, x215, x216, x217, x218, x219, x220, x221, x222, x223, x224, x225, x226, x227, x228, x229, x230, x231, x232, x233, u234, u235, u236, u237, u238, u239, u240, u241, u242, u243, u244, u245, u246, u247, u248, u249, u250, u251, u252, u253, u254, u255, u256, u257, u258, u259, u260, u261, u262, u263, u264, u265, u266, u267, u268], []⟩ w') :
    (blkS 7).wp Tryd.prog Q0 ⟨#[u0, u1, u2, u3, .slice (some ⟨gv, 0, none⟩) 8 8, .slice (some ⟨gk, 0, none⟩) 64 capk, .slice (some ⟨gw, 0, none⟩) 64 64, u7, u8, u9, u10, u11, u12, .int .i64 (t : Int), u14, u15, u16, u17, u18, u19, u20, u21, u22, u23, u24, u25, u26, u27, u28, u29, u30, u31, u32, u33, u34, u35, u36, u37, u38, u39, u40, u41, u42, u43, u44, u45, u46, u47, u48, u49, u50, u51, u52, u53, u54, u55, u56, u57, u58, u59, u60, u61, u62, u63, u64, u65, u66, u67, u68, u69, u70, u71, u72, u73, u74, u75, u76, u77, u78, u79, u80, u81, u82, u83, u84, u85, u86, u87, u88, u89, u90, u91, u92, u93, u94, u95, u96, u97, u98, u99, u100, u101, u102, u103, u104, u105, u106, u107, u108, u109, u110, u111, u112, u113, u114, u115, u116, u117, u118, u119, u120, u121, u122, u123, u124, u125, u126, u127, u128, u129, u130, u131, u132, u133, u134, u135, u136, u137, u138, u139, u140, u141, u142, u143, u144, u145, u146, u147, u148, u149, u150, u151, u152, u153, u154, u155, u156, u157, u158, u159, u160, u161, u162, u163, u164, u165, u166, u167, u168, u169, u170, u171, u172, u173, u174, u175, u176, u177, u178, u179, u180, u181, u182, u183, u184, u185, u186, u187, u188, u189, u190, u191, u192, u193, u194, u195, u196, u197, u198, u199, u200, u201, u202, u203, u204, u205, u206, u207, u208, u209, u210, u211, u212, u213, u214, u215, u216, u217, u218, u219, u220, u221, u222, u223, u224, u225, u226, u227, u228, u229, u230, u231, u232, u233, u234, u235, u236, u237, u238, u239, u240, u241, u242, u243, u244, u245, u246, u247, u248, u249, u250, u251, u252, u253, u254, u255, u256, u257, u258, u259, u260, u261, u262, u263, u264, u265, u266, u267, u268], []⟩ w := by
  have HX := Lib.hid hexit
  clear hexit
  conv => arg 2; whnf
  obtain ⟨va, vb, vc, vd, ve, vf, vg, vh⟩ := U
  have HLOW := Lib.hid hlow
  obtain ⟨la, lb, lc, ld, le, lf, lg, lh⟩ := hlow
  simp only at la lb lc ld le lf lg lh
  have c0 := hrs.cellV 0 va rfl
  have c1 := hrs.cellV 1 vb rfl
  have c2 := hrs.cellV 2 vc rfl
  have c4 := hrs.cellV 4 ve rfl
  have c5 := hrs.cellV 5 vf rfl
  have c6 := hrs.cellV 6 vg rfl
  have c7 := hrs.cellV 7 vh rfl
  have ck := hrs.k t kk gkk
  have cw := hrs.cellX t ww gww
  have T1 := Lib.hid (fun w k => turn_quiet ve 6 6 w k rfl le (by omega))
  have T2 := Lib.hid (fun w k => turn_quiet ve 11 11 w k rfl le (by omega))
  have T3 := Lib.hid (fun w k => turn_quiet ve 25 25 w k rfl le (by omega))
  have T4 := Lib.hid (fun w k => turn_quiet va 2 2 w k rfl la (by omega))
  have T5 := Lib.hid (fun w k => turn_quiet va 13 13 w k rfl la (by omega))
  have T6 := Lib.hid (fun w k => turn_quiet va 22 22 w k rfl la (by omega))
  have ht0 : (0 : Int) ≤ (t : Int) := by omega
  have hti4 : (t : Int) < 64 := by omega
  have HR4 := Lib.hid hrs
  have HW4 := Lib.hid hys
  have HG1 := Lib.hid hg1
  have HA := Lib.hid hA
  clear hrs hys gkk gww hg1 hA
  go_upto_region 26 with fail
  go_quiet ((go_at_call 103; first | with_reducible exact T1.out _ _ | with_reducible exact T2.out _ _ | with_reducible exact T3.out _ _))
  have HR5 := Lib.hid (HR4.out.drewN nq)
  have HW5 := Lib.hid (show Dig32 (w.drewN nq) g1 ys from fun i x hx => HW4.out i x hx)
  have hwB5 : B ≤ (w.drewN nq).heap.size := hB
  rw [mix_x ve vf vg vh kk ww le lf lg]
  obtain ⟨x, hx⟩ : ∃ x, (vh + S1 ve + ch ve vf vg + kk + ww) % 4294967296 = x := ⟨_, rfl⟩
  rw [hx]
  have HX' := Lib.hid hx
  clear hx c0 c1 c2 c4 c5 c6 c7 ck cw HR4 HW4 hB
  generalize w.drewN nq = w5 at HR5 HW5 hwB5 ⊢
  go_upto_region 27 with fail
  have hR5 := HR5.out
  have c0 := hR5.cellV 0 va rfl
  have c1 := hR5.cellV 1 vb rfl
  have c2 := hR5.cellV 2 vc rfl
  go_quiet ((go_at_call 103; first | with_reducible exact T4.out _ _ | with_reducible exact T5.out _ _ | with_reducible exact T6.out _ _))
  rw [mix_y va vb vc la lb lc]
  obtain ⟨y, hy⟩ : ∃ y, (S0 va + maj va vb vc) % 4294967296 = y := ⟨_, rfl⟩
  rw [hy]
  have HY := Lib.hid hy
  have HR6 := Lib.hid (HR5.out.drewN nq)
  have HW6 := Lib.hid (show Dig32 (w5.drewN nq) g1 ys from fun i x hx => HW5.out i x hx)
  have hwB6 : B ≤ (w5.drewN nq).heap.size := hwB5
  clear hy hR5 c0 c1 c2 HR5 HW5 hwB5 T1 T2 T3 T4 T5 T6
  generalize w5.drewN nq = w6 at HR6 HW6 hwB6 ⊢
  go_upto_block 8 with fail
  refine sum_shift (V := ⟨va, vb, vc, vd, ve, vf, vg, vh⟩) HA.out HG1.out hwB6 HR6.out HW6.out _ ?_
  intro w7 x18 x210 x211 x212 x213 x214 x215 x216 x217 x218 x219 x220 x221
  rintro ⟨hrs8, hys8, hwB8⟩
  have c4 := hrs8.cellV 4 vd rfl
  have f4 := hrs8.frozV 4
  have c0 := hrs8.cellV 0 va rfl
  have f0 := hrs8.frozV 0
  obtain ⟨e', he'⟩ : ∃ e : Nat, (vd + x) % 4294967296 = e := ⟨_, rfl⟩
  obtain ⟨a', ha'⟩ : ∃ a : Nat, (x + y) % 4294967296 = a := ⟨_, rfl⟩
  have ie : ((vd : Int) + (x : Int)) % 4294967296 = (e' : Int) := by omega
  have ia : ((x : Int) + (y : Int)) % 4294967296 = (a' : Int) := by omega
  have HV := Lib.hid (show ((shv (vL ⟨va, vb, vc, vd, ve, vf, vg, vh⟩) 0).set 4 e').set 0 a' = vL (step ⟨va, vb, vc, vd, ve, vf, vg, vh⟩ kk ww) by
    have h1 := HX'.out
    have h2 := HY.out
    have q1 : a' = (vh + S1 ve + ch ve vf vg + kk + ww + (S0 va + maj va vb vc)) % 4294967296 := by omega
    have q2 : e' = (vd + (vh + S1 ve + ch ve vf vg + kk + ww)) % 4294967296 := by omega
    rw [q1, q2]
    rfl)
  have HR8 := Lib.hid hrs8
  have HW8 := Lib.hid hys8
  clear he' ha' hrs8 hys8
  go_wp2_with fail
  refine HX.out _ _ _ _ _ _ _ _ _ _ _ _ _ _ _ _ _ _ _ _ _ _ _ _ _ _ _ _ _ _ _ _ _ _ _ _ _ _ _ _ _ _ _ _ _ _ _ _ _ _ _ _ _ _ _ _ _ _ _ _ _ _ _ _ _ _ _ _ _ _ _ _ _ _ _ _ _ _ _ _ _ _ _ _ _ _ _ _ _ _ _ _ _ _ _ _ _ _ _ ⟨?_, ?_, by simpa using hwB8⟩
  · have h := (HR8.out.setV HA.out 4 e').setV HA.out 0 a'
    rw [HV.out] at h
    exact h
  · exact fun i x hx => (cell_setCell_far _ _ _ _ HG1.out.symm).trans ((cell_setCell_far _ _ _ _ HG1.out.symm).trans (HW8.out i x hx))

end Go.Proofs.YtdgaoebjbhomdaaDoor.Sha

namespace Go.Proofs.YtdgaoebjbhomdaaDoor.Sha
open Go.RowKit

set_option maxRecDepth 100000 in
set_option maxHeartbeats 3200000 in
theorem sum_rounds {u0 u1 u2 u3 u7 u8 u9 u10 u11 u12 u14 u15 u16 u17 u18 u19 u20 u21 u22 u23 u24 u25 u26 u27 u28 u29 u30 u31 u32 u33 u34 u35 u36 u37 u38 u39 u40 u41 u42 u43 u44 u45 u46 u47 u48 u49 u50 u51 u52 u53 u54 u55 u56 u57 u58 u59 u60 u61 u62 u63 u64 u65 u66 u67 u68 u69 u70 u71 u72 u73 u74 u75 u76 u77 u78 u79 u80 u81 u82 u83 u84 u85 u86 u87 u88 u89 u90 u91 u92 u93 u94 u95 u96 u97 u98 u99 u100 u101 u102 u103 u104 u105 u106 u107 u108 u109 u110 u111 u112 u113 u114 u115 u116 u117 u118 u119 u120 u121 u122 u123 u124 u125 u126 u127 u128 u129 u130 u131 u132 u133 u134 u135 u136 u137 u138 u139 u140 u141 u142 u143 u144 u145 u146 u147 u148 u149 u150 u151 u152 u153 u154 u155 u156 u157 u158 u159 u160 u161 u162 u163 u164 u165 u166 u167 u168 u169 u170 u171 u172 u173 u174 u175 u176 u177 u178 u179 u180 u181 u182 u183 u184 u185 u186 u187 u188 u189 u190 u191 u192 u193 u194 u195 u196 u197 u198 u199 u200 u201 u202 u203 u204 u205 u206 u207 u208 u209 u210 u211 u212 u213 u214 u215 u216 u217 u218 u219 u220 u221 u222 u223 u224 u225 u226 u227 u228 u229 u230 u231 u232 u233 u234 u235 u236 u237 u238 u239 u240 u241 u242 u243 u244 u245 u246 u247 u248 u249 u250 u251 u252 u253 u254 u255 u256 u257 u258 u259 u260 u261 u262 u263 u264 u265 u266 u267 u268 : Value} {w W0 : World} {B gb gv gk gw g1 capk : Nat} {D : List UInt8} {V : EightW} {WS ys : List Nat} (hA : Apart gb gv gk gw) (hg1 : gv ≠ g1) (hB : B ≤ w.heap.size) (hwl : WS.length = 64) (hlow : LowE V) (hrs : RS W0 B gb gv gk gw D (vL V) WS w) (hys : Dig32 w g1 ys) (Q0 : Exit → Act → World → Prop)
    (hexit : ∀ (w' : World) (x13 x14 x15 x16 x17 x18 x137 x138 x139 x140 x141 x142 x143 x144 x145 x146 x147 x148 x149 x150 x151 x152 x153 x154 x155 x156 x157 x158 x159 x160 x161 x162 x163 x164 x165 x166 x167 x168 x169 x170 x171 x172 x173 x174 x175 x176 x177 x178 x179 x180 x181 x182 x183 x184 x185 x186 x187 x188 x189 x190 x191 x192 x193 x194 x195 x196 x197 x198 x199 x200 x201 x202 x203 x204 x205 x206 x207 x208 x209 x210 x211 x212 x213 x214 x215 x216 x217 x218 x219 x220 x221 x222 x223 x224 x225 x226 x227 x228 x229 x230 x231 x232 x233 : Value), RS W0 B gb gv gk gw D (vL (steps V kL WS)) WS w' ∧ Dig32 w' g1 ys ∧ B ≤ w'.heap.size ∧ LowE (steps V kL WS) → Q0 .normal ⟨#[u0, u1, u2, u3, .slice (some ⟨gv, 0, none⟩) 8 8, .slice (some ⟨gk, 0, none⟩) 64 capk, .slice (some ⟨gw, 0, none⟩) 64 64, u7, u8, u9, u10, u11, u12, x13, x14, x15, x16, x17, x18, u19, u20, u21, u22, u23, u24, u25, u26, u27, u28, u29, u30, u31, u32, u33, u34, u35, u36, u37, u38, u39, u40, u41, u42, u43, u44, u45, u46, u47, u48, u49, u50, u51, u52, u53, u54, u55, u56, u57, u58, u59, u60, u61, u62, u63, u64, u65, u66, u67, u68, u69, u70, u71, u72, u73, u74, u75, u76, u77, u78, u79, u80, u81, u82, u83, u84, u85, u86, u87, u88, u89, u90, u91, u92, u93, u94, u95, u96, u97, u98, u99, u100, u101, u102, u103, u104, u105, u106, u107, u108, u109, u110, u111, u112, u113, u114, u115, u116, u117, u118, u119, u120, u121, u122, u123, u124, u125, u126, u127, u128, u129, u130, u131, u132, u133, u134, u135, u136, x137, x138, x139, x140, x141, x142, x143, x144, x145, x146, x147, x148, x149, x150, x151, x152, x153, x154, x155, x156, x157, x158, x159, x160, x161, x162, x163, x164, x165, x166, x167, x168, x169, x170, x171, x172, x173, x174, x175, x176, x177, x178, x179, x180, x181, x182, x183, x184, x185, x186, x187, x188, x189, x190, x191, x192, x193, x194, x195, x196, x197, x198, x199, x200, x201, x202, x203, x204, x205, x206, x207, x208, x209, x210, x211, x212, x213, x214, x215, x216, x217, x218, x219, x220, x221, x222, x223, x224, x225, x226, x227, x228, x229, x230, x231, x232, x233, u234, u235, u236, u237, u238, u239, u240, u241, u242, u243, u244, u245, u246, u247, u248, u249, u250, u251, u252, u253, u254, u255, u256, u257, u258, u259, u260, u261, u262, u263, u264, u265, u266, u267, u268], []⟩ w') :
    (blkS 6).wp Tryd.prog Q0 ⟨#[u0, u1, u2, u3, .slice (some ⟨gv, 0, none⟩) 8 8, .slice (some ⟨gk, 0, none⟩) 64 capk, .slice (some ⟨gw, 0, none⟩) 64 64, u7, u8, u9, u10, u11, u12, .int .i64 0, u14, u15, u16, u17, u18, u19, u20, u21, u22, u23, u24, u25, u26, u27, u28, u29, u30, u31, u32, u33, u34, u35, u36, u37, u38, u39, u40, u41, u42, u43, u44, u45, u46, u47, u48, u49, u50, u51, u52, u53, u54, u55, u56, u57, u58, u59, u60, u61, u62, u63, u64, u65, u66, u67, u68, u69, u70, u71, u72, u73, u74, u75, u76, u77, u78, u79, u80, u81, u82, u83, u84, u85, u86, u87, u88, u89, u90, u91, u92, u93, u94, u95, u96, u97, u98, u99, u100, u101, u102, u103, u104, u105, u106, u107, u108, u109, u110, u111, u112, u113, u114, u115, u116, u117, u118, u119, u120, u121, u122, u123, u124, u125, u126, u127, u128, u129, u130, u131, u132, u133, u134, u135, u136, u137, u138, u139, u140, u141, u142, u143, u144, u145, u146, u147, u148, u149, u150, u151, u152, u153, u154, u155, u156, u157, u158, u159, u160, u161, u162, u163, u164, u165, u166, u167, u168, u169, u170, u171, u172, u173, u174, u175, u176, u177, u178, u179, u180, u181, u182, u183, u184, u185, u186, u187, u188, u189, u190, u191, u192, u193, u194, u195, u196, u197, u198, u199, u200, u201, u202, u203, u204, u205, u206, u207, u208, u209, u210, u211, u212, u213, u214, u215, u216, u217, u218, u219, u220, u221, u222, u223, u224, u225, u226, u227, u228, u229, u230, u231, u232, u233, u234, u235, u236, u237, u238, u239, u240, u241, u242, u243, u244, u245, u246, u247, u248, u249, u250, u251, u252, u253, u254, u255, u256, u257, u258, u259, u260, u261, u262, u263, u264, u265, u266, u267, u268], []⟩ w := by
  have HX := Lib.hid hexit
  clear hexit
  conv => arg 2; whnf
  have HA := Lib.hid hA
  have HG1 := Lib.hid hg1
  have HWL := Lib.hid hwl
  have HR0 := Lib.hid hrs
  have HW0 := Lib.hid hys
  have HLOW := Lib.hid hlow
  clear hA hg1 hwl hrs hys hlow
  go_wp2_with fail
  go_loopw [13] (fun i wi => ∃ (t : Nat) (U : EightW), i = .int .i64 t ∧ t ≤ 64 ∧ U = steps V (kL.take t) (WS.take t) ∧ LowE U ∧ B ≤ wi.heap.size ∧ RS W0 B gb gv gk gw D (vL U) WS wi ∧ Dig32 wi g1 ys) (fun i _ => 64 - (intOf i).toNat)
  case atStart => exact ⟨0, V, rfl, by omega, rfl, HLOW.out, hB, HR0.out, HW0.out⟩
  case round =>
    clear hB HR0 HW0
    obtain ⟨t, U, rfl, ht, hU, hlowU, hwB4, hrs4, hwas⟩ := hrel
    have HRS := Lib.hid hrs4
    have HWAS := Lib.hid hwas
    have HLU := Lib.hid hlowU
    have HU := Lib.hid hU
    clear hrs4 hwas hlowU hU
    by_cases ht64 : t < 64
    · obtain ⟨kk, gkk⟩ : ∃ x, kL[t]? = some x := ⟨kL[t]'ht64, List.getElem?_eq_getElem _⟩
      obtain ⟨ww, gww⟩ : ∃ x, WS[t]? = some x := ⟨_, List.getElem?_eq_getElem (by rw [HWL.out]; exact ht64)⟩
      have HST := Lib.hid (show step U kk ww = steps V (kL.take (t + 1)) (WS.take (t + 1)) by
        rw [List.take_add_one, List.take_add_one, gkk, gww]
        show _ = steps _ (kL.take t ++ [kk]) (WS.take t ++ [ww])
        rw [steps_snoc _ _ _ _ _ (by rw [List.length_take, List.length_take, HWL.out]; rfl), ← HU.out])
      have HK := Lib.hid gkk
      have HWW := Lib.hid gww
      have hti4 : (t : Int) < 64 := by omega
      clear gkk gww
      go_upto_block 7 with fail
      refine sum_round HA.out HG1.out hwB4 ht64 HK.out HWW.out HLU.out HRS.out HWAS.out _ ?_
      intro w7 x14 x15 x16 x17 x18 x141 x142 x143 x144 x145 x146 x147 x148 x149 x150 x151 x152 x153 x154 x155 x156 x157 x158 x159 x160 x161 x162 x163 x164 x165 x166 x167 x168 x169 x170 x171 x172 x173 x174 x175 x176 x177 x178 x179 x180 x181 x182 x183 x184 x185 x186 x187 x188 x189 x190 x191 x192 x193 x194 x195 x196 x197 x198 x199 x200 x201 x202 x203 x204 x205 x206 x207 x208 x209 x210 x211 x212 x213 x214 x215 x216 x217 x218 x219 x220 x221 x222 x223 x224 x225 x226 x227 x228 x229 x230 x231 x232 x233
      rintro ⟨hrs8, hys8, hwB8⟩
      have HR8 := Lib.hid hrs8
      have HW8 := Lib.hid hys8
      clear hrs8 hys8
      go_wp2_with fail
      go_roundw
      case rel => exact ⟨t + 1, step U kk ww, by go_num, by omega, HST.out, step_low _ kk ww HLU.out, hwB8, HR8.out, HW8.out⟩
      case measure => simp [intOf]; omega
    · obtain rfl : t = 64 := by omega
      have HV := Lib.hid (show vL U = vL (steps V kL WS) by
        rw [HU.out, List.take_of_length_le (by decide), List.take_of_length_le (by rw [HWL.out]; omega)])
      go_wp2_with fail
      refine HX.out _ _ _ _ _ _ _ _ _ _ _ _ _ _ _ _ _ _ _ _ _ _ _ _ _ _ _ _ _ _ _ _ _ _ _ _ _ _ _ _ _ _ _ _ _ _ _ _ _ _ _ _ _ _ _ _ _ _ _ _ _ _ _ _ _ _ _ _ _ _ _ _ _ _ _ _ _ _ _ _ _ _ _ _ _ _ _ _ _ _ _ _ _ _ _ _ _ _ _ _ _ _ _ _ ⟨?_, HWAS.out, hwB4, ?_⟩
      · rw [← HV.out]; exact HRS.out
      · have h1 := HLU.out
        rw [HU.out, List.take_of_length_le (by decide), List.take_of_length_le (by rw [HWL.out]; omega)] at h1
        exact h1

end Go.Proofs.YtdgaoebjbhomdaaDoor.Sha

namespace Go.Proofs.YtdgaoebjbhomdaaDoor.Sha
open Go.RowKit

/-- Eight words of which the first k are led on. -/
def mixL (u v : EightW) (k : Nat) : List Nat := (vL (addE v u)).take k ++ (vL u).drop k
theorem mixL_at (u v : EightW) (k : Nat) (hk : k < 8) : ∃ x y : Nat, (mixL u v k)[k]? = some x ∧ (vL v)[k]? = some y ∧ (mixL u v k).set k ((x + y) % 4294967296) = mixL u v (k + 1) := by
  have h : k = 0 ∨ k = 1 ∨ k = 2 ∨ k = 3 ∨ k = 4 ∨ k = 5 ∨ k = 6 ∨ k = 7 := by omega
  rcases h with rfl | rfl | rfl | rfl | rfl | rfl | rfl | rfl
  · exact ⟨u.a, v.a, rfl, rfl, rfl⟩
  · exact ⟨u.b, v.b, rfl, rfl, rfl⟩
  · exact ⟨u.c, v.c, rfl, rfl, rfl⟩
  · exact ⟨u.d, v.d, rfl, rfl, rfl⟩
  · exact ⟨u.e, v.e, rfl, rfl, rfl⟩
  · exact ⟨u.f, v.f, rfl, rfl, rfl⟩
  · exact ⟨u.g, v.g, rfl, rfl, rfl⟩
  · exact ⟨u.h, v.h, rfl, rfl, rfl⟩

set_option maxRecDepth 100000 in
set_option maxHeartbeats 3200000 in
theorem sum_adds {u0 u1 u2 u3 u5 u6 u7 u8 u9 u10 u11 u13 u14 u15 u16 u17 u18 u20 u21 u22 u23 u24 u25 u26 u27 u28 u29 u30 u31 u32 u33 u34 u35 u36 u37 u38 u39 u40 u41 u42 u43 u44 u45 u46 u47 u48 u49 u50 u51 u52 u53 u54 u55 u56 u57 u58 u59 u60 u61 u62 u63 u64 u65 u66 u67 u68 u69 u70 u71 u72 u73 u74 u75 u76 u77 u78 u79 u80 u81 u82 u83 u84 u85 u86 u87 u88 u89 u90 u91 u92 u93 u94 u95 u96 u97 u98 u99 u100 u101 u102 u103 u104 u105 u106 u107 u108 u109 u110 u111 u112 u113 u114 u115 u116 u117 u118 u119 u120 u121 u122 u123 u124 u125 u126 u127 u128 u129 u130 u131 u132 u133 u134 u135 u136 u137 u138 u139 u140 u141 u142 u143 u144 u145 u146 u147 u148 u149 u150 u151 u152 u153 u154 u155 u156 u157 u158 u159 u160 u161 u162 u163 u164 u165 u166 u167 u168 u169 u170 u171 u172 u173 u174 u175 u176 u177 u178 u179 u180 u181 u182 u183 u184 u185 u186 u187 u188 u189 u190 u191 u192 u193 u194 u195 u196 u197 u198 u199 u200 u201 u202 u203 u204 u205 u206 u207 u208 u209 u210 u211 u212 u213 u214 u215 u216 u217 u218 u219 u220 u221 u222 u223 u224 u225 u226 u227 u228 u229 u230 u231 u232 u233 u234 u235 u236 u237 u238 u239 u240 u241 u242 u243 u244 u245 u246 u247 u248 u249 u250 u251 u252 u253 u254 u255 u256 u257 u258 u259 u260 u261 u262 u263 u264 u265 u266 u267 u268 : Value} {w W0 : World} {B gb gv gk gw g1 cap1 : Nat} {D : List UInt8} {U V : EightW} {X : List Nat} (hA : Apart gb gv gk gw) (hg1 : gv ≠ g1) (hB : B ≤ w.heap.size) (hrs : RS W0 B gb gv gk gw D (vL U) X w) (hys : Dig32 w g1 (vL V)) (Q0 : Exit → Act → World → Prop)
    (hexit : ∀ (w' : World) (x19 x234 x235 x236 x237 x238 x239 x240 x241 x242 x243 x244 x245 x246 x247 x248 x249 : Value), RS W0 B gb gv gk gw D (vL (addE V U)) X w' ∧ B ≤ w'.heap.size → Q0 .normal ⟨#[u0, u1, u2, u3, .slice (some ⟨gv, 0, none⟩) 8 8, u5, u6, u7, u8, u9, u10, u11, .slice (some ⟨g1, 0, none⟩) 8 cap1, u13, u14, u15, u16, u17, u18, x19, u20, u21, u22, u23, u24, u25, u26, u27, u28, u29, u30, u31, u32, u33, u34, u35, u36, u37, u38, u39, u40, u41, u42, u43, u44, u45, u46, u47, u48, u49, u50, u51, u52, u53, u54, u55, u56, u57, u58, u59, u60, u61, u62, u63, u64, u65, u66, u67, u68, u69, u70, u71, u72, u73, u74, u75, u76, u77, u78, u79, u80, u81, u82, u83, u84, u85, u86, u87, u88, u89, u90, u91, u92, u93, u94, u95, u96, u97, u98, u99, u100, u101, u102, u103, u104, u105, u106, u107, u108, u109, u110, u111, u112, u113, u114, u115, u116, u117, u118, u119, u120, u121, u122, u123, u124, u125, u126, u127, u128, u129, u130, u131, u132, u133, u134, u135, u136, u137, u138, u139, u140, u141, u142, u143, u144, u145, u146, u147, u148, u149, u150, u151, u152, u153, u154, u155, u156, u157, u158, u159, u160, u161, u162, u163, u164, u165, u166, u167, u168, u169, u170, u171, u172, u173, u174, u175, u176, u177, u178, u179, u180, u181, u182, u183, u184, u185, u186, u187, u188, u189, u190, u191, u192, u193, u194, u195, u196, u197, u198, u199, u200, u201, u202, u203, u204, u205, u206, u207, u208, u209, u210, u211, u212, u213, u214, u215, u216, u217, u218, u219, u220, u221, u222, u223, u224, u225, u226, u227, u228, u229, u230, u231, u232, u233, x234, x235, x236, x237, x238, x239, x240, x241, x242, x243, x244, x245, x246, x247, x248, x249, u250, u251, u252, u253, u254, u255, u256, u257, u258, u259, u260, u261, u262, u263, u264, u265, u266, u267, u268], []⟩ w') :
    (blkS 10).wp Tryd.prog Q0 ⟨#[u0, u1, u2, u3, .slice (some ⟨gv, 0, none⟩) 8 8, u5, u6, u7, u8, u9, u10, u11, .slice (some ⟨g1, 0, none⟩) 8 cap1, u13, u14, u15, u16, u17, u18, .int .i64 0, u20, u21, u22, u23, u24, u25, u26, u27, u28, u29, u30, u31, u32, u33, u34, u35, u36, u37, u38, u39, u40, u41, u42, u43, u44, u45, u46, u47, u48, u49, u50, u51, u52, u53, u54, u55, u56, u57, u58, u59, u60, u61, u62, u63, u64, u65, u66, u67, u68, u69, u70, u71, u72, u73, u74, u75, u76, u77, u78, u79, u80, u81, u82, u83, u84, u85, u86, u87, u88, u89, u90, u91, u92, u93, u94, u95, u96, u97, u98, u99, u100, u101, u102, u103, u104, u105, u106, u107, u108, u109, u110, u111, u112, u113, u114, u115, u116, u117, u118, u119, u120, u121, u122, u123, u124, u125, u126, u127, u128, u129, u130, u131, u132, u133, u134, u135, u136, u137, u138, u139, u140, u141, u142, u143, u144, u145, u146, u147, u148, u149, u150, u151, u152, u153, u154, u155, u156, u157, u158, u159, u160, u161, u162, u163, u164, u165, u166, u167, u168, u169, u170, u171, u172, u173, u174, u175, u176, u177, u178, u179, u180, u181, u182, u183, u184, u185, u186, u187, u188, u189, u190, u191, u192, u193, u194, u195, u196, u197, u198, u199, u200, u201, u202, u203, u204, u205, u206, u207, u208, u209, u210, u211, u212, u213, u214, u215, u216, u217, u218, u219, u220, u221, u222, u223, u224, u225, u226, u227, u228, u229, u230, u231, u232, u233, u234, u235, u236, u237, u238, u239, u240, u241, u242, u243, u244, u245, u246, u247, u248, u249, u250, u251, u252, u253, u254, u255, u256, u257, u258, u259, u260, u261, u262, u263, u264, u265, u266, u267, u268], []⟩ w := by
  have HX := Lib.hid hexit
  clear hexit
  conv => arg 2; whnf
  have HA := Lib.hid hA
  have HG1 := Lib.hid hg1
  have HR0 := Lib.hid hrs
  have HW0 := Lib.hid hys
  clear hA hg1 hrs hys
  go_wp2_with fail
  go_loopw [19] (fun i wi => ∃ k : Nat, i = .int .i64 k ∧ k ≤ 8 ∧ B ≤ wi.heap.size ∧ RS W0 B gb gv gk gw D (mixL U V k) X wi ∧ Dig32 wi g1 (vL V)) (fun i _ => 8 - (intOf i).toNat)
  case atStart => exact ⟨0, rfl, by omega, hB, HR0.out, HW0.out⟩
  case round =>
    clear hB HR0 HW0
    obtain ⟨k, rfl, hk, hwB, hrs, hys⟩ := hrel
    have HR := Lib.hid hrs
    have HW := Lib.hid hys
    by_cases hlt : k < 8
    · obtain ⟨x, y, h1, h2, h3⟩ := mixL_at U V k hlt
      have c1 := hrs.cellV k x h1
      have f1 := hrs.frozV k
      have c2 := hys k y h2
      have HS := Lib.hid h3
      obtain ⟨z, hz⟩ : ∃ z : Nat, (x + y) % 4294967296 = z := ⟨_, rfl⟩
      have hzi : ((x : Int) + (y : Int)) % 4294967296 = (z : Int) := by omega
      have HZ := Lib.hid hz
      have hk0 : (0 : Int) ≤ (k : Int) := by omega
      have hk8 : (k : Int) < 8 := by omega
      clear hrs hys h1 h2 h3 hz
      go_wp2_with fail
      refine QT.wp_region_drew_tail 12 (by kernel_rfl) (by kernel_rfl) ?_
      simp only [List.take_succ_cons, List.take_zero, List.drop_succ_cons, List.drop_zero]
      repeat (go_big_quiet_step (fail))
      refine wpQuiet_nil ?_
      intro _ hw'
      obtain ⟨nq, hw''⟩ := hw'
      subst hw''
      go_wp2_with fail
      go_roundw
      case rel =>
        refine ⟨k + 1, by go_num, by omega, by simpa using hwB, ?_, fun i x hx => (cell_setCell_far _ _ _ _ HG1.out.symm).trans (HW.out i x hx)⟩
        have h := (HR.out.drewN nq).setV HA.out k z
        rw [← HZ.out, HS.out] at h
        rw [← HZ.out]
        exact h
      case measure => simp [intOf]; omega
    · obtain rfl : k = 8 := by omega
      clear hrs hys
      go_wp2_with fail
      exact HX.out _ _ _ _ _ _ _ _ _ _ _ _ _ _ _ _ _ _ ⟨HR.out, hwB⟩

end Go.Proofs.YtdgaoebjbhomdaaDoor.Sha

namespace Go.Proofs.YtdgaoebjbhomdaaDoor.Sha
open Go.RowKit

set_option maxRecDepth 100000 in
set_option maxHeartbeats 3200000 in
theorem sum_bytes {u0 u1 u2 u3 u5 u6 u7 u8 u9 u10 u11 u12 u13 u14 u15 u16 u17 u18 u19 u22 u23 u24 u25 u26 u27 u28 u29 u30 u31 u32 u33 u34 u35 u36 u37 u38 u39 u40 u41 u42 u43 u44 u45 u46 u47 u48 u49 u50 u51 u52 u53 u54 u55 u56 u57 u58 u59 u60 u61 u62 u63 u64 u65 u66 u67 u68 u69 u70 u71 u72 u73 u74 u75 u76 u77 u78 u79 u80 u81 u82 u83 u84 u85 u86 u87 u88 u89 u90 u91 u92 u93 u94 u95 u96 u97 u98 u99 u100 u101 u102 u103 u104 u105 u106 u107 u108 u109 u110 u111 u112 u113 u114 u115 u116 u117 u118 u119 u120 u121 u122 u123 u124 u125 u126 u127 u128 u129 u130 u131 u132 u133 u134 u135 u136 u137 u138 u139 u140 u141 u142 u143 u144 u145 u146 u147 u148 u149 u150 u151 u152 u153 u154 u155 u156 u157 u158 u159 u160 u161 u162 u163 u164 u165 u166 u167 u168 u169 u170 u171 u172 u173 u174 u175 u176 u177 u178 u179 u180 u181 u182 u183 u184 u185 u186 u187 u188 u189 u190 u191 u192 u193 u194 u195 u196 u197 u198 u199 u200 u201 u202 u203 u204 u205 u206 u207 u208 u209 u210 u211 u212 u213 u214 u215 u216 u217 u218 u219 u220 u221 u222 u223 u224 u225 u226 u227 u228 u229 u230 u231 u232 u233 u234 u235 u236 u237 u238 u239 u240 u241 u242 u243 u244 u245 u246 u247 u248 u249 u250 u251 u252 u253 u254 u255 u256 u257 u258 u259 u260 u261 u262 u263 u264 u265 u266 u267 u268 : Value} {w W0 : World} {B gv go : Nat} {v : EightW} (hv : LowE v) (hB : B ≤ w.heap.size) (hbel : Below B W0 w) (hne : go ≠ gv) (hgo : B ≤ go) (hgv : w.heap[gv]? = some (.cells (vals32 (vL v)).toArray 135 (0, 0))) (hout : w.heap[go]? = some (.cells (row8 [] 32) 29 (0, 0))) (Q0 : Exit → Act → World → Prop)
    (hexit : ∀ (w' : World) (x21 x251 x252 x253 x254 x255 x256 x257 x258 x259 x260 x261 x262 x263 x264 x265 x266 x267 : Value), w'.heap[go]? = some (.cells (valsB (hashB v)).toArray 29 (0, 0)) ∧ Below B W0 w' ∧ B ≤ w'.heap.size → Q0 .normal ⟨#[u0, u1, u2, u3, .slice (some ⟨gv, 0, none⟩) 8 8, u5, u6, u7, u8, u9, u10, u11, u12, u13, u14, u15, u16, u17, u18, u19, .pointer (some ⟨go, 0, none⟩), x21, u22, u23, u24, u25, u26, u27, u28, u29, u30, u31, u32, u33, u34, u35, u36, u37, u38, u39, u40, u41, u42, u43, u44, u45, u46, u47, u48, u49, u50, u51, u52, u53, u54, u55, u56, u57, u58, u59, u60, u61, u62, u63, u64, u65, u66, u67, u68, u69, u70, u71, u72, u73, u74, u75, u76, u77, u78, u79, u80, u81, u82, u83, u84, u85, u86, u87, u88, u89, u90, u91, u92, u93, u94, u95, u96, u97, u98, u99, u100, u101, u102, u103, u104, u105, u106, u107, u108, u109, u110, u111, u112, u113, u114, u115, u116, u117, u118, u119, u120, u121, u122, u123, u124, u125, u126, u127, u128, u129, u130, u131, u132, u133, u134, u135, u136, u137, u138, u139, u140, u141, u142, u143, u144, u145, u146, u147, u148, u149, u150, u151, u152, u153, u154, u155, u156, u157, u158, u159, u160, u161, u162, u163, u164, u165, u166, u167, u168, u169, u170, u171, u172, u173, u174, u175, u176, u177, u178, u179, u180, u181, u182, u183, u184, u185, u186, u187, u188, u189, u190, u191, u192, u193, u194, u195, u196, u197, u198, u199, u200, u201, u202, u203, u204, u205, u206, u207, u208, u209, u210, u211, u212, u213, u214, u215, u216, u217, u218, u219, u220, u221, u222, u223, u224, u225, u226, u227, u228, u229, u230, u231, u232, u233, u234, u235, u236, u237, u238, u239, u240, u241, u242, u243, u244, u245, u246, u247, u248, u249, u250, x251, x252, x253, x254, x255, x256, x257, x258, x259, x260, x261, x262, x263, x264, x265, x266, x267, u268], []⟩ w') :
    (blkS 12).wp Tryd.prog Q0 ⟨#[u0, u1, u2, u3, .slice (some ⟨gv, 0, none⟩) 8 8, u5, u6, u7, u8, u9, u10, u11, u12, u13, u14, u15, u16, u17, u18, u19, .pointer (some ⟨go, 0, none⟩), .int .i64 0, u22, u23, u24, u25, u26, u27, u28, u29, u30, u31, u32, u33, u34, u35, u36, u37, u38, u39, u40, u41, u42, u43, u44, u45, u46, u47, u48, u49, u50, u51, u52, u53, u54, u55, u56, u57, u58, u59, u60, u61, u62, u63, u64, u65, u66, u67, u68, u69, u70, u71, u72, u73, u74, u75, u76, u77, u78, u79, u80, u81, u82, u83, u84, u85, u86, u87, u88, u89, u90, u91, u92, u93, u94, u95, u96, u97, u98, u99, u100, u101, u102, u103, u104, u105, u106, u107, u108, u109, u110, u111, u112, u113, u114, u115, u116, u117, u118, u119, u120, u121, u122, u123, u124, u125, u126, u127, u128, u129, u130, u131, u132, u133, u134, u135, u136, u137, u138, u139, u140, u141, u142, u143, u144, u145, u146, u147, u148, u149, u150, u151, u152, u153, u154, u155, u156, u157, u158, u159, u160, u161, u162, u163, u164, u165, u166, u167, u168, u169, u170, u171, u172, u173, u174, u175, u176, u177, u178, u179, u180, u181, u182, u183, u184, u185, u186, u187, u188, u189, u190, u191, u192, u193, u194, u195, u196, u197, u198, u199, u200, u201, u202, u203, u204, u205, u206, u207, u208, u209, u210, u211, u212, u213, u214, u215, u216, u217, u218, u219, u220, u221, u222, u223, u224, u225, u226, u227, u228, u229, u230, u231, u232, u233, u234, u235, u236, u237, u238, u239, u240, u241, u242, u243, u244, u245, u246, u247, u248, u249, u250, u251, u252, u253, u254, u255, u256, u257, u258, u259, u260, u261, u262, u263, u264, u265, u266, u267, u268], []⟩ w := by
  have HX := Lib.hid hexit
  clear hexit
  conv => arg 2; whnf
  have HAT := Lib.hid (hashB_at v hv)
  have HHL := Lib.hid (hashB_length v)
  obtain ⟨A, hA⟩ : ∃ A, rowE v = A := ⟨_, rfl⟩
  rw [hA] at HAT
  have HC := Lib.hid (show ∀ (i : Nat) (x : Nat), A[i]? = some (.int .u32 (x : Int)) → w.cell? ⟨gv, i, none⟩ = some (.int .u32 (x : Int)) from fun i x hx => by
    rw [cell_of_row w gv i _ _ _ hgv, ← rowE_vals, hA]
    exact hx)
  obtain ⟨H, hH⟩ : ∃ H, hashB v = H := ⟨_, rfl⟩
  rw [hH] at HAT HHL
  have hfin : ∀ (w' : World) (x21 x251 x252 x253 x254 x255 x256 x257 x258 x259 x260 x261 x262 x263 x264 x265 x266 x267 : Value), w'.heap[go]? = some (.cells (valsB H).toArray 29 (0, 0)) ∧ Below B W0 w' ∧ B ≤ w'.heap.size → Q0 .normal ⟨#[u0, u1, u2, u3, .slice (some ⟨gv, 0, none⟩) 8 8, u5, u6, u7, u8, u9, u10, u11, u12, u13, u14, u15, u16, u17, u18, u19, .pointer (some ⟨go, 0, none⟩), x21, u22, u23, u24, u25, u26, u27, u28, u29, u30, u31, u32, u33, u34, u35, u36, u37, u38, u39, u40, u41, u42, u43, u44, u45, u46, u47, u48, u49, u50, u51, u52, u53, u54, u55, u56, u57, u58, u59, u60, u61, u62, u63, u64, u65, u66, u67, u68, u69, u70, u71, u72, u73, u74, u75, u76, u77, u78, u79, u80, u81, u82, u83, u84, u85, u86, u87, u88, u89, u90, u91, u92, u93, u94, u95, u96, u97, u98, u99, u100, u101, u102, u103, u104, u105, u106, u107, u108, u109, u110, u111, u112, u113, u114, u115, u116, u117, u118, u119, u120, u121, u122, u123, u124, u125, u126, u127, u128, u129, u130, u131, u132, u133, u134, u135, u136, u137, u138, u139, u140, u141, u142, u143, u144, u145, u146, u147, u148, u149, u150, u151, u152, u153, u154, u155, u156, u157, u158, u159, u160, u161, u162, u163, u164, u165, u166, u167, u168, u169, u170, u171, u172, u173, u174, u175, u176, u177, u178, u179, u180, u181, u182, u183, u184, u185, u186, u187, u188, u189, u190, u191, u192, u193, u194, u195, u196, u197, u198, u199, u200, u201, u202, u203, u204, u205, u206, u207, u208, u209, u210, u211, u212, u213, u214, u215, u216, u217, u218, u219, u220, u221, u222, u223, u224, u225, u226, u227, u228, u229, u230, u231, u232, u233, u234, u235, u236, u237, u238, u239, u240, u241, u242, u243, u244, u245, u246, u247, u248, u249, u250, x251, x252, x253, x254, x255, x256, x257, x258, x259, x260, x261, x262, x263, x264, x265, x266, x267, u268], []⟩ w' := by
    rw [← hH]
    exact HX.out
  have HX := Lib.hid hfin
  have HBg := Lib.hid (show B ≤ w.heap.size ∧ Below B W0 w ∧ go ≠ gv ∧ B ≤ go from ⟨hB, hbel, hne, hgo⟩)
  have HGO := Lib.hid hout
  clear hA hH hfin hgv hbel hne hgo hout hB
  go_wp2_with fail
  go_loopw [21] (fun i wr => ∃ k : Nat, k ≤ 32 ∧ i = .int .i64 k ∧ wr.heap[go]? = some (.cells (row8 (H.take k) 32) 29 (0, 0)) ∧ Below B W0 wr ∧ B ≤ wr.heap.size ∧ (∀ (i : Nat) (x : Nat), A[i]? = some (.int .u32 (x : Int)) → wr.cell? ⟨gv, i, none⟩ = some (.int .u32 (x : Int)))) (fun i _ => 32 - (intOf i).toNat)
  case atStart => exact ⟨0, by omega, rfl, HGO.out, HBg.out.2.1, HBg.out.1, HC.out⟩
  case round =>
    clear HC HGO
    obtain ⟨k, hk, rfl, hrow, hbel, hB, hcA⟩ := hrel
    have HROW := Lib.hid hrow
    have HBEL := Lib.hid hbel
    have HCA := Lib.hid hcA
    by_cases hlt : k < 32
    · obtain ⟨x, hAx, hx, hHx⟩ := HAT.out k hlt
      have HL := HHL.out
      have HS := Lib.hid (show (row8 (H.take k) 32).setIfInBounds k (.int .u8 ((UInt8.ofNat (x / 2 ^ (24 - 8 * (k % 4)))).toNat : Int)) = row8 (H.take (k + 1)) 32 by
        rw [row8_set _ 32 k _ (by rw [List.length_take]; omega) (by omega), List.take_add_one, hHx]
        rfl)
      have hz := row8_size (H.take k) 32 (by rw [List.length_take]; omega)
      obtain ⟨v1, hv1⟩ : ∃ v, (row8 (H.take k) 32)[k]? = some v := ⟨(row8 (H.take k) 32)[k]'(by omega), Array.getElem?_eq_getElem _⟩
      have cgo := (cell_of_row wr go k _ _ _ hrow).trans hv1
      have fgo := frozen_of_row wr go k _ _ hrow
      have hk0 : (0 : Int) ≤ (k : Int) := by omega
      have hk32 : (k : Int) < 32 := by omega
      obtain ⟨j, hj⟩ : ∃ j, k / 4 = j := ⟨_, rfl⟩
      have hq : (k : Int) / 4 = (j : Int) := by omega
      have hj8 : (j : Int) < 8 := by omega
      have hj0 : (0 : Int) ≤ (j : Int) := by omega
      rw [hj] at hAx
      have cA := hcA j x hAx
      have hr : k % 4 = 0 ∨ k % 4 = 1 ∨ k % 4 = 2 ∨ k % 4 = 3 := by omega
      clear hHx HL hz hj hAx hv1 hrow hbel hcA
      rcases hr with r | r | r | r
      all_goals
        have hm : (k : Int) % 4 = ((k % 4 : Nat) : Int) := by omega
        rw [r] at hm HS
        clear r
        simp only [UInt8.toNat_ofNat'] at HS
        go_wp2_with fail
        go_roundw
        case rel =>
          refine ⟨k + 1, by omega, by go_num, ?_, HBEL.out.setCell (p := ⟨go, k, none⟩) HBg.out.2.2.2 _, by simpa using hB, fun i x hx => (cell_setCell_far _ _ _ _ HBg.out.2.2.1.symm).trans (HCA.out i x hx)⟩
          rw [heap_setCell_same wr go k _ _ _ HROW.out, ← HS.out]
          simp [show (x : Int) / 16777216 % 256 = (x : Int) / 16777216 by omega]
        case measure => simp [intOf]; omega
    · have hkk : k = 32 := by omega
      subst hkk
      clear hrow hbel hcA
      go_wp2_with fail
      refine HX.out _ _ _ _ _ _ _ _ _ _ _ _ _ _ _ _ _ _ _ ⟨?_, HBEL.out, hB⟩
      have h := HROW.out
      rw [List.take_of_length_le (Nat.le_of_eq HHL.out), row8_full H 32 HHL.out] at h
      exact h

end Go.Proofs.YtdgaoebjbhomdaaDoor.Sha

namespace Go.Proofs.YtdgaoebjbhomdaaDoor.Sha
open Go.RowKit

theorem blk_get (D : List UInt8) (P : List Nat) (hD : D.map UInt8.toNat = P) (m i : Nat) (hi : i < 64) (h : m + 64 ≤ D.length) : ∃ b : UInt8, D[m + i]? = some b ∧ ((P.drop m).take 64).getD i 0 = b.toNat := by
  subst hD
  have hlt : m + i < D.length := by omega
  refine ⟨D[m + i], List.getElem?_eq_getElem hlt, ?_⟩
  simp [hi, List.getElem?_drop, List.getElem?_map, List.getElem?_eq_getElem hlt]

set_option maxRecDepth 100000 in
set_option maxHeartbeats 6400000 in
theorem sum_blocks {u0 u1 u2 u8 u9 u10 u11 u12 u13 u14 u15 u16 u17 u18 u19 u20 u21 u22 u23 u24 u25 u26 u27 u28 u29 u30 u31 u32 u33 u34 u35 u36 u37 u38 u39 u40 u41 u42 u43 u44 u45 u46 u47 u48 u49 u50 u51 u52 u53 u54 u55 u56 u57 u58 u59 u60 u61 u62 u63 u64 u65 u66 u67 u68 u69 u70 u71 u72 u73 u74 u75 u76 u77 u78 u79 u80 u81 u82 u83 u84 u85 u86 u87 u88 u89 u90 u91 u92 u93 u94 u95 u96 u97 u98 u99 u100 u101 u102 u103 u104 u105 u106 u107 u108 u109 u110 u111 u112 u113 u114 u115 u116 u117 u118 u119 u120 u121 u122 u123 u124 u125 u126 u127 u128 u129 u130 u131 u132 u133 u134 u135 u136 u137 u138 u139 u140 u141 u142 u143 u144 u145 u146 u147 u148 u149 u150 u151 u152 u153 u154 u155 u156 u157 u158 u159 u160 u161 u162 u163 u164 u165 u166 u167 u168 u169 u170 u171 u172 u173 u174 u175 u176 u177 u178 u179 u180 u181 u182 u183 u184 u185 u186 u187 u188 u189 u190 u191 u192 u193 u194 u195 u196 u197 u198 u199 u200 u201 u202 u203 u204 u205 u206 u207 u208 u209 u210 u211 u212 u213 u214 u215 u216 u217 u218 u219 u220 u221 u222 u223 u224 u225 u226 u227 u228 u229 u230 u231 u232 u233 u234 u235 u236 u237 u238 u239 u240 u241 u242 u243 u244 u245 u246 u247 u248 u249 u250 u251 u252 u253 u254 u255 u256 u257 u258 u259 u260 u261 u262 u263 u264 u265 u266 u267 u268 : Value} {w W0 : World} {B g6 gv gk gw N cap6 capk : Nat} {D : List UInt8} {P X : List Nat} {V0 : EightW} (hA : Apart g6 gv gk gw) (hB : B ≤ w.heap.size) (hN : N ≤ 2000000000) (hN64 : N % 64 = 0) (hND : N = D.length) (hpad : D.map UInt8.toNat = P) (hlow : LowE V0) (hrs : RS W0 B g6 gv gk gw D (vL V0) X w) (Q0 : Exit → Act → World → Prop)
    (hexit : ∀ (w' : World) (x7 x8 x9 x10 x11 x12 x13 x14 x15 x16 x17 x18 x19 x44 x45 x46 x47 x48 x49 x50 x51 x52 x53 x54 x55 x56 x57 x58 x59 x60 x61 x62 x63 x64 x65 x66 x67 x68 x69 x70 x71 x72 x73 x74 x75 x76 x77 x78 x79 x80 x81 x82 x83 x84 x85 x86 x87 x88 x89 x90 x91 x92 x93 x94 x95 x96 x97 x98 x99 x100 x101 x102 x103 x104 x105 x106 x107 x108 x109 x110 x111 x112 x113 x114 x115 x116 x117 x118 x119 x120 x121 x122 x123 x124 x125 x126 x127 x128 x129 x130 x131 x132 x133 x134 x135 x136 x137 x138 x139 x140 x141 x142 x143 x144 x145 x146 x147 x148 x149 x150 x151 x152 x153 x154 x155 x156 x157 x158 x159 x160 x161 x162 x163 x164 x165 x166 x167 x168 x169 x170 x171 x172 x173 x174 x175 x176 x177 x178 x179 x180 x181 x182 x183 x184 x185 x186 x187 x188 x189 x190 x191 x192 x193 x194 x195 x196 x197 x198 x199 x200 x201 x202 x203 x204 x205 x206 x207 x208 x209 x210 x211 x212 x213 x214 x215 x216 x217 x218 x219 x220 x221 x222 x223 x224 x225 x226 x227 x228 x229 x230 x231 x232 x233 x234 x235 x236 x237 x238 x239 x240 x241 x242 x243 x244 x245 x246 x247 x248 x249 : Value), (∃ X' : List Nat, RS W0 B g6 gv gk gw D (vL (blocks (N / 64) V0 P)) X' w' ∧ LowE (blocks (N / 64) V0 P) ∧ B ≤ w'.heap.size) → Q0 .normal ⟨#[u0, u1, u2, .slice (some ⟨g6, 0, none⟩) N cap6, .slice (some ⟨gv, 0, none⟩) 8 8, .slice (some ⟨gk, 0, none⟩) 64 capk, .slice (some ⟨gw, 0, none⟩) 64 64, x7, x8, x9, x10, x11, x12, x13, x14, x15, x16, x17, x18, x19, u20, u21, u22, u23, u24, u25, u26, u27, u28, u29, u30, u31, u32, u33, u34, u35, u36, u37, u38, u39, u40, u41, u42, u43, x44, x45, x46, x47, x48, x49, x50, x51, x52, x53, x54, x55, x56, x57, x58, x59, x60, x61, x62, x63, x64, x65, x66, x67, x68, x69, x70, x71, x72, x73, x74, x75, x76, x77, x78, x79, x80, x81, x82, x83, x84, x85, x86, x87, x88, x89, x90, x91, x92, x93, x94, x95, x96, x97, x98, x99, x100, x101, x102, x103, x104, x105, x106, x107, x108, x109, x110, x111, x112, x113, x114, x115, x116, x117, x118, x119, x120, x121, x122, x123, x124, x125, x126, x127, x128, x129, x130, x131, x132, x133, x134, x135, x136, x137, x138, x139, x140, x141, x142, x143, x144, x145, x146, x147, x148, x149, x150, x151, x152, x153, x154, x155, x156, x157, x158, x159, x160, x161, x162, x163, x164, x165, x166, x167, x168, x169, x170, x171, x172, x173, x174, x175, x176, x177, x178, x179, x180, x181, x182, x183, x184, x185, x186, x187, x188, x189, x190, x191, x192, x193, x194, x195, x196, x197, x198, x199, x200, x201, x202, x203, x204, x205, x206, x207, x208, x209, x210, x211, x212, x213, x214, x215, x216, x217, x218, x219, x220, x221, x222, x223, x224, x225, x226, x227, x228, x229, x230, x231, x232, x233, x234, x235, x236, x237, x238, x239, x240, x241, x242, x243, x244, x245, x246, x247, x248, x249, u250, u251, u252, u253, u254, u255, u256, u257, u258, u259, u260, u261, u262, u263, u264, u265, u266, u267, u268], []⟩ w') :
    (blkS 2).wp Tryd.prog Q0 ⟨#[u0, u1, u2, .slice (some ⟨g6, 0, none⟩) N cap6, .slice (some ⟨gv, 0, none⟩) 8 8, .slice (some ⟨gk, 0, none⟩) 64 capk, .slice (some ⟨gw, 0, none⟩) 64 64, .int .i64 0, u8, u9, u10, u11, u12, u13, u14, u15, u16, u17, u18, u19, u20, u21, u22, u23, u24, u25, u26, u27, u28, u29, u30, u31, u32, u33, u34, u35, u36, u37, u38, u39, u40, u41, u42, u43, u44, u45, u46, u47, u48, u49, u50, u51, u52, u53, u54, u55, u56, u57, u58, u59, u60, u61, u62, u63, u64, u65, u66, u67, u68, u69, u70, u71, u72, u73, u74, u75, u76, u77, u78, u79, u80, u81, u82, u83, u84, u85, u86, u87, u88, u89, u90, u91, u92, u93, u94, u95, u96, u97, u98, u99, u100, u101, u102, u103, u104, u105, u106, u107, u108, u109, u110, u111, u112, u113, u114, u115, u116, u117, u118, u119, u120, u121, u122, u123, u124, u125, u126, u127, u128, u129, u130, u131, u132, u133, u134, u135, u136, u137, u138, u139, u140, u141, u142, u143, u144, u145, u146, u147, u148, u149, u150, u151, u152, u153, u154, u155, u156, u157, u158, u159, u160, u161, u162, u163, u164, u165, u166, u167, u168, u169, u170, u171, u172, u173, u174, u175, u176, u177, u178, u179, u180, u181, u182, u183, u184, u185, u186, u187, u188, u189, u190, u191, u192, u193, u194, u195, u196, u197, u198, u199, u200, u201, u202, u203, u204, u205, u206, u207, u208, u209, u210, u211, u212, u213, u214, u215, u216, u217, u218, u219, u220, u221, u222, u223, u224, u225, u226, u227, u228, u229, u230, u231, u232, u233, u234, u235, u236, u237, u238, u239, u240, u241, u242, u243, u244, u245, u246, u247, u248, u249, u250, u251, u252, u253, u254, u255, u256, u257, u258, u259, u260, u261, u262, u263, u264, u265, u266, u267, u268], []⟩ w := by
  have HX := Lib.hid hexit
  clear hexit
  conv => arg 2; whnf
  have HA := Lib.hid hA
  have HPAD := Lib.hid hpad
  have HND := Lib.hid hND
  have HRS0 := Lib.hid hrs
  have HL0 := Lib.hid hlow
  have HB0 := Lib.hid hB
  clear hA hpad hND hrs hlow
  conv => arg 4; dsimp only
  go_wp2_with fail
  go_loopw [7] (fun v wr => ∃ (k m : Nat) (V : EightW) (X : List Nat), v = .int .i64 m ∧ m = 64 * k ∧ m ≤ N ∧ V = blocks k V0 P ∧ LowE V ∧ B ≤ wr.heap.size ∧ RS W0 B g6 gv gk gw D (vL V) X wr) (fun i _ => N - (intOf i).toNat)
  case atStart => exact ⟨0, 0, V0, X, rfl, rfl, by omega, rfl, HL0.out, hB, HRS0.out⟩
  case round =>
    clear hB HRS0
    obtain ⟨k, m, V, X, rfl, hmk, hmN, hV, hlow, hwB, hrs⟩ := hrel
    by_cases hlt : m < N
    · have HRS := Lib.hid hrs
      have HV := Lib.hid hV
      have HM := Lib.hid hmk
      have HLOW := Lib.hid hlow
      clear hrs hV hlow
      have hm64 : m + 64 ≤ N := by omega
      clear hmk
      obtain ⟨blk, hblk⟩ : ∃ l, (P.drop m).take 64 = l := ⟨_, rfl⟩
      have hbg : ∀ i, i < 64 → ∃ b : UInt8, D[m + i]? = some b ∧ blk.getD i 0 = b.toNat := fun i hi => by
        rw [← hblk]
        exact blk_get D _ HPAD.out m i hi (by have := HND.out; omega)
      have hbl : blk.length = 64 := by
        rw [← hblk, ← HPAD.out, List.length_take, List.length_drop, List.length_map, ← HND.out]
        omega
      have hb8 : ∀ x ∈ blk, x < 256 := by
        rw [← hblk, ← HPAD.out]
        intro x hx
        obtain ⟨b, _, rfl⟩ := List.mem_map.1 (List.mem_of_mem_drop (List.mem_of_mem_take hx))
        exact b.toNat_lt
      have HBG := Lib.hid hbg
      have HF := Lib.hid (fun t => wsL_first blk hbl t)
      have HNX := Lib.hid (wsL_next blk hbl)
      have HWL := Lib.hid (wsL_length blk hbl)
      have HWLow := Lib.hid (wsL_low blk hb8)
      have HBLK := Lib.hid hblk
      clear hblk hbg hbl hb8
      obtain ⟨WS, hWS⟩ : ∃ l, wsL blk = l := ⟨_, rfl⟩
      rw [hWS] at HF HNX HWL HWLow
      have HWS := Lib.hid hWS
      clear hWS
      go_upto_block 4 with fail
      refine sum_words HA.out hwB HRS.out hm64 hN HBG.out HF.out HNX.out HWL.out HWLow.out _ ?_
      intro w4 x8 x9 x10 x11 x50 x51 x52 x53 x54 x55 x56 x57 x58 x59 x60 x61 x62 x63 x64 x65 x66 x67 x68 x69 x70 x71 x72 x73 x74 x75 x76 x77 x78 x79 x80 x81 x82 x83 x84 x85 x86 x87 x88 x89 x90 x91 x92 x93 x94 x95 x96 x97 x98 x99 x100 x101 x102 x103 x104 x105 x106 x107 x108 x109 x110 x111 x112 x113 x114 x115 x116 x117 x118 x119 x120 x121 x122 x123 x124 x125 x126 x127 x128 x129 x130 x131 x132 x133
      rintro ⟨hrs4, hwB4⟩
      have HRW := Lib.hid hrs4
      clear hrs4
      go_upto_region 20 with fail
      obtain ⟨i0, hi, hz0, hz1, hz2⟩ := info_parts info32
      have hvc : ∀ (j : Nat) (u : Value), (vals32 (vL V))[j]? = some u → (w4.alloc (.cells #[] 135)).cell? ((⟨gv, 0, none⟩ : Addr).add j) = some u := fun j u hj => by
        have h1 := cell_of_row w4 gv j _ _ _ HRW.out.v
        have hlt : gv < w4.heap.size := (Array.getElem?_eq_some_iff.1 HRW.out.v).1
        have h2 := ((Below.refl w4.heap.size w4).alloc (Nat.le_refl _) (.cells #[] 135)).cell (p := ⟨gv, j, none⟩) hlt
        rw [show (⟨gv, 0, none⟩ : Addr).add j = ⟨gv, j, none⟩ by cases j <;> simp [Addr.add], h2, h1]
        simpa using hj
      have hvo : ∀ u ∈ vals32 (vL V), u.oneCell' = true := by
        intro u hu
        simp only [vals32, List.mem_map] at hu
        obtain ⟨x, _, rfl⟩ := hu
        rfl
      have HVC := Lib.hid hvc
      have HVO := Lib.hid hvo
      clear hvc hvo
      go_upto_block 6 with (at_builtin; refine wpList_append_lies _ rfl (.tmp 134) (.tmp 135) 162 rfl w4.heap.size 135 i0 (.int .u32 0) 1 4 Tryd.underlying162 hi hz0 hz1 hz2 rfl (by decide) _ 0 [] rfl (ownsRow_empty w4 135 w4.heap.size (Nat.le_refl _)) ⟨gv, 0, none⟩ 8 8 (vals32 (vL V)) rfl rfl HVC.out HVO.out (by decide) (by unfold maxLen; omega) (by omega) (by simp) _ rfl ?_; intro g1 cap1 w3 hown1 hgrow1 hat hlt1)
      have hb3 := ((Below.refl w4.heap.size w4).alloc (Nat.le_refl _) (.cells #[] 135)).grown hgrow1 (by simp) (own_base (ownsRow_empty w4 135 w4.heap.size (Nat.le_refl _)))
      have HWAS := Lib.hid (own_cells32 (n := 0 + 8) (xs := vL V) hown1)
      have HR3 := Lib.hid (HRW.out.kept hb3 hwB4)
      have hw3B := Nat.le_trans hwB4 hb3.size
      have HG1 := Lib.hid (show gv ≠ g1 by
        have h1 := own_base hown1 g1 rfl
        have hlt : gv < w4.heap.size := (Array.getElem?_eq_some_iff.1 HRW.out.v).1
        omega)
      clear hown1 hgrow1 hat hb3 hlt1 hi hz0 hz1 hz2
      refine sum_rounds HA.out HG1.out hw3B HWL.out HLOW.out HR3.out HWAS.out _ ?_
      intro w7 x13 x14 x15 x16 x17 x18 x137 x138 x139 x140 x141 x142 x143 x144 x145 x146 x147 x148 x149 x150 x151 x152 x153 x154 x155 x156 x157 x158 x159 x160 x161 x162 x163 x164 x165 x166 x167 x168 x169 x170 x171 x172 x173 x174 x175 x176 x177 x178 x179 x180 x181 x182 x183 x184 x185 x186 x187 x188 x189 x190 x191 x192 x193 x194 x195 x196 x197 x198 x199 x200 x201 x202 x203 x204 x205 x206 x207 x208 x209 x210 x211 x212 x213 x214 x215 x216 x217 x218 x219 x220 x221 x222 x223 x224 x225 x226 x227 x228 x229 x230 x231 x232 x233
      rintro ⟨hrs7, hys7, hwB7, hlow7⟩
      have HR7 := Lib.hid hrs7
      have HY7 := Lib.hid hys7
      have HL7 := Lib.hid hlow7
      clear hrs7 hys7 hlow7
      go_upto_block 10 with fail
      refine sum_adds HA.out HG1.out hwB7 HR7.out HY7.out _ ?_
      intro w8 x19 x234 x235 x236 x237 x238 x239 x240 x241 x242 x243 x244 x245 x246 x247 x248 x249
      rintro ⟨hrs8, hwB8⟩
      have HR8 := Lib.hid hrs8
      clear hrs8
      go_wp2_with fail
      go_roundw
      case rel =>
        refine ⟨k + 1, m + 64, addE V (steps V kL WS), WS, by go_num, ?_, hm64, ?_, addE_low _ _, hwB8, HR8.out⟩
        · have := HM.out
          omega
        · rw [blocks_succ, onBlock_add, ← HV.out, ← HM.out, HBLK.out, ← HWS.out]
          rfl
      case measure => simp [intOf]; omega
    · obtain rfl : m = N := by omega
      have hk : k = m / 64 := by omega
      have HR := Lib.hid hrs
      have HQ := Lib.hid (show V = blocks (m / 64) V0 P by rw [← hk]; exact hV)
      have HLW := Lib.hid hlow
      clear hrs hmk hV hlow hk
      go_wp2_with fail
      refine HX.out _ _ _ _ _ _ _ _ _ _ _ _ _ _ _ _ _ _ _ _ _ _ _ _ _ _ _ _ _ _ _ _ _ _ _ _ _ _ _ _ _ _ _ _ _ _ _ _ _ _ _ _ _ _ _ _ _ _ _ _ _ _ _ _ _ _ _ _ _ _ _ _ _ _ _ _ _ _ _ _ _ _ _ _ _ _ _ _ _ _ _ _ _ _ _ _ _ _ _ _ _ _ _ _ _ _ _ _ _ _ _ _ _ _ _ _ _ _ _ _ _ _ _ _ _ _ _ _ _ _ _ _ _ _ _ _ _ _ _ _ _ _ _ _ _ _ _ _ _ _ _ _ _ _ _ _ _ _ _ _ _ _ _ _ _ _ _ _ _ _ _ _ _ _ _ _ _ _ _ _ _ _ _ _ _ _ _ _ _ _ _ _ _ _ _ _ _ _ _ _ _ _ _ _ _ _ _ _ _ _ _ _ _ _ _ _ _ _ _ _ ⟨X, ?_, ?_, hwB⟩
      · rw [← HQ.out]; exact HR.out
      · rw [← HQ.out]; exact HLW.out

end Go.Proofs.YtdgaoebjbhomdaaDoor.Sha

namespace Go.Proofs.YtdgaoebjbhomdaaDoor.Sha
open Go.RowKit

def sliceLen : Value → Nat
  | .slice _ n _ => n
  | _ => 0

theorem news_one8 (w : World) (b : UInt8) (t : TypeId) : ∀ (j : Nat) (c : UInt8), [b][j]? = some c → (w.alloc (.cells #[.int .u8 (b.toNat : Int)] t)).cell? ((⟨w.heap.size, 0, none⟩ : Addr).add j) = some (.int .u8 (c.toNat : Int)) := by
  intro j c hj
  match j, hj with
  | 0, hj => simp at hj; subst hj; simp [Addr.add]

theorem first_state {W0 w7 W8 w6 : World} {B g6 gv gk gw N cap6 : Nat} {D : List UInt8} (hO : OwnB B (.slice (some ⟨g6, 0, none⟩) N cap6) N D w7) (hv : w7.heap[gv]? = some (.cells (vals32 (vL h0)).toArray 135 (0, 0)))
    (hB : Below B W0 w7) (hk : Dig32 w7 gk kL) (hgvB : B ≤ gv) (hgw : w7.heap.size = gw) (hW8 : w7.alloc (.cells (vals32 (List.replicate 64 0)).toArray 135) = W8) (hO6 : ∃ cap, gv = w6.heap.size ∧ OwnB B (.slice (some ⟨g6, 0, none⟩) N cap) N D w6) :
    RS W0 B g6 gv gk gw D (vL h0) (List.replicate 64 0) W8 ∧ Apart g6 gv gk gw ∧ N = D.length ∧ B ≤ gv ∧ B ≤ W8.heap.size := by
  subst hW8 hgw
  have hs7 : gv < w7.heap.size := (Array.getElem?_eq_some_iff.1 hv).1
  obtain ⟨g, cap, cur, fz, hvv, hBg, hgr, hfz, hncap, hcap, hcs, hxl, hcells⟩ := hO
  obtain ⟨c6, hgv6, g', cap', cur', fz', hvv', hBg', hgr', _⟩ := hO6
  injection hvv with e1 e2 e3
  injection e1 with e1
  injection e1 with e1 _ _
  subst e1
  injection hvv' with e1 e2 e3
  injection e1 with e1
  injection e1 with e1 _ _
  subst e1
  have hg6 : g6 < w6.heap.size := (Array.getElem?_eq_some_iff.1 hgr').1
  have hg7 : g6 < w7.heap.size := (Array.getElem?_eq_some_iff.1 hgr).1
  have hk0 := hk 0 1116352408 rfl
  have hgk : gk < w7.heap.size := block_lt_of_cell hk0
  have hal : Below w7.heap.size w7 (w7.alloc (.cells (vals32 (List.replicate 64 0)).toArray 135)) := (Below.refl _ _).alloc (Nat.le_refl _) _
  refine ⟨⟨fun i b hi => ?_, (hal.block gv hs7).trans hv, fun i x hx => Sha.kept hal (hk i x hx), heap_alloc_new _ _, hB.alloc (by omega) _, rfl, by simp, hgvB, by omega⟩, ⟨by omega, by omega, by omega, ?_, by omega⟩, hxl.symm, hgvB, by simp; omega⟩
  · refine Sha.kept hal ?_
    rw [cell_of_row w7 g6 i cur _ _ hgr]
    exact hcells i b hi
  · intro e
    subst e
    rw [cell_of_row w7 gk 0 _ _ _ hv] at hk0
    simp [vals32, vL, h0] at hk0

set_option maxRecDepth 100000 in
set_option maxHeartbeats 6400000 in
theorem sum_any (s : ByteArray) (hs : s.size ≤ 1000000000) (w : World) :
    Calls Tryd.prog 90 #[.string s] w fun e w' => e = .returned (.agg (valsB (shaS s)).toArray) ∧ Below w.heap.size w w' := by
  go_enter Tryd.func90, Tryd.ntmps90
  go_upto_region 1 with (fail)
  obtain ⟨Z, hZ⟩ : ∃ Z, (List.replicate 32 (Value.int .u8 0)).toArray = Z := ⟨_, rfl⟩
  have HZS := Lib.hid (show Z.size = 32 by rw [← hZ]; rfl)
  rw [show #[Value.int .u8 0, .int .u8 0, .int .u8 0, .int .u8 0, .int .u8 0, .int .u8 0, .int .u8 0, .int .u8 0, .int .u8 0, .int .u8 0, .int .u8 0, .int .u8 0, .int .u8 0, .int .u8 0, .int .u8 0, .int .u8 0,
    .int .u8 0, .int .u8 0, .int .u8 0, .int .u8 0, .int .u8 0, .int .u8 0, .int .u8 0, .int .u8 0, .int .u8 0, .int .u8 0, .int .u8 0, .int .u8 0, .int .u8 0, .int .u8 0, .int .u8 0, .int .u8 0] = (List.replicate 32 (Value.int .u8 0)).toArray from rfl, hZ]
  clear hZ
  have HG0 := Lib.hid (heap_alloc_new w (.cells Z 29))
  have HB0 := Lib.hid (show Below (w.heap.size + 1) (w.alloc (.cells Z 29)) (w.alloc (.cells Z 29)) from Below.refl _ _)
  have hz0 : (w.alloc (.cells Z 29)).heap.size = w.heap.size + 1 := by simp
  have HBW := Lib.hid (show Below w.heap.size w (w.alloc (.cells Z 29)) from (Below.refl _ _).alloc (Nat.le_refl _) _)
  generalize w.alloc (.cells Z 29) = W0 at HG0 HB0 hz0 HBW ⊢
  obtain ⟨cap, W1, hcv, hown, hb1, _⟩ := conv_text W0 s (by omega)
  have HO1 := Lib.hid hown
  have HB1 := Lib.hid hb1
  have HZ0 := Lib.hid hz0
  clear hown hb1 hz0
  go_wp2_with (at_builtin; refine wpList_append_ownB rfl (.tmp 23) (.tmp 24) rfl W0.heap.size _ s.size s.data.toList rfl (HO1.out.kept ((Below.refl _ _).alloc (Nat.le_refl _) _)) ⟨W1.heap.size, 0, none⟩ 1 1 [128] rfl rfl (news_one8 _ _ _) (by decide) (by omega) (Nat.le_trans HB1.out.size (by simp)) ?_; intro v2 w2 hown2 hb2)
  have HO2 := Lib.hid hown2
  have HB2 := Lib.hid (show Below (w.heap.size + 1) W0 w2 by
    rw [← HZ0.out]
    exact (HB1.out.alloc HB1.out.size (.cells #[.int .u8 128] 5)).trans hb2)
  obtain ⟨g2, cap2, hv2⟩ : ∃ g cap, v2 = .slice (some ⟨g, 0, none⟩) (s.size + 1) cap := by
    obtain ⟨g, c, _, _, hv, _⟩ := hown2
    exact ⟨g, c, hv⟩
  subst hv2
  have hwz : W0.heap.size = w.heap.size + 1 := HZ0.out
  clear hown2 hb2 hcv
  obtain ⟨p, hp⟩ : ∃ p : Nat, (119 - s.size % 64) % 64 = p := ⟨_, rfl⟩
  have HP := Lib.hid hp
  have hp63 : p ≤ 63 := by omega
  clear hp
  try rw [hwz]
  have HWZ := Lib.hid hwz
  clear hwz
  go_wp2_with fail
  go_loopw [3] (fun v wr => ∃ (j g cap : Nat), v = .slice (some ⟨g, 0, none⟩) (s.size + 1 + j) cap ∧ j ≤ p ∧ OwnB (w.heap.size + 1) v (s.size + 1 + j) (s.data.toList ++ [128] ++ List.replicate j 0) wr ∧ Below (w.heap.size + 1) W0 wr) (fun v _ => s.size + 65 - sliceLen v)
  case atStart => exact ⟨0, g2, cap2, rfl, by omega, by rw [← HWZ.out]; simpa using HO2.out, HB2.out⟩
  case round =>
    obtain ⟨j, g, cap, rfl, hj, hown, hbel⟩ := hrel
    have HO := Lib.hid hown
    have HB := Lib.hid hbel
    have hbase : w.heap.size + 1 ≤ wr.heap.size := by
      have := hbel.size
      have := HWZ.out
      omega
    clear hown hbel
    by_cases hlt : j < p
    · have hne : (((s.size + 1 + j : Nat) : Int) % 64 == 56) = false := by
        have := HP.out
        simp
        omega
      have hne2 : (((s.size + 1 + j : Nat) : Int) % 64 != 56) = true := by
        have := HP.out
        simp
        omega
      go_wp2_with (at_builtin; refine wpList_append_ownB rfl (.tmp 30) (.tmp 31) rfl (w.heap.size + 1) _ (s.size + 1 + j) (s.data.toList ++ [128] ++ List.replicate j 0) rfl (HO.out.kept ((Below.refl _ _).alloc (Nat.le_refl _) _)) ⟨wr.heap.size, 0, none⟩ 1 1 [0] rfl rfl (news_one8 _ _ _) (by decide) (by omega) (Nat.le_trans hbase (by simp)) ?_; intro v3 w3 hown3 hb3)
      have HO3 := Lib.hid hown3
      have HB3 := Lib.hid ((HB.out.alloc hbase (.cells #[.int .u8 0] 5)).trans hb3)
      obtain ⟨g3, cap3, hv3⟩ : ∃ g cap, v3 = .slice (some ⟨g, 0, none⟩) (s.size + 1 + j + 1) cap := by
        obtain ⟨g, c, _, _, hv, _⟩ := hown3
        exact ⟨g, c, hv⟩
      subst hv3
      clear hown3 hb3 hne hne2
      go_wp2_with fail
      go_roundw
      case rel =>
        have h := HO3.out
        have h' : OwnB (w.heap.size + 1) (.slice (some ⟨g3, 0, none⟩) (s.size + 1 + (j + 1)) cap3) (s.size + 1 + (j + 1)) (s.data.toList ++ [128] ++ List.replicate (j + 1) 0) w3 := by
          rw [show s.size + 1 + (j + 1) = s.size + 1 + j + 1 by omega, List.replicate_succ']
          simpa using h
        first
          | exact ⟨j + 1, g3, cap3, rfl, by omega, h', HB3.out⟩
          | ((repeat apply Exists.intro)
             exact ⟨⟨j + 1, g3, cap3, rfl, by omega, h', HB3.out⟩, rfl⟩)
      case measure => simp [sliceLen]; omega
    · obtain rfl : p = j := by omega
      have hne : (((s.size + 1 + p : Nat) : Int) % 64 == 56) = true := by
        have := HP.out
        simp
        omega
      have hne2 : (((s.size + 1 + p : Nat) : Int) % 64 != 56) = false := by
        have := HP.out
        simp
        omega
      go_wp2_with fail
      rw [show (s.size : Int) * 8 = ((s.size * 8 : Nat) : Int) by omega]
      refine (Digit.refEight_any (s.size * 8) _ (by omega)).mono ?_
      rintro e w4 ⟨rfl, hb4⟩
      have h8l : (Digit.eightL (s.size * 8)).length = 8 := Digit.eightL_len _
      obtain ⟨E, hE⟩ : ∃ E, Digit.eightL (s.size * 8) = E := ⟨_, rfl⟩
      rw [hE] at h8l
      rw [hE]
      have HE := Lib.hid hE
      have HB4 := Lib.hid (HB.out.trans (hb4.mono hbase))
      have HO4 := Lib.hid (HO.out.kept hb4)
      clear hE hb4 hne hne2 hlt hj
      obtain ⟨cape, W5, hcv, howne, hb5, hcells5⟩ := conv_text w4 ⟨E.toArray⟩ (by rw [size_mk, h8l]; decide)
      rw [size_mk, h8l] at hcv
      have hsz4 : w.heap.size + 1 ≤ w4.heap.size := by
        have := HB4.out.size
        have := HWZ.out
        omega
      have HB5 := Lib.hid (HB4.out.trans (hb5.mono hsz4))
      have HO5 := Lib.hid (HO4.out.kept hb5)
      have HC5 := Lib.hid hcells5
      have hsz5 := Nat.le_trans hsz4 hb5.size
      clear howne hb5 hcells5
      go_upto_region 5 with (at_builtin; refine wpList_append_ownB rfl (.tmp 33) (.tmp 39) rfl (w.heap.size + 1) _ (s.size + 1 + p) (s.data.toList ++ [128] ++ List.replicate p 0) rfl HO5.out ⟨w4.heap.size, 0, none⟩ 8 cape E rfl h8l HC5.out (by decide) (by omega) hsz5 ?_; intro v6 w6 hown6 hb6)
      have HO6 := Lib.hid hown6
      have HB6 := Lib.hid (HB5.out.trans hb6)
      obtain ⟨g6, cap6, hv6⟩ : ∃ g cap, v6 = .slice (some ⟨g, 0, none⟩) (s.size + 1 + p + 8) cap := by
        obtain ⟨g, c, _, _, hv, _⟩ := hown6
        exact ⟨g, c, hv⟩
      subst hv6
      clear hown6 hb6 hcv
      have HPAD := Lib.hid (show (s.data.toList ++ [128] ++ List.replicate p 0 ++ E).map UInt8.toNat = padL (natsOf s) by
        rw [← HE.out, ← HP.out, padL, natsOf_length]
        simp only [List.map_append, List.map_replicate, eightL_nats, List.map_cons, List.map_nil]
        rfl)
      obtain ⟨D, hD⟩ : ∃ D, s.data.toList ++ [128] ++ List.replicate p 0 ++ E = D := ⟨_, rfl⟩
      rw [hD] at HO6 HPAD
      obtain ⟨N, hN⟩ : ∃ N, s.size + 1 + p + 8 = N := ⟨_, rfl⟩
      rw [hN] at HO6
      rw [hN]
      have hNs : N ≤ 2000000000 := by omega
      have hN64 : N % 64 = 0 := by have := HP.out; omega
      clear hD hN
      go_wp2_with fail
      obtain ⟨gv, hgv⟩ : ∃ g, w6.heap.size = g := ⟨_, rfl⟩
      have hgvB : w.heap.size + 1 ≤ gv := by
        have := HB6.out.size
        have := HWZ.out
        omega
      refine (cubes_any _).mono ?_
      rintro e w7 ⟨gk, capk, rfl, hk7, hb7⟩
      have hv7 : w7.heap[gv]? = some (.cells (vals32 (vL h0)).toArray 135 (0, 0)) := by
        rw [← hgv]
        exact (hb7.block _ (by simp)).trans (heap_alloc_new _ _)
      have hs7 : gv < w7.heap.size := (Array.getElem?_eq_some_iff.1 hv7).1
      have hB7 : Below (w.heap.size + 1) W0 w7 := (HB6.out.alloc (by omega) _).trans (hb7.mono (by simp; omega))
      have hO7 : OwnB (w.heap.size + 1) (.slice (some ⟨g6, 0, none⟩) N cap6) N D w7 := ((HO6.out.kept ((Below.refl _ _).alloc (Nat.le_refl _) _)).kept hb7)
      obtain ⟨gw, hgw⟩ : ∃ g, w7.heap.size = g := ⟨_, rfl⟩
      obtain ⟨W8, hW8⟩ : ∃ W, w7.alloc (.cells (vals32 (List.replicate 64 0)).toArray 135) = W := ⟨_, rfl⟩
      have HR8 := Lib.hid (show RS W0 (w.heap.size + 1) g6 gv gk gw D (vL h0) (List.replicate 64 0) W8 ∧ Apart g6 gv gk gw ∧ N = D.length ∧ w.heap.size + 1 ≤ gv ∧ w.heap.size + 1 ≤ W8.heap.size from
        first_state hO7 hv7 hB7 hk7 hgvB hgw hW8 (w6 := w6) ⟨cap6, hgv.symm, HO6.out⟩)
      rw [hgv]
      clear hv7 hs7 hB7 hO7 hk7 hb7
      obtain ⟨C8, hC8⟩ : ∃ C, (vals32 (List.replicate 64 0)).toArray = C := ⟨_, rfl⟩
      have hmk : ∀ w : World, (Instr.makeSlice 162 (.int .i64 64) (.int .i64 64)).run Tryd.prog w = .ok (.slice (some ⟨w.heap.size, 0, none⟩) 64 64) (w.alloc (.cells C8 135)) := fun w => by
        rw [← hC8]
        have h := run_make_row' (P := Tryd.prog) 162 135 (.int .u32 0) 4 Tryd.underlying162 info32 rfl .i64 .i64 64 (by decide) (by decide) w
        rw [show madeCells #[Value.int .u32 0] 64 = (vals32 (List.replicate 64 0)).toArray by kernel_rfl] at h
        exact h
      rw [hC8] at hW8
      have HC8 := Lib.hid hC8
      clear hC8
      go_upto_region 8 with fail
      try rw [hW8]
      try rw [hgw]
      clear hmk
      have HW8 := Lib.hid hW8
      have HGW := Lib.hid hgw
      have HGV := Lib.hid hgv
      clear hW8 hgw hgv
      obtain ⟨hR8, hA8, hND, hgvB', hW8B⟩ := HR8.out
      have HR := Lib.hid hR8
      have HA := Lib.hid hA8
      have HND := Lib.hid hND
      clear hR8 hA8 hND HR8
      go_upto_block 2 with fail
      refine sum_blocks HA.out hW8B hNs hN64 HND.out HPAD.out h0_low HR.out _ ?_
      intro w9 x7 x8 x9 x10 x11 x12 x13 x14 x15 x16 x17 x18 x19 x44 x45 x46 x47 x48 x49 x50 x51 x52 x53 x54 x55 x56 x57 x58 x59 x60 x61 x62 x63 x64 x65 x66 x67 x68 x69 x70 x71 x72 x73 x74 x75 x76 x77 x78 x79 x80 x81 x82 x83 x84 x85 x86 x87 x88 x89 x90 x91 x92 x93 x94 x95 x96 x97 x98 x99 x100 x101 x102 x103 x104 x105 x106 x107 x108 x109 x110 x111 x112 x113 x114 x115 x116 x117 x118 x119 x120 x121 x122 x123 x124 x125 x126 x127 x128 x129 x130 x131 x132 x133 x134 x135 x136 x137 x138 x139 x140 x141 x142 x143 x144 x145 x146 x147 x148 x149 x150 x151 x152 x153 x154 x155 x156 x157 x158 x159 x160 x161 x162 x163 x164 x165 x166 x167 x168 x169 x170 x171 x172 x173 x174 x175 x176 x177 x178 x179 x180 x181 x182 x183 x184 x185 x186 x187 x188 x189 x190 x191 x192 x193 x194 x195 x196 x197 x198 x199 x200 x201 x202 x203 x204 x205 x206 x207 x208 x209 x210 x211 x212 x213 x214 x215 x216 x217 x218 x219 x220 x221 x222 x223 x224 x225 x226 x227 x228 x229 x230 x231 x232 x233 x234 x235 x236 x237 x238 x239 x240 x241 x242 x243 x244 x245 x246 x247 x248 x249
      rintro ⟨X', hrs9, hlow9, hwB9⟩
      have HR9 := Lib.hid hrs9
      have HL9 := Lib.hid hlow9
      clear hrs9 hlow9
      obtain ⟨Y, hY⟩ : ∃ Y, row8 [] 32 = Y := ⟨_, rfl⟩
      have hy32 : 32 = Y.size := by rw [← hY]; rfl
      have hyone : Y.all (·.oneCell') = true := by rw [← hY]; simp [row8, valsB, Value.oneCell']
      have HIY := Lib.hid (show (Tryd.prog.info? 29).map (·.size) = some Y.size by rw [← hy32]; exact info_hash)
      have HYY := Lib.hid hY
      have HY32 := Lib.hid hy32
      clear hY hy32
      go_upto_block 12 with (first | (refine wpList_build_as rfl 29 _ rfl Y (by rw [← HYY.out]; kernel_rfl) ?_) | (refine wpList_store_row rfl 29 (.tmp 20) (.tmp 250) rfl w9.heap.size Y rfl rfl 29 _ (heap_alloc_new _ _) HIY.out HY32.out hyone ?_; rw [World.setRow_alloc_new]))
      have hgv9 := (Array.getElem?_eq_some_iff.1 HR9.out.v).1
      refine sum_bytes HL9.out (by simp; omega) (HR9.out.below.alloc (by omega) _) (Nat.ne_of_gt hgv9) hwB9 ((Below.heap_alloc _ _ _ hgv9).trans HR9.out.v) (by rw [HYY.out]; exact heap_alloc_new _ _) _ ?_
      intro w10 x21 x251 x252 x253 x254 x255 x256 x257 x258 x259 x260 x261 x262 x263 x264 x265 x266 x267
      rintro ⟨hrow, hbel, hwB10⟩
      have HROW := Lib.hid hrow
      have HBEL := Lib.hid hbel
      obtain ⟨H, hH⟩ : ∃ H, hashB (blocks (N / 64) h0 (padL (natsOf s))) = H := ⟨_, rfl⟩
      have HH := Lib.hid hH
      have hHL : H.length = 32 := by rw [← hH]; rfl
      rw [hH] at HROW
      clear hrow hbel hH hyone
      have hsz : (valsB H).toArray.size = 32 := by rw [valsB_size, hHL]
      have hone : (valsB H).toArray.all (·.oneCell') = true := by simp [valsB, Value.oneCell']
      obtain ⟨C, hC⟩ : ∃ C, (valsB H).toArray = C := ⟨_, rfl⟩
      rw [hC] at hsz hone HROW
      have HCC := Lib.hid hC
      have HZC := Lib.hid (show Z.size = C.size by rw [HZS.out, hsz])
      have HINF := Lib.hid (show (Tryd.prog.info? 29).map (·.size) = some C.size by rw [hsz]; exact info_hash)
      have HG10 := Lib.hid ((HBEL.out.block w.heap.size (Nat.lt_succ_self _)).trans HG0.out)
      clear hC hsz hHL
      go_wp2_with (first | (refine wpList_load_row rfl 29 (.tmp 20) rfl w9.heap.size rfl 29 C (0, 0) _ HROW.out Tryd.underlying29 rfl HINF.out ?_) | (refine wpList_store_row rfl 29 (.tmp 2) (.tmp 268) rfl w.heap.size C rfl rfl 29 Z HG10.out HINF.out HZC.out hone ?_))
      refine bodyPost_ret (results_cell_row (p := 2) (ty := 29) Tryd.results90 _ _ w.heap.size 29 C (0, 0) _ rfl (setRow_heap _ _ _ _ _ _ HG10.out) Tryd.underlying29 rfl HINF.out) rfl ⟨?_, ?_⟩
      · rw [← HCC.out, ← HH.out, shaS_eq, ← HPAD.out, List.length_map, HND.out]
      · exact below_setRow (HBW.out.trans (HBEL.out.mono (Nat.le_succ _))) (Nat.le_refl _) _

end Go.Proofs.YtdgaoebjbhomdaaDoor.Sha

namespace Go.Proofs.YtdgaoebjbhomdaaDoor.Sha
open Go.RowKit

theorem byte_at (S : ByteArray) (N j : Nat) (q : List UInt8) (h : S.data.toList = Digit.putL N ++ q) (hj : j < (Digit.putL N).length) (hs : j < S.size) (b : UInt8) (hb : (Digit.putL N)[j]? = some b) : S[j] = b := by
  have h1 : S.data.toList[j]? = some b := by rw [h, List.getElem?_append_left hj]; exact hb
  obtain ⟨_, h2⟩ := List.getElem?_eq_some_iff.1 h1
  rw [Array.getElem_toList] at h2
  exact h2

theorem rest_texts (S : ByteArray) (t r : List UInt8) (L : Nat) (h : S.data.toList = Digit.putTextL t ++ r) (hL : (Digit.putL t.length).length = L) :
    (S.extract L S.size).extract 0 t.length = ⟨t.toArray⟩ ∧ (S.extract L S.size).extract t.length (S.size - L) = ⟨r.toArray⟩ := by
  have hd : (S.extract L S.size).data.toList = t ++ r := by
    rw [Lib.extract_data, h, Digit.putTextL, List.append_assoc, List.drop_append_of_le_length (by omega), List.drop_of_length_le (by omega), List.nil_append, List.take_of_length_le]
    have : S.data.toList.length = S.size := by rw [Array.length_toList]; rfl
    rw [h, Digit.putTextL] at this
    simp at this
    simp
    omega
  have hsz : S.size - L = t.length + r.length := by
    have : S.data.toList.length = S.size := by rw [Array.length_toList]; rfl
    rw [h, Digit.putTextL] at this
    simp at this
    omega
  constructor
  · apply Digit.bytes_eq
    rw [Lib.extract_data, hd]
    simp
  · apply Digit.bytes_eq
    rw [Lib.extract_data, hd, hsz]
    simp

end Go.Proofs.YtdgaoebjbhomdaaDoor.Sha

namespace Go.Proofs.YtdgaoebjbhomdaaDoor.Sha
open Go.RowKit

/-- What the laws count of texts. -/
def totN (l : List ByteArray) : Nat := (l.map fun s => min s.size 16384 + 1).sum
theorem totN_snoc (l : List ByteArray) (s : ByteArray) : totN (l ++ [s]) = totN l + (min s.size 16384 + 1) := by simp [totN]
theorem totN_take (l : List ByteArray) (k : Nat) (s : ByteArray) (h : l[k]? = some s) : totN (l.take (k + 1)) = totN (l.take k) + (min s.size 16384 + 1) := by
  rw [List.take_add_one, h]
  exact totN_snoc _ _
theorem totN_small (l : List ByteArray) (h : totN l ≤ 16384) : l.length ≤ 16384 ∧ ∀ s ∈ l, s.size < 16384 := by
  induction l with
  | nil => simp
  | cons a l ih =>
    have e : totN (a :: l) = (min a.size 16384 + 1) + totN l := by simp [totN]
    rw [e] at h
    have hi := ih (by omega)
    have hl : l.length + 1 ≤ totN l + 1 := by
      clear ih hi h e
      induction l with
      | nil => simp [totN]
      | cons b l ih2 =>
        have e2 : totN (b :: l) = (min b.size 16384 + 1) + totN l := by simp [totN]
        rw [e2, List.length_cons]
        omega
    refine ⟨by rw [List.length_cons]; omega, ?_⟩
    intro s hs
    rcases List.mem_cons.1 hs with rfl | hs
    · omega
    · exact hi.2 s hs
theorem putText_len (l : List UInt8) : (Digit.putTextL l).length ≤ l.length + 10 := by
  have := Digit.putL_len l.length
  rw [Digit.putTextL, List.length_append]
  omega
theorem flat_len (l : List ByteArray) (h : ∀ s ∈ l, s.size < 16384) : (l.flatMap fun s => Digit.putTextL s.data.toList).length ≤ 11 * totN l := by
  induction l with
  | nil => simp
  | cons a l ih =>
    have e : totN (a :: l) = (min a.size 16384 + 1) + totN l := by simp [totN]
    have h1 := putText_len a.data.toList
    have h2 : a.data.toList.length = a.size := by rw [Array.length_toList]; rfl
    have h3 := h a (by simp)
    have h4 := ih fun s hs => h s (by simp [hs])
    rw [e, List.flatMap_cons, List.length_append]
    omega
theorem rowL_len (tag : ByteArray) (Q : List ByteArray) (ht : tag.size ≤ 16384) (h : totN Q ≤ 16384) : (rowL tag Q).length ≤ 200000 := by
  have h1 := putText_len tag.data.toList
  have h2 : tag.data.toList.length = tag.size := by rw [Array.length_toList]; rfl
  have h3 := flat_len Q (totN_small Q h).2
  unfold rowL
  rw [List.length_append]
  omega

theorem told_snoc (tag : ByteArray) (Q : List ByteArray) (k : Nat) (s : ByteArray) (h : Q[k]? = some s) :
    (ByteArray.mk (rowL tag (Q.take k)).toArray) ++ ⟨(Digit.putTextL s.data.toList).toArray⟩ = ⟨(rowL tag (Q.take (k + 1))).toArray⟩ := by
  rw [List.take_add_one, h]
  apply Digit.bytes_eq
  rw [ByteArray.data_append, Array.toList_append]
  exact (rowL_snoc tag (Q.take k) s).symm

/-- What is left of the told texts behind k of them. -/
def restL (Q : List ByteArray) (k : Nat) : List UInt8 := (Q.drop k).flatMap fun s => Digit.putTextL s.data.toList
theorem restL_at (Q : List ByteArray) (k : Nat) (s : ByteArray) (h : Q[k]? = some s) : restL Q k = Digit.putTextL s.data.toList ++ restL Q (k + 1) := by
  obtain ⟨hk, rfl⟩ := List.getElem?_eq_some_iff.1 h
  unfold restL
  rw [List.drop_eq_getElem_cons hk, List.flatMap_cons]
theorem rowL_rest (tag : ByteArray) (Q : List ByteArray) : rowL tag Q = Digit.putTextL tag.data.toList ++ restL Q 0 := rfl
theorem restL_len (Q : List ByteArray) (k : Nat) (h : totN Q ≤ 16384) : (restL Q k).length ≤ 200000 := by
  have h3 := flat_len Q (totN_small Q h).2
  have e : (Q.flatMap fun s => Digit.putTextL s.data.toList) = ((Q.take k).flatMap fun s => Digit.putTextL s.data.toList) ++ restL Q k := by
    unfold restL
    rw [← List.flatMap_append, List.take_append_drop]
  rw [e, List.length_append] at h3
  omega

end Go.Proofs.YtdgaoebjbhomdaaDoor.Sha

namespace Go.Proofs.YtdgaoebjbhomdaaDoor.Sha
open Go.RowKit

set_option maxRecDepth 100000 in
set_option maxHeartbeats 1600000 in
/-- The document's own Of: the sum of the told texts. -/
theorem refOf_any (tag : ByteArray) (v : Value) (P : List ByteArray) (w : World) (hT : Texts w v P) (ht : tag.size ≤ 70368744177664) (hm : ∀ s ∈ P, s.size ≤ 70368744177664) (hsum : (rowL tag P).length ≤ 1000000000) (hlen : P.length ≤ 140737488355328) :
    Calls Tryd.prog 69 #[.string tag, v] w fun e w' => e = .returned (.agg (valsB (shaS ⟨(rowL tag P).toArray⟩)).toArray) ∧ Below w.heap.size w w' := by
  obtain ⟨a, n, cap, hv, hn, hcells⟩ : ∃ a n cap, v = .slice a n cap ∧ P.length = n ∧ ∀ (i : Nat) (s : ByteArray), P[i]? = some s → ∃ g o, a = some ⟨g, o, none⟩ ∧ w.cell? ⟨g, o + i, none⟩ = some (.string s) := by
    rcases hT with ⟨a, cap, rfl, rfl⟩ | ⟨g, o, cap, rfl, _, hc⟩
    · exact ⟨a, 0, cap, rfl, rfl, fun i s h => by simp at h⟩
    · exact ⟨_, _, cap, rfl, rfl, fun i s h => ⟨g, o, rfl, hc i s h⟩⟩
  subst hv
  have HSUM := Lib.hid hsum
  have HM := Lib.hid hm
  have HC := Lib.hid hcells
  have HN := Lib.hid hn
  have hn0 : n ≤ 140737488355328 := by omega
  have HPT := Lib.hid (fun w => Digit.refPutText_any tag w ht)
  clear hsum hm hT hcells hn hlen
  go_enter Tryd.func69, Tryd.ntmps69
  go_upto_region 1 with (fail)
  obtain ⟨Z, hZ⟩ : ∃ Z, (List.replicate 32 (Value.int .u8 0)).toArray = Z := ⟨_, rfl⟩
  have HZS := Lib.hid (show Z.size = 32 by rw [← hZ]; rfl)
  rw [show #[Value.int .u8 0, .int .u8 0, .int .u8 0, .int .u8 0, .int .u8 0, .int .u8 0, .int .u8 0, .int .u8 0, .int .u8 0, .int .u8 0, .int .u8 0, .int .u8 0, .int .u8 0, .int .u8 0, .int .u8 0, .int .u8 0,
    .int .u8 0, .int .u8 0, .int .u8 0, .int .u8 0, .int .u8 0, .int .u8 0, .int .u8 0, .int .u8 0, .int .u8 0, .int .u8 0, .int .u8 0, .int .u8 0, .int .u8 0, .int .u8 0, .int .u8 0, .int .u8 0] = (List.replicate 32 (Value.int .u8 0)).toArray from rfl, hZ]
  clear hZ
  have hba : Below w.heap.size w (w.alloc (.cells Z 29)) := (Below.refl _ _).alloc (Nat.le_refl _) _
  have HG0 := Lib.hid (heap_alloc_new w (.cells Z 29))
  have HW := Lib.hid (show w.heap.size < (w.alloc (.cells Z 29)).heap.size by simp)
  have HBA := Lib.hid hba
  clear hba
  generalize w.alloc (.cells Z 29) = W0 at HG0 HBA HW ⊢
  go_wp2_with fail
  refine (HPT.out _).mono ?_
  rintro e w1 ⟨rfl, hb1⟩
  have HB1 := Lib.hid hb1
  clear hb1
  have hrow0 : ByteArray.mk (Digit.putTextL tag.data.toList).toArray = ⟨(rowL tag (P.take 0)).toArray⟩ := by
    rw [List.take_zero]
    simp [rowL]
  rw [hrow0]
  clear hrow0
  go_wp2_with fail
  go_loopw [5, 6] (fun al i wr => ∃ k : Nat, k ≤ n ∧ i = .int .i64 k ∧ al = .string ⟨(rowL tag (P.take k)).toArray⟩ ∧ Below W0.heap.size W0 wr) (fun _ i _ => n - (intOf i).toNat)
  case atStart => exact ⟨0, by omega, rfl, rfl, HB1.out⟩
  case round =>
    obtain ⟨k, hk, rfl, rfl, hbel⟩ := hrel
    have HB := Lib.hid hbel
    clear hbel
    by_cases hlt : k < n
    · obtain ⟨s, hs⟩ : ∃ s, P[k]? = some s := ⟨P[k]'(by rw [HN.out]; exact hlt), List.getElem?_eq_getElem _⟩
      obtain ⟨g, o, rfl, hcell⟩ := HC.out k s hs
      have hg := World.block_lt_of_cell? _ _ hcell
      have hcs : wr.cell? ⟨g, o + k, none⟩ = some (.string s) := by
        rw [HB.out.cell (show g < W0.heap.size from Nat.lt_trans hg HW.out), HBA.out.cell hg]
        exact hcell
      have hsm := HM.out s (List.mem_of_getElem? hs)
      have HT := Lib.hid (told_snoc tag P k s hs)
      have HPS := Lib.hid (fun w => Digit.refPutText_any s w hsm)
      have hrl := Nat.le_trans (rowL_le tag P k) HSUM.out
      have hrl2 := Nat.le_trans (rowL_le tag P (k + 1)) HSUM.out
      obtain ⟨A, hA⟩ : ∃ A : ByteArray, (⟨(rowL tag (P.take k)).toArray⟩ : ByteArray) = A := ⟨_, rfl⟩
      obtain ⟨D, hD⟩ : ∃ A : ByteArray, (⟨(Digit.putTextL s.data.toList).toArray⟩ : ByteArray) = A := ⟨_, rfl⟩
      have hAs : A.size ≤ 1000000000 := by rw [← hA, size_mk]; exact hrl
      have hDs : D.size ≤ 1000000000 := by
        rw [List.take_add_one, hs] at hrl2
        have hx := rowL_snoc tag (P.take k) s
        rw [show (some s).toList = [s] from rfl, hx, List.length_append] at hrl2
        rw [← hD, size_mk]
        omega
      rw [hA, hD] at HT
      rw [hD] at HPS
      rw [hA]
      have hk0 : (0 : Int) ≤ (k : Int) := by omega
      have hkn : (k : Int) < (n : Int) := by omega
      clear hs hcell hrl hrl2 hA hD hg hsm
      go_wp2_with fail
      refine (HPS.out _).mono ?_
      rintro e w3 ⟨rfl, hb3⟩
      have HB3 := Lib.hid (HB.out.trans (hb3.mono HB.out.size))
      clear hb3
      go_wp2_with fail
      go_roundw
      case rel =>
        first
          | exact ⟨k + 1, by omega, by go_num, by rw [HT.out], HB3.out⟩
          | ((repeat apply Exists.intro)
             exact ⟨⟨k + 1, by omega, by go_num, by rw [HT.out], HB3.out⟩, rfl⟩)
      case measure => simp [intOf]; omega
    · obtain rfl : n = k := by omega
      rw [List.take_of_length_le (Nat.le_of_eq HN.out)]
      have HSM := Lib.hid (fun w => sum_any ⟨(rowL tag P).toArray⟩ (by rw [size_mk]; exact HSUM.out) w)
      obtain ⟨T, hT⟩ : ∃ T : ByteArray, (⟨(rowL tag P).toArray⟩ : ByteArray) = T := ⟨_, rfl⟩
      rw [hT] at HSM
      rw [hT]
      have HTT := Lib.hid hT
      clear hT hk hlt
      go_wp2_with fail
      refine (HSM.out _).mono ?_
      rintro e w4 ⟨rfl, hb4⟩
      have HB4 := Lib.hid (HB.out.trans (hb4.mono HB.out.size))
      have HZ := Lib.hid ((HB4.out.block _ HW.out).trans HG0.out)
      clear hb4
      have hsz : (valsB (shaS T)).toArray.size = 32 := by rw [valsB_size]; rfl
      have hone : (valsB (shaS T)).toArray.all (·.oneCell') = true := by simp [valsB, Value.oneCell']
      obtain ⟨C, hC⟩ : ∃ C, (valsB (shaS T)).toArray = C := ⟨_, rfl⟩
      rw [hC] at hsz hone
      rw [hC]
      have HINF := Lib.hid (show (Tryd.prog.info? 29).map (·.size) = some C.size by rw [hsz]; exact info_hash)
      have HZC := Lib.hid (show Z.size = C.size by rw [HZS.out, hsz])
      have HCC := Lib.hid hC
      clear hC hsz
      go_wp2_with (refine wpList_store_row rfl 29 (.tmp 4) (.tmp 23) rfl w.heap.size C rfl rfl 29 Z HZ.out HINF.out HZC.out hone ?_)
      refine bodyPost_ret (results_cell_row (p := 4) (ty := 29) Tryd.results69 _ _ w.heap.size 29 C (0, 0) _ rfl (setRow_heap _ _ _ _ _ _ HZ.out) Tryd.underlying29 rfl HINF.out) rfl ⟨by rw [HTT.out, HCC.out], below_setRow (HBA.out.trans (HB4.out.mono (Nat.le_of_lt HW.out))) (Nat.le_refl _) _⟩

end Go.Proofs.YtdgaoebjbhomdaaDoor.Sha
