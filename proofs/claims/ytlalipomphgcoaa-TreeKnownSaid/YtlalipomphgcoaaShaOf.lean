/- The code's own: Of. -/
import Derived.Test.YtlalipomphgcoaaShaQ
import Derived.Test.YtlalipomphgcoaaBld
namespace Go.Proofs.Ytlalipomphgcoaa.Sha
open Go.RowKit

/-- A slice that holds these texts. -/
def Texts (w : World) (v : Value) (P : List ByteArray) : Prop :=
  (∃ a cap, v = .slice a 0 cap ∧ P = []) ∨ ∃ g o cap, v = .slice (some ⟨g, o, none⟩) P.length cap ∧ 0 < P.length ∧ ∀ (i : Nat) (s : ByteArray), P[i]? = some s → w.cell? ⟨g, o + i, none⟩ = some (.string s)
theorem Texts.kept {w w' : World} {v : Value} {P : List ByteArray} (h : Texts w v P) (hb : Below w.heap.size w w') : Texts w' v P := by
  rcases h with h | ⟨g, o, cap, hv, h0, hc⟩
  · exact Or.inl h
  · refine Or.inr ⟨g, o, cap, hv, h0, fun i s hs => ?_⟩
    rw [hb.cell (World.block_lt_of_cell? _ _ (hc i s hs))]
    exact hc i s hs

/-- The told texts of the tag and the parts. -/
def rowL (tag : ByteArray) (P : List ByteArray) : List UInt8 := Digit.putTextL tag.data.toList ++ P.flatMap fun s => Digit.putTextL s.data.toList
theorem rowL_snoc (tag : ByteArray) (P : List ByteArray) (s : ByteArray) : rowL tag (P ++ [s]) = rowL tag P ++ Digit.putTextL s.data.toList := by
  simp [rowL]
theorem rowL_le (tag : ByteArray) (P : List ByteArray) (k : Nat) : (rowL tag (P.take k)).length ≤ (rowL tag P).length := by
  have e : rowL tag P = rowL tag (P.take k) ++ (P.drop k).flatMap fun s => Digit.putTextL s.data.toList := by
    unfold rowL
    rw [List.append_assoc, ← List.flatMap_append, List.take_append_drop]
  rw [e, List.length_append]
  omega

theorem builder_kept {T e : TypeId} {B b : Nat} {bs : List Value} {w w' : World} (h : Lib.IsBuilder T e B b bs w) (hb : Below w.heap.size w w') : Lib.IsBuilder T e B b bs w' := by
  have one : ∀ p, Lib.BuilderAt T e B b p bs w → Lib.BuilderAt T e B b p bs w' := by
    intro p hp
    have hlt := hp.lt
    obtain ⟨hB, v, hbk, hown, hne⟩ := hp
    refine ⟨hB, v, (hb.block b hlt).trans hbk, ?_, hne⟩
    exact hown.kept (row := none) ⟨hb.os, hb.tape, hb.output, hb.size, fun k hk _ => hb.block k hk⟩ (by cases hv : v.ownBlock <;> simp)
  rcases h with h | h
  · exact Or.inl (one _ h)
  · exact Or.inr (one _ h)

theorem strCells_mk (l : List UInt8) : Lib.strCells ⟨l.toArray⟩ = Lib.byteCells l := by rw [Lib.strCells_eq]
theorem size_mk (l : List UInt8) : (ByteArray.mk l.toArray).size = l.length := by simp [ByteArray.size]

set_option maxRecDepth 100000 in
set_option maxHeartbeats 1600000 in
theorem code_of (tag : ByteArray) (v : Value) (P : List ByteArray) (w : World) (hT : Texts w v P) (ht : tag.size ≤ 70368744177664) (hm : ∀ s ∈ P, s.size ≤ 70368744177664) (hsum : (rowL tag P).length ≤ 140737488355232) (hlen : P.length ≤ 140737488355328) :
    Calls Try.prog 13 #[.string tag, v] w fun e w' => e = .returned (.agg (valsB (shaS ⟨(rowL tag P).toArray⟩)).toArray) ∧ Below w.heap.size w w' := by
  obtain ⟨a, n, cap, hv, hn, hcells⟩ : ∃ a n cap, v = .slice a n cap ∧ P.length = n ∧ ∀ (i : Nat) (s : ByteArray), P[i]? = some s → ∃ g o, a = some ⟨g, o, none⟩ ∧ w.cell? ⟨g, o + i, none⟩ = some (.string s) := by
    rcases hT with ⟨a, cap, rfl, rfl⟩ | ⟨g, o, cap, rfl, _, hc⟩
    · exact ⟨a, 0, cap, rfl, rfl, fun i s h => by simp at h⟩
    · exact ⟨_, _, cap, rfl, rfl, fun i s h => ⟨g, o, rfl, hc i s h⟩⟩
  subst hv
  have HSUM := Lib.hid hsum
  have HM := Lib.hid hm
  have HC := Lib.hid hcells
  have HN := Lib.hid hn
  have hn0 : n ≤ 140737488355328 := by omega
  clear hsum hm hT hcells hn hlen
  go_enter Try.func13, Try.ntmps13
  go_wp2_with fail
  obtain ⟨Z, hZ⟩ : ∃ Z, (List.replicate 32 (Value.int .u8 0)).toArray = Z := ⟨_, rfl⟩
  have HZS := Lib.hid (show Z.size = 32 by rw [← hZ]; rfl)
  rw [show #[Value.int .u8 0, .int .u8 0, .int .u8 0, .int .u8 0, .int .u8 0, .int .u8 0, .int .u8 0, .int .u8 0, .int .u8 0, .int .u8 0, .int .u8 0, .int .u8 0, .int .u8 0, .int .u8 0, .int .u8 0, .int .u8 0,
    .int .u8 0, .int .u8 0, .int .u8 0, .int .u8 0, .int .u8 0, .int .u8 0, .int .u8 0, .int .u8 0, .int .u8 0, .int .u8 0, .int .u8 0, .int .u8 0, .int .u8 0, .int .u8 0, .int .u8 0, .int .u8 0] = (List.replicate 32 (Value.int .u8 0)).toArray from rfl, hZ]
  clear hZ
  refine (Digit.putText_any tag _ ht).mono ?_
  rintro e w1 ⟨rfl, hb1⟩
  have hB0 : w.heap.size + 1 = (w.alloc (.cells Z 23)).heap.size := by simp
  have hfr := Lib.fresh_isBuilder 58 5 (w.alloc (.cells Z 23))
  rw [← hB0] at hfr
  have hbl1 := builder_kept hfr hb1
  have hbz1 : Below (w.heap.size + 1) (w.alloc (.cells Z 23)) w1 := (((Below.refl _ _).alloc (by simp) _).trans (hb1.mono (by simp)))
  have hs1 : w.heap.size + 1 ≤ w1.heap.size := by
    have := hbz1.size
    simp at this
    omega
  have hrow0 : (Digit.putTextL tag.data.toList).length ≤ (rowL tag P).length := by
    unfold rowL
    rw [List.length_append]
    omega
  have HWR := Lib.hid (Bld.write_any (w.heap.size + 1) (w.heap.size + 1) [] ⟨(Digit.putTextL tag.data.toList).toArray⟩ w1 hbl1 (by
    have := HSUM.out
    rw [size_mk, List.length_nil]
    omega) hs1)
  have HBZ1 := Lib.hid hbz1
  clear hfr hbl1 hbz1 hb1 hrow0 hB0
  go_wp2_with fail
  refine HWR.out.mono ?_
  rintro e w2 ⟨rfl, hat, hb2⟩
  have HAT := Lib.hid hat
  have HB2 := Lib.hid hb2
  clear hat hb2
  go_wp2_with fail
  go_loopw [13] (fun i wr => ∃ k : Nat, k ≤ n ∧ i = .int .i64 k ∧ Lib.IsBuilder 58 5 (w.heap.size + 1) (w.heap.size + 1) (Lib.byteCells (rowL tag (P.take k))) wr ∧ Below (w.heap.size + 1) (w.alloc (.cells Z 23)) wr) (fun i _ => n - (intOf i).toNat)
  case atStart => exact ⟨0, by omega, rfl, Or.inr (by
    have h := HAT.out
    rw [List.nil_append, strCells_mk] at h
    have e : rowL tag (P.take 0) = Digit.putTextL tag.data.toList := by simp [rowL]
    rw [e]
    exact h), HBZ1.out.trans HB2.out⟩
  case round =>
    obtain ⟨k, hk, rfl, hbld, hbel⟩ := hrel
    have HBLD := Lib.hid hbld
    have HBEL := Lib.hid hbel
    clear hbld hbel
    by_cases hlt : k < n
    · obtain ⟨s, hs⟩ : ∃ s, P[k]? = some s := ⟨P[k]'(by rw [HN.out]; exact hlt), List.getElem?_eq_getElem _⟩
      obtain ⟨g, o, rfl, hcell⟩ := HC.out k s hs
      have hsz := HM.out s (List.mem_of_getElem? hs)
      have hcs : wr.cell? ⟨g, o + k, none⟩ = some (.string s) := by
        have hg := World.block_lt_of_cell? _ _ hcell
        simp only at hg
        rw [HBEL.out.cell (show g < w.heap.size + 1 by omega)]
        have hc2 := ((Below.refl w.heap.size w).alloc (Nat.le_refl _) (.cells Z 23)).cell (p := ⟨g, o + k, none⟩) hg
        rw [hc2]
        exact hcell
      have HTK := Lib.hid (show rowL tag (P.take (k + 1)) = rowL tag (P.take k) ++ Digit.putTextL s.data.toList by
        rw [List.take_add_one, hs]
        exact rowL_snoc tag _ s)
      have hrl := rowL_le tag P (k + 1)
      have HPT := Lib.hid (fun w => Digit.putText_any s w hsz)
      have HRL := Lib.hid hrl
      have hk0 : (0 : Int) ≤ (k : Int) := by omega
      have hkn : (k : Int) < (n : Int) := by omega
      clear hs hcell hsz hrl
      go_wp2_with fail
      refine (HPT.out _).mono ?_
      rintro e w3 ⟨rfl, hb3⟩
      have hsw : w.heap.size + 1 ≤ wr.heap.size := by
        have := HBEL.out.size
        simp at this
        omega
      have HWR3 := Lib.hid (Bld.write_any (w.heap.size + 1) (w.heap.size + 1) (Lib.byteCells (rowL tag (P.take k))) ⟨(Digit.putTextL s.data.toList).toArray⟩ w3 (builder_kept HBLD.out hb3) (by
        have h1 := HSUM.out
        have h2 := HRL.out
        rw [HTK.out, List.length_append] at h2
        rw [size_mk, Lib.byteCells_length]
        omega) (Nat.le_trans hsw hb3.size))
      have HB3 := Lib.hid (hb3.mono hsw)
      clear hb3
      go_wp2_with fail
      refine HWR3.out.mono ?_
      rintro e w4 ⟨rfl, hat4, hb4⟩
      have HAT4 := Lib.hid hat4
      have HB4 := Lib.hid hb4
      clear hat4 hb4
      go_wp2_with fail
      go_roundw
      case rel => exact ⟨k + 1, by omega, by go_num, Or.inr (by
        have h := HAT4.out
        rw [strCells_mk, ← Lib.byteCells_append, ← HTK.out] at h
        exact h), (HBEL.out.trans HB3.out).trans HB4.out⟩
      case measure => simp [intOf]; omega
    · have hkn : k = n := by omega
      subst hkn
      have HB := HBLD.out
      rw [List.take_of_length_le (Nat.le_of_eq HN.out)] at HB
      have hsw : w.heap.size + 1 ≤ wr.heap.size := by
        have := HBEL.out.size
        simp at this
        omega
      have HST := Lib.hid (Try.Builder_String_any (w.heap.size + 1) (w.heap.size + 1) (rowL tag P) wr HB hsw)
      have HSM := Lib.hid (fun w => code_sum ⟨(rowL tag P).toArray⟩ (by rw [size_mk]; exact HSUM.out) w)
      obtain ⟨T, hT⟩ : ∃ T : ByteArray, (⟨(rowL tag P).toArray⟩ : ByteArray) = T := ⟨_, rfl⟩
      rw [hT] at HST HSM
      have HTT := Lib.hid hT
      clear HB hT
      go_wp2_with fail
      refine HST.out.mono ?_
      rintro e w3 ⟨rfl, hb3⟩
      have HB3 := Lib.hid hb3
      clear hb3
      go_wp2_with fail
      refine (HSM.out _).mono ?_
      rintro e w4 ⟨rfl, hb4⟩
      have HB4 := Lib.hid hb4
      clear hb4
      have hz : w4.heap[w.heap.size]? = some (.cells Z 23 (0, 0)) := by
        rw [HB4.out.block _ (Nat.lt_of_lt_of_le (Nat.lt_of_lt_of_le (Nat.lt_succ_self _) hsw) HB3.out.size), HB3.out.block _ (Nat.lt_succ_self _), HBEL.out.block _ (Nat.lt_succ_self _)]
        exact heap_alloc_new w _
      have hbw : Below w.heap.size w w4 := ((((Below.refl _ _).alloc (Nat.le_refl _) _).trans (HBEL.out.mono (Nat.le_succ _))).trans (HB3.out.mono (Nat.le_succ _))).trans (HB4.out.mono (Nat.le_trans (Nat.le_succ _) (Nat.le_trans hsw HB3.out.size)))
      have hsz : (valsB (shaS T)).toArray.size = 32 := by rw [valsB_size]; rfl
      have hone : (valsB (shaS T)).toArray.all (·.oneCell') = true := by simp [valsB, Value.oneCell']
      obtain ⟨C, hC⟩ : ∃ C, (valsB (shaS T)).toArray = C := ⟨_, rfl⟩
      rw [hC] at hsz hone
      rw [hC]
      have HCC := Lib.hid hC
      have HINF := Lib.hid (show (Try.prog.info? 23).map (·.size) = some C.size by rw [hsz]; exact info_hash)
      have hzs : Z.size = C.size := by rw [HZS.out, hsz]
      have HZ := Lib.hid hz
      have HBW := Lib.hid hbw
      clear hC hz hbw
      go_wp2_with (refine wpList_store_row rfl 23 (.tmp 4) (.tmp 22) rfl w.heap.size C rfl rfl 23 Z HZ.out HINF.out hzs hone ?_)
      refine bodyPost_ret (results_cell_row (p := 4) (ty := 23) Try.results13 _ _ w.heap.size 23 C (0, 0) _ rfl (setRow_heap _ _ _ _ _ _ HZ.out) Try.underlying23 rfl HINF.out) rfl ⟨by rw [HTT.out, HCC.out], below_setRow HBW.out (Nat.le_refl _) _⟩

end Go.Proofs.Ytlalipomphgcoaa.Sha
