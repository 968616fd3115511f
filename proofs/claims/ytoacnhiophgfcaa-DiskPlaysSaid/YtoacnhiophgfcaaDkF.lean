/- disk: Copy. -/
import Derived.Test.YtoacnhiophgfcaaDkE
import Derived.Deep.WholeRow
namespace Go.Proofs.Ytoacnhiophgfcaa.Dk
open Go.RowKit Go.Proofs.Ytoacnhiophgfcaa.Gr

theorem own_mono {P : Program} {α : Type} {K : Kind P α} {B C : Nat} {w : World} {v : Value} {L : List α} (h : K.Own B v L w) (hC : C ≤ B) : K.Own C v L w := by
  rcases h.2 with ⟨rfl, e⟩ | ⟨b, cp, cur, rfl, hb, r⟩
  · exact ⟨h.1, Or.inl ⟨rfl, e⟩⟩
  · exact ⟨h.1, Or.inr ⟨b, cp, cur, rfl, by omega, r⟩⟩
def zeroC : Array Value := (List.replicate 128 (Value.string ⟨#[]⟩) ++ [Value.slice none 0 0, Value.bool false, Value.int .i64 0, Value.int .i64 0]).toArray
theorem disk_zero : (Try.prog.info? 58).map (·.zero) = some (some (.agg zeroC)) := by kernel_rfl
theorem zero_run {P : Program} {t : TypeId} {z : Value} (h : (P.info? t).map (·.zero) = some (some z)) (w : World) : (zeroValue t).run P w = .ok z w := by
  cases hq : P.info? t with
  | none => simp [hq] at h
  | some i =>
    have hz : i.zero = some z := by simpa [hq] using h
    simp [zeroValue, typeInfo, hq, hz]
set_option maxRecDepth 100000 in
theorem zero_all : zeroC.size = 132 := by decide
theorem empty_own (B : Nat) (w : World) (hB : B ≤ w.heap.size) : KC.Own B (.slice (some ⟨w.heap.size, 0, none⟩) 0 0) [] (w.alloc (.cells #[] 61)) :=
  ⟨rfl, Or.inr ⟨w.heap.size, 0, #[], rfl, hB, heap_alloc_new _ _, Nat.le_refl _, Nat.zero_le _, rfl, rfl⟩⟩

theorem eql_nil {t : TypeId} (e : TypeId) (ht : Try.prog.underlying t = some (.slice e)) (w : World) (a : Option Addr) (n c : Nat) : (binOp .eql t (.slice a n c) (.slice none 0 0)).run Try.prog w = .ok (.bool a.isNone) w := Lib.run_eql_slice_nil w t e a n c 0 0 ht
set_option maxRecDepth 100000 in
set_option maxHeartbeats 1600000 in
theorem code_Clone (v : Value) (L : List Ch) (w : World) (hO : KC.Own 0 v L w) (hL : L.length ≤ 1000000000) :
    Calls Try.prog 37 #[v] w fun e w' => ∃ v', e = .returned v' ∧ KC.Own w.heap.size v' L w' ∧ Below w.heap.size w w' := by
  have heq := eql_nil 61 Try.underlying56
  rcases hO.form with ⟨rfl, rfl⟩ | ⟨l, cap, rfl, _, hl, hc⟩
  · clear hO hL
    go_enter Try.func37, Try.ntmps37
    go_wp2_with fail
    go_ret
    exact ⟨_, rfl, Kind.Own.nil _ _, Below.refl _ _⟩
  · have hb1 : Below w.heap.size w (w.alloc (.cells #[] 61)) := (Below.refl _ _).alloc (Nat.le_refl _) _
    have HB1 := Lib.hid hb1
    have HE := Lib.hid (empty_own w.heap.size w (Nat.le_refl _))
    have HA := Lib.hid (hO.reads.kept hb1)
    have hn : (([] : List Ch).length + L.length) * (KC.bytes + 1) ≤ 1099511627776 := by simp [KC]; omega
    have HN := Lib.hid hn
    have hs : w.heap.size ≤ (w.alloc (.cells #[] 61)).heap.size := by simp
    have HS := Lib.hid hs
    clear hO hl hc hb1 hn hs hL
    go_enter Try.func37, Try.ntmps37
    go_wp2_with (refine wpList_append_at (K := KC) rfl (.tmp 5) (.tmp 6) 56 rfl Try.underlying56 w.heap.size rfl HE.out _ L rfl HA.out HN.out HS.out ?_; intro v3 w4 hown3 hbb3)
    go_ret
    exact ⟨_, rfl, hown3, HB1.out.trans hbb3⟩

set_option maxRecDepth 100000 in
set_option maxHeartbeats 1600000 in
theorem code_Copy (g : Nat) (lv : Value) (S : St) (w : World) (h : DAt w g lv S) (hL : S.loose.length ≤ 1000000000) :
    Calls Try.prog 21 #[.pointer (some ⟨g, 0, none⟩)] w fun e w' => e = .returned (.pointer (some ⟨w.heap.size, 0, none⟩)) ∧ Below w.heap.size w w' ∧ ∃ lu, DAt w' w.heap.size lu S ∧ ∀ i, lu.ownBlock = some i → w.heap.size < i := by
  have hh := h.heap
  have HI : (Try.prog.info? 58).map (·.size) = some (S.vals lv).toArray.size := by
    rw [disk_info, List.size_toArray, vals_len h.now h.sure]
  have H1 : (S.vals lv).toArray.all (·.oneCell') = true := by
    refine Array.all_eq_true_iff_forall_mem.2 fun u hu => ?_
    rw [List.mem_toArray] at hu
    unfold St.vals at hu
    simp only [List.mem_append, List.mem_map, List.mem_cons, List.not_mem_nil, or_false] at hu
    rcases hu with ⟨s, _, rfl⟩ | ⟨s, _, rfl⟩ | rfl | rfl | rfl | rfl
    · rfl
    · rfl
    · rcases h.own.form with ⟨rfl, _⟩ | ⟨l, cap, rfl, _⟩ <;> rfl
    · rfl
    · rfl
    · rfl
  obtain ⟨C, hC⟩ : ∃ C, (S.vals lv).toArray = C := ⟨_, rfl⟩
  rw [hC] at hh HI H1
  have HH := Lib.hid hh
  have HI2 := Lib.hid HI
  have H12 := Lib.hid H1
  have HD := Lib.hid h
  have HLL := Lib.hid hL
  have HCC := Lib.hid hC
  clear hh HI H1 h hL hC
  have hz := zero_run disk_zero
  have hzs := zero_all
  generalize zeroC = Z at hz hzs
  have HSZ := Lib.hid (show Z.size = C.size by
    have := HI2.out
    rw [disk_info] at this
    injection this with this
    rw [hzs, this])
  clear hzs
  have HN := Lib.hid (heap_alloc_new w (.cells Z 58))
  go_enter Try.func21, Try.ntmps21
  go_upto_region 4 with (first | (refine wpList_load_row rfl 58 (.tmp 7) rfl g rfl 58 C (0, 0) _ HH.out Try.underlying58 rfl HI2.out ?_) | (refine wpList_store_row rfl 58 (.tmp 3) (.tmp 8) rfl w.heap.size C rfl rfl 58 Z HN.out HI2.out HSZ.out H12.out ?_))
  rw [World.setRow_alloc_new]
  have hb2 : Below w.heap.size w (w.alloc (.cells C 58)) := (Below.refl _ _).alloc (Nat.le_refl _) _
  have hn2 := heap_alloc_new w (.cells C 58)
  generalize w.alloc (.cells C 58) = w2 at hb2 hn2 ⊢
  have hd2 : DAt w2 g lv S := HD.out.kept (F := fun _ => False) (Frm.of_below hb2) id (fun _ _ => id)
  obtain ⟨n, hne⟩ : ∃ n, w.heap.size = n := ⟨_, rfl⟩
  rw [hne] at hb2 hn2
  rw [hne]
  have hc := hd2.cLoose
  have HB2 := Lib.hid hb2
  have HN2 := Lib.hid hn2
  have HC := Lib.hid (code_Clone lv S.loose w2 hd2.own HLL.out)
  have HW := Lib.hid (show w.heap.size = n from hne)
  clear hd2 hb2 hn2 HN HSZ H12 HI2 HH hz hne
  go_wp2_with fail
  refine HC.out.mono ?_
  rintro e w3 ⟨lu, rfl, hown3, hb3⟩
  have hlt := (Array.getElem?_eq_some_iff.1 HN2.out).1
  have hn3 : w3.heap[n]? = some (.cells (S.vals lv).toArray 58 (0, 0)) := by rw [HCC.out]; exact (hb3.block n hlt).trans HN2.out
  have hc3 := cell_row hn3 (vals_rest S lv HD.out.now HD.out.sure 0)
  have hf3 : w3.frozen? ⟨n, 128, none⟩ = false := by simp [World.frozen?, hn3]
  have hnl : ∀ i, lu.ownBlock = some i → n < i := fun i hi => by
    have := hown3.base i hi
    omega
  obtain ⟨ua, un, uc, rfl⟩ : ∃ a n c, lu = .slice a n c := by
    rcases hown3.form with ⟨h1, _⟩ | ⟨_, _, h1, _⟩
    · exact ⟨_, _, _, h1⟩
    · exact ⟨_, _, _, h1⟩
  have HL := Lib.hid (show Below n w (w3.setCell ⟨n, 128, none⟩ (.slice ua un uc)) from (HB2.out.trans (hb3.mono (by have := HB2.out.size; rw [HW.out] at this; exact this))).setCell (p := ⟨n, 128, none⟩) (Nat.le_refl _) _)
  have HDD : DAt (w3.setCell ⟨n, 128, none⟩ (.slice ua un uc)) n (.slice ua un uc) S := by
    refine ⟨?_, HD.out.now, HD.out.sure, ?_⟩
    · rw [vals_set (T := S) (lu := .slice ua un uc) _ hn3]
      · exact setRow_heap _ _ _ _ _ _ hn3
      · rw [set_rest lv HD.out.now HD.out.sure 0]
        rfl
    · have ho := own_mono hown3 (Nat.zero_le _)
      rcases ho.2 with ⟨e1, e⟩ | ⟨b, cp, cur, e1, hb, hc, r⟩
      · exact ⟨ho.1, Or.inl ⟨e1, e⟩⟩
      · refine ⟨ho.1, Or.inr ⟨b, cp, cur, e1, hb, ?_, r⟩⟩
        have := hnl b (by rw [e1]; rfl)
        rw [Below.heap_setCell _ _ _ _ (by show b ≠ n; omega)]
        exact hc
  have HX := Lib.hid HDD
  have HNL := Lib.hid hnl
  clear hown3 hb3 hlt hn3 hnl HDD HC HD HCC
  go_wp2_with fail
  go_ret
  rw [HW.out]
  exact ⟨rfl, HL.out, _, HX.out, HNL.out⟩
theorem code_Copy_nil (w : World) : Calls Try.prog 21 #[.pointer none] w fun e w' => e = .returned (.pointer none) ∧ w = w' := by
  go_enter Try.func21, Try.ntmps21
  go_wp2
  go_ret
  exact ⟨rfl, rfl⟩
end Go.Proofs.Ytoacnhiophgfcaa.Dk
