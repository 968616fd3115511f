/- disk: slices.DeleteFunc over loose changes, walked. -/
import Derived.Test.YtoacnhiophgfcaaDkE1
import Derived.Deep.Cut
namespace Go.Proofs.Ytoacnhiophgfcaa.Dk
open Go.RowKit Go.Proofs.Ytoacnhiophgfcaa.Gr

theorem change_zero : ∀ w, (zeroValue 61).run Try.prog w = .ok (.agg #[.int .i64 0, .int .i64 0, .bool false, .string ⟨#[]⟩]) w := Try.zeroValue61

set_option maxRecDepth 100000 in
set_option maxHeartbeats 3200000 in
theorem code_DeleteFunc (v : Value) (L : List Ch) (k b : Nat) (w : World) (hO : KC.Own 0 v L w) (hb : w.heap[b]? = some (.cells #[.int .i64 k] 3 (0, 0))) (hL : L.length ≤ 1000000000) :
    Calls Try.prog 32 #[v, .func (.func 33) #[] #[.pointer (some ⟨b, 0, none⟩)]] w fun e w' => ∃ v', e = .returned v' ∧ KC.Own 0 v' (keepF k L) w' ∧ Frm (fun i => v.ownBlock = some i) w w' ∧ ∀ i, v'.ownBlock = some i → v.ownBlock = some i := by
  have HI := Lib.hid (code_IndexFunc v L k b w hO.reads hb hL)
  have hle := idxN_le k L
  by_cases hf : idxN k L < L.length
  case neg =>
    have hi : idxI k L = -1 := by unfold idxI; rw [if_neg hf]
    rw [hi] at HI
    have HK := Lib.hid (keepF_none k L (by omega))
    have HO := Lib.hid hO
    clear hO hb hL hle hf hi
    go_enter Try.func32, Try.ntmps32
    go_wp2_with fail
    refine HI.out.mono ?_
    rintro e w1 ⟨rfl, hb1⟩
    have HB1 := Lib.hid hb1
    clear hb1
    go_wp2_with fail
    go_ret
    exact ⟨_, rfl, by rw [HK.out]; exact own_frm HO.out (F := fun _ => False) (Frm.of_below HB1.out) (fun _ _ => id), Frm.of_below HB1.out, fun _ h => h⟩
  case pos =>
    have hi : idxI k L = (idxN k L : Int) := by unfold idxI; rw [if_pos hf]
    rw [hi] at HI
    have HD := Lib.hid (DelA.start (k := k) (L := L) hf)
    obtain ⟨n, hn⟩ : ∃ n, L.length = n := ⟨_, rfl⟩
    have hform := hO.form
    rw [hn] at hform hf hL
    obtain ⟨l, cap, rfl, hlt0, hcap⟩ : ∃ l cap, v = .slice (some ⟨l, 0, none⟩) n cap ∧ l < w.heap.size ∧ n ≤ cap := by
      rcases hform with ⟨_, h0⟩ | ⟨l, cap, h1, _, h2, h3⟩
      · rw [h0] at hn; simp at hn; omega
      · exact ⟨l, cap, h1, h2, h3⟩
    have hlb : l ≠ b := by
      obtain ⟨cs, hc⟩ := own_type hO l rfl
      intro e
      rw [e, hb] at hc
      simp at hc
      exact absurd hc.2 (by decide)
    obtain ⟨i0, hi0⟩ : ∃ i0, idxN k L = i0 := ⟨_, rfl⟩
    rw [hi0] at HI HD hf
    have hi1 : (i0 : Int) < n := by omega
    have hi2 : ((i0 : Int) == -1) = false := by simp
    have hcapm : cap ≤ maxLen := by obtain ⟨_, _, _, _, _, h, _⟩ := own_block hO; exact h
    have HO := Lib.hid hO
    have HB := Lib.hid hb
    have HN := Lib.hid hn
    have HLB := Lib.hid hlb
    have HCM := Lib.hid hcapm
    have HLT := Lib.hid hlt0
    clear hform hi hle hO hb hn hlb hi0 hcapm hlt0
    go_enter Try.func32, Try.ntmps32
    go_wp2_with fail
    refine HI.out.mono ?_
    rintro e w1 ⟨rfl, hb1⟩
    have HF1 := Lib.hid (Frm.of_below (F := fun i => i = l) hb1)
    have HB1 := Lib.hid ((hb1.block b (Array.getElem?_eq_some_iff.1 HB.out).1).trans HB.out)
    have HO1 := Lib.hid (own_frm HO.out (F := fun _ => False) (Frm.of_below hb1) (fun _ _ => id))
    clear hb1 HI
    go_wp2_with fail
    go_loopw [5, 6] (fun iv jv wr => ∃ (i j : Nat) (A : List Ch), iv = .int .i64 i ∧ jv = .int .i64 j ∧ j ≤ n ∧ i ≤ n ∧ DelA k L A i j ∧ KC.Own 0 (.slice (some ⟨l, 0, none⟩) n cap) A wr ∧ wr.heap[b]? = some (.cells #[.int .i64 k] 3 (0, 0)) ∧ Frm (fun i => i = l) w wr) (fun _ jv _ => n - (intOf jv).toNat)
    case atStart => exact ⟨i0, i0 + 1, L, rfl, by go_num, by omega, by omega, HD.out, HO1.out, HB1.out, HF1.out⟩
    case round =>
      obtain ⟨i, j, A, rfl, rfl, hj, hin, hD, hOA, hbw, hfr⟩ := hrel
      by_cases hlt : j < n
      · have hlt2 : (j : Int) < (n : Int) := by omega
        have hx := List.getElem?_eq_getElem (show j < L.length by rw [HN.out]; exact hlt)
        obtain ⟨x, hxx⟩ : ∃ x, L[j]'(by rw [HN.out]; exact hlt) = x := ⟨_, rfl⟩
        rw [hxx] at hx
        have hij := hD.lt
        obtain ⟨cur, hgc, _, hlA, _, _, hr⟩ := own_block hOA
        have hrx := at_ch hr (hD.at_ hx)
        rw [Nat.zero_add] at hrx
        have HRX := Lib.hid hrx
        have hb2 : Below wr.heap.size wr (wr.alloc (.cells #[.int .i64 x.file, .int .i64 x.at_, .bool x.cut, .string x.s] 61)) := (Below.refl _ _).alloc (Nat.le_refl _) _
        have hp := heap_alloc_new wr (.cells #[.int .i64 x.file, .int .i64 x.at_, .bool x.cut, .string x.s] 61)
        have HOA := Lib.hid (own_frm hOA (F := fun _ => False) (Frm.of_below hb2) (fun _ _ => id))
        have HBW := Lib.hid ((hb2.block b (Array.getElem?_eq_some_iff.1 hbw).1).trans hbw)
        have HFR := Lib.hid (hfr.trans (Frm.of_below (F := fun i => i = l) hb2) (fun i hi => Or.inl hi))
        have HPL := Lib.hid (show wr.heap.size ≠ l by have := (Array.getElem?_eq_some_iff.1 hgc).1; omega)
        have HSK := Lib.hid (hD.skip hx)
        have HKP := Lib.hid (hD.keep hx)
        have HIN := Lib.hid (show i < n ∧ (i : Int) < n ∧ i + 1 ≤ n by omega)
        have hiw : (i : Int) ≤ 1000000000 := by omega
        have hjw : (j : Int) ≤ 1000000000 := by omega
        clear hxx hx hD hOA hbw hfr hgc hlA hr hrx hij hb2
        go_upto_region 8 with (refine wpList_load_mid rfl 61 (.tmp 24) rfl l (j * 4) rfl [.int .i64 x.file, .int .i64 x.at_, .bool x.cut, .string x.s] _ HRX.out Try.underlying61 rfl (by kernel_rfl) ?_)
        have HBX := Lib.hid (show b < (wr.alloc (.cells #[.int .i64 x.file, .int .i64 x.at_, .bool x.cut, .string x.s] 61)).heap.size from (Array.getElem?_eq_some_iff.1 HBW.out).1)
        have HPX := Lib.hid (show wr.heap.size < (wr.alloc (.cells #[.int .i64 x.file, .int .i64 x.at_, .bool x.cut, .string x.s] 61)).heap.size from (Array.getElem?_eq_some_iff.1 hp).1)
        generalize wr.alloc (.cells #[.int .i64 x.file, .int .i64 x.at_, .bool x.cut, .string x.s] 61) = w2 at hp HOA HBW HFR HBX HPX ⊢
        obtain ⟨p, hpe⟩ : ∃ p, wr.heap.size = p := ⟨_, rfl⟩
        rw [hpe] at hp HPL HPX
        rw [hpe]
        have HP := Lib.hid hp
        have HC := Lib.hid (clos_any x k b w2 (Lib.cell_of_heap HBW.out 0) HBX.out)
        clear hp hpe HRX
        go_wp2_with (refine wpList_load_row rfl 61 (.tmp 7) rfl p rfl 61 #[.int .i64 x.file, .int .i64 x.at_, .bool x.cut, .string x.s] (0, 0) _ HP.out Try.underlying61 rfl (by kernel_rfl) ?_)
        refine HC.out.mono ?_
        rintro e w3 ⟨rfl, hb3⟩
        have HP3 := Lib.hid ((hb3.block p HPX.out).trans HP.out)
        have HO3 := Lib.hid (own_frm HOA.out (F := fun _ => False) (Frm.of_below hb3) (fun _ _ => id))
        have HB3 := Lib.hid ((hb3.block b HBX.out).trans HBW.out)
        have HF3 := Lib.hid (HFR.out.trans (Frm.of_below (F := fun i => i = l) hb3) (fun i hi => Or.inl hi))
        clear hb3 HP HC HOA HBW HFR HBX HPX
        cases hf : x.file == k with
        | true =>
          have HD2 := Lib.hid (HSK.out hf)
          clear hf HSK HKP
          go_wp2_with fail
          go_roundw
          case rel => exact ⟨i, j + 1, A, rfl, by go_num, by omega, hin, HD2.out, HO3.out, HB3.out, HF3.out⟩
          case measure => simp [intOf]; omega
        | false =>
          have HD2 := Lib.hid (HKP.out hf)
          obtain ⟨hth, hos⟩ := own_set HO3.out HIN.out.1 x
          have HTH := Lib.hid hth
          have HOS := Lib.hid hos
          have HFS := Lib.hid (Frm.setCells (F := fun i => i = l) (a := w) (g := l) (Or.inl rfl) (KC.enc x) (i * KC.size) _ HF3.out)
          have HBS := Lib.hid (((Frm.setCells (F := fun i => i = l) (a := w3) (g := l) (Or.inl rfl) (KC.enc x) (i * KC.size) _ (Frm.refl _ _)).block b (Array.getElem?_eq_some_iff.1 HB3.out).1 (fun e => HLB.out e.symm)).trans HB3.out)
          have hi3 := HIN.out.2.1
          clear hf HSK HKP hth hos
          go_wp2_with (first | (refine wpList_load_row rfl 61 (.tmp 7) rfl p rfl 61 #[.int .i64 x.file, .int .i64 x.at_, .bool x.cut, .string x.s] (0, 0) _ HP3.out Try.underlying61 rfl (by kernel_rfl) ?_) | (refine wpList_store_mid rfl 61 (.tmp 33) (.tmp 32) rfl l (i * 4) #[.int .i64 x.file, .int .i64 x.at_, .bool x.cut, .string x.s] rfl rfl HTH.out (by kernel_rfl) (by simp [Value.oneCell']) ?_))
          go_roundw
          case rel => exact ⟨i + 1, j + 1, A.set i x, by go_num, by go_num, by omega, HIN.out.2.2, HD2.out, HOS.out, HBS.out, HFS.out⟩
          case measure => simp [intOf]; omega
      · obtain rfl : j = n := by omega
        have hij := hD.lt
        have hcapi : (i : Int) ≤ (cap : Int) := by omega
        have hcapj : (i : Int) ≤ (j : Int) := by omega
        have hne : ¬ (cap : Int) = i := by omega
        have hne2 : ¬ cap = i := by omega
        have hjl : j ≤ 1000000000 := hL
        have hz := own_cut hOA hin (Builtin.zeroCells #[.int .i64 0, .int .i64 0, .bool false, .string ⟨#[]⟩] (j - i)).toList (by simp [Builtin.zeroCells, KC])
        have htk : A.take i = keepF k L := by rw [hD.done, List.take_of_length_le (by rw [HN.out]; exact Nat.le_refl _)]
        rw [htk] at hz
        have HZ := Lib.hid hz.2
        have hrc := run_clear_row (P := Try.prog) wr 56 61 0 (.agg #[.int .i64 0, .int .i64 0, .bool false, .string ⟨#[]⟩]) Try.underlying56 change_zero (by intro u hu; simp [Value.cells] at hu; rcases hu with rfl | rfl | rfl | rfl <;> rfl) l (i * 4) (j - i) (cap - i) (by omega) hz.1
        have HFS := Lib.hid (Frm.setCells (F := fun i => i = l) (a := w) (g := l) (Or.inl rfl) (Builtin.zeroCells #[.int .i64 0, .int .i64 0, .bool false, .string ⟨#[]⟩] (j - i)).toList (i * KC.size) _ hfr)
        clear hz htk hD hOA hbw hfr hij
        go_wp2_with fail
        go_ret
        exact ⟨_, rfl, HZ.out, HFS.out.mono (fun i hi => by subst hi; rfl), fun _ h => h⟩
end Go.Proofs.Ytoacnhiophgfcaa.Dk
