/- reel: the document's Records. -/
import Derived.Test.YtepcfmigkhacgaaDoorG7
import Derived.Test.YtepcfmigkhacgaaDoorG4
import Derived.Test.YtepcfmigkhacgaaDoorG1
import Derived.WalkMore
import Derived.OwnWalk
import Derived.Deep.Cut
namespace Go.Proofs.YtepcfmigkhacgaaDoor.Rl
open Go.RowKit Go.Proofs.YtepcfmigkhacgaaDoor.Gr Go.Proofs.YtepcfmigkhacgaaDoor.Frame Go.Proofs.YtepcfmigkhacgaaDoor.Dk

/-- What Records leaves. -/
def RecTo (w : World) (R : List Tx × Nat × Nat) (e : Ending) (w' : World) : Prop :=
  ∃ v, e = .returned (.tuple #[v, .int .i64 R.2.1, .int .i64 R.2.2]) ∧ KT.Own w.heap.size v (tx R.1) w' ∧ Below w.heap.size w w'
theorem recto {w w' : World} {R : List Tx × Nat × Nat} {v : Value} {A : List Tx} {f z : Nat} (h : R = (A, f, z)) (hown : KT.Own w.heap.size v (tx A) w') (hb : Below w.heap.size w w') : RecTo w R (.returned (.tuple #[v, .int .i64 f, .int .i64 z])) w' :=
  ⟨v, by rw [h], by rw [h]; exact hown, hb⟩

set_option maxRecDepth 100000 in
set_option maxHeartbeats 1600000 in
theorem ref_Records (w : World) (N : List ByteArray) (na nc : Nat) (h : SRow w na nc N) (hz : ∀ s ∈ N, s.size ≤ 1048576) :
    Calls Tryd.prog 52 #[.slice (some ⟨na, 0, none⟩) 64 nc] w (RecTo w (recs N)) := by
  have HR := Lib.hid h
  have HSZ := Lib.hid (fun f => getD_size hz f)
  clear h hz
  go_enter Tryd.func52, Tryd.ntmps52
  go_wp2_with fail
  go_loopw [5, 6] (fun ov fv wr => ∃ (A : List Tx) (f : Nat), f ≤ 63 ∧ A.length ≤ 8 * f ∧ recs N = (A ++ (recN N (64 - f) f).1, (recN N (64 - f) f).2) ∧ fv = .int .i64 f ∧ KT.Own w.heap.size ov (tx A) wr ∧ Below w.heap.size w wr) (fun _ fv _ => 64 - (intOf fv).toNat)
  case atStart => exact ⟨[], 0, by omega, by simp, by simp [recs], rfl, Kind.Own.nil _ _, Below.refl _ _⟩
  case round =>
    obtain ⟨A, f, hf, hA, hrec, rfl, hown, hbel⟩ := hrel
    obtain ⟨a5, n5, cap5, rfl⟩ : ∃ a n c, u5 = .slice a n c := by
      obtain ⟨a, c, h, _⟩ := hown.reads.form
      exact ⟨a, _, c, h⟩
    have HOWN := Lib.hid hown
    have HBEL := Lib.hid hbel
    have hrow : SRow wr na nc N := HR.out.kp (B := 0) (T := fun _ _ => False) (Kp.of_below hbel) id
    have hc := hrow.file (show f < 64 by omega)
    obtain ⟨t, ht⟩ : ∃ t, N.getD f ⟨#[]⟩ = t := ⟨_, rfl⟩
    have hts := HSZ.out f
    rw [ht] at hc hts
    obtain ⟨T, z, hTz⟩ : ∃ T z, scanL 8 t.data.toList = (T, z) := ⟨_, _, rfl⟩
    have hTf : scanL 8 (fileN N f) = (T, z) := by unfold fileN; rw [ht]; exact hTz
    have hT8 : T.length ≤ 8 := by
      have := (scan_took 8 t.data.toList).2.2.2.1
      rwa [hTz] at this
    have hfl : (fileN N f).length = t.size := by unfold fileN; rw [ht]; exact len_data t
    have HSC := Lib.hid (ref_Scan t 8 wr (by omega))
    unfold ScanTo at HSC
    rw [show (8 : Int).toNat = 8 by rfl, hTz] at HSC
    have hstep : recN N (64 - f) f = if T.length < 8 ∨ z < t.size ∨ f = 63 then (T, f, z) else (T ++ (recN N (63 - f) (f + 1)).1, (recN N (63 - f) (f + 1)).2) := by
      rw [show 64 - f = (63 - f) + 1 by omega, recN, hTf, hfl]
    rw [hstep] at hrec
    have HREC := Lib.hid hrec
    have hf1 : (f : Int) < 64 := by omega
    have HAL := Lib.hid hA
    have HT8 := Lib.hid hT8
    have HNT := Lib.hid ht
    clear hown hbel hrow ht hTz hTf hfl hstep hrec hA
    go_upto_region 6 with (go_at_call 77; refine HSC.out.mono ?_; rintro e w1 ⟨v1, rfl, hat1, hb1⟩)
    obtain ⟨a1, n1, cap1, rfl, hn1⟩ : ∃ a n c, v1 = .slice a n c ∧ n = T.length := by
      obtain ⟨a, c, h, _⟩ := hat1.form
      exact ⟨a, _, c, h, tx_len T⟩
    have HAT1 := Lib.hid hat1
    have HB1 := Lib.hid (HBEL.out.trans (hb1.mono HBEL.out.size))
    have HOW1 := Lib.hid (HOWN.out.kept hb1)
    clear hat1 hb1
    go_upto_region 7 with (refine wpList_append_at (K := KT) rfl (.tmp 21) (.tmp 22) 54 rfl Tryd.underlying54 w.heap.size rfl HOW1.out _ (tx T) rfl HAT1.out (by have h1 := HAL.out; have h2 := HT8.out; rw [tx_len, tx_len]; show (_ + _) * 17 ≤ 1099511627776; omega) HB1.out.size ?_; intro v2 w2 hown2 hbb2; obtain ⟨a2, n2, cap2, rfl⟩ : ∃ a n c, v2 = .slice a n c := (by obtain ⟨a, c, h, _⟩ := hown2.reads.form; exact ⟨a, _, c, h⟩))
    have HOW2 := Lib.hid (show KT.Own w.heap.size (.slice a2 n2 cap2) (tx (A ++ T)) w2 by rw [tx, List.map_append]; exact hown2)
    have HB2 := Lib.hid (HB1.out.trans hbb2)
    have hc2 : w2.cell? ⟨na, f, none⟩ = some (.string t) := by
      have hrow : SRow w2 na nc N := HR.out.kp (B := 0) (T := fun _ _ => False) (Kp.of_below HB2.out) id
      have := hrow.file (show f < 64 by omega)
      rwa [HNT.out] at this
    clear hown2 hbb2 hc
    by_cases h1 : T.length < 8
    · have e1 : recs N = (A ++ T, f, z) := by rw [HREC.out, if_pos (Or.inl h1)]
      have h1i : (n1 : Int) < 8 := by omega
      go_wp2
      go_ret3
      exact recto rfl HOW2.out HB2.out
    have h1i : ¬ (n1 : Int) < 8 := by omega
    by_cases h2 : z < t.size
    · have e1 : recs N = (A ++ T, f, z) := by rw [HREC.out, if_pos (Or.inr (Or.inl h2))]
      have h2i : (z : Int) < (t.size : Int) := by omega
      go_wp2
      go_ret3
      exact recto rfl HOW2.out HB2.out
    have h2i : ¬ (z : Int) < (t.size : Int) := by omega
    by_cases h3 : f = 63
    · have e1 : recs N = (A ++ T, f, z) := by rw [HREC.out, if_pos (Or.inr (Or.inr h3))]
      subst h3
      go_wp2
      go_ret3
      exact recto rfl HOW2.out HB2.out
    · have e1 : recs N = ((A ++ T) ++ (recN N (63 - f) (f + 1)).1, (recN N (63 - f) (f + 1)).2) := by rw [HREC.out, if_neg (by omega), List.append_assoc]
      have h3b : ((f : Int) == 63) = false := by simp only [beq_eq_false_iff_ne, ne_eq]; omega
      go_wp2
      refine ⟨⟨A ++ T, f + 1, by omega, by have h4 := HAL.out; have h5 := HT8.out; rw [List.length_append]; omega, by rw [e1, show 64 - (f + 1) = 63 - f by omega], by go_num, HOW2.out, HB2.out⟩, ?_⟩
      simp [intOf]
      omega
end Go.Proofs.YtepcfmigkhacgaaDoor.Rl
