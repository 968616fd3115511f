/- disk: slices.IndexFunc and slices.DeleteFunc over loose changes. -/
import Derived.Test.YtoacnhiophgfcaaDkD
import Derived.Laws.EntriesVeiled
import Derived.Lib.SliceRun
namespace Go.Proofs.Ytoacnhiophgfcaa.Dk
open Go.RowKit Go.Proofs.Ytoacnhiophgfcaa.Gr

theorem cast_eq (a b : Nat) : (decide ((a : Int) = (b : Int))) = (a == b) := by
  by_cases h : a = b
  · subst h; simp
  · have h2 : ¬ (a : Int) = (b : Int) := by omega
    simp [h, h2]
theorem clos_any (c : Ch) (k b : Nat) (W : World) (hc : W.cell? ⟨b, 0, none⟩ = some (.int .i64 k)) (hb : b < W.heap.size) :
    Calls Try.prog 33 #[.agg #[.int .i64 c.file, .int .i64 c.at_, .bool c.cut, .string c.s], .pointer (some ⟨b, 0, none⟩)] W fun e w' => e = .returned (.bool (c.file == k)) ∧ Below W.heap.size W w' := by
  have hne : b ≠ W.heap.size := by omega
  cases hr : c.file == k with
  | true =>
    obtain rfl : c.file = k := by simpa using hr
    clear hr
    go_enter Try.func33, Try.ntmps33
    go_wp2
    go_ret
    exact ⟨by simp, (Below.refl _ _).alloc (Nat.le_refl _) _⟩
  | false =>
    have hn : (((c.file : Int)) == (k : Int)) = false := by
      have : c.file ≠ k := by simpa using hr
      simpa using (show ¬ (c.file : Int) = (k : Int) by omega)
    clear hr
    go_enter Try.func33, Try.ntmps33
    go_wp2
    go_ret
    exact ⟨by first | rfl | simp_all, (Below.refl _ _).alloc (Nat.le_refl _) _⟩

/-- How many stand ahead of the first one of this file. -/
def idxN (k : Nat) (L : List Ch) : Nat := (L.takeWhile fun c => !(c.file == k)).length
def idxI (k : Nat) (L : List Ch) : Int := if idxN k L < L.length then (idxN k L : Int) else -1
theorem idxN_le (k : Nat) (L : List Ch) : idxN k L ≤ L.length := by
  unfold idxN
  exact (List.takeWhile_prefix _).length_le
theorem idxN_hit (k : Nat) : ∀ (L : List Ch) (i : Nat) (x : Ch), L[i]? = some x → i ≤ idxN k L → (x.file == k) = true → idxN k L = i
  | [], i, x, h, _, _ => by simp at h
  | y :: L, 0, x, h, _, hx => by
    simp at h
    subst h
    unfold idxN
    rw [List.takeWhile_cons_of_neg (by simp [hx])]
    rfl
  | y :: L, i + 1, x, h, hi, hx => by
    unfold idxN at hi ⊢
    by_cases hy : (y.file == k) = true
    · rw [List.takeWhile_cons_of_neg (by simp [hy])] at hi
      simp at hi
    · rw [List.takeWhile_cons_of_pos (by simp [hy]), List.length_cons] at hi ⊢
      have := idxN_hit k L i x (by simpa using h) (by unfold idxN; omega) hx
      unfold idxN at this
      omega
theorem idxN_miss (k : Nat) : ∀ (L : List Ch) (i : Nat) (x : Ch), L[i]? = some x → i ≤ idxN k L → (x.file == k) = false → i + 1 ≤ idxN k L
  | [], i, x, h, _, _ => by simp at h
  | y :: L, 0, x, h, _, hx => by
    simp at h
    subst h
    unfold idxN
    rw [List.takeWhile_cons_of_pos (by simp [hx])]
    simp
  | y :: L, i + 1, x, h, hi, hx => by
    unfold idxN at hi ⊢
    by_cases hy : (y.file == k) = true
    · rw [List.takeWhile_cons_of_neg (by simp [hy])] at hi
      simp at hi
    · rw [List.takeWhile_cons_of_pos (by simp [hy]), List.length_cons] at hi ⊢
      have := idxN_miss k L i x (by simpa using h) (by unfold idxN; omega) hx
      unfold idxN at this
      omega
/-- A change in a row of changes. -/
theorem at_ch {w : World} {g o : Nat} {L : List Ch} (hr : w.rangeAt g o (KC.flat L)) {i : Nat} {x : Ch} (hi : L[i]? = some x) : w.rangeAt g (o + i * 4) [.int .i64 x.file, .int .i64 x.at_, .bool x.cut, .string x.s] := fun j u hj => by
  have := range_thing (K := KC) hr hi (j := j) (u := u) hj
  rw [show o + i * 4 + j = o + (i * 4 + j) by omega]
  exact this

set_option maxHeartbeats 1600000 in
theorem code_IndexFunc (v : Value) (L : List Ch) (k b : Nat) (w : World) (hA : KC.At w v L) (hb : w.heap[b]? = some (.cells #[.int .i64 k] 3 (0, 0))) (hL : L.length ≤ 1000000000) :
    Calls Try.prog 50 #[v, .func (.func 33) #[] #[.pointer (some ⟨b, 0, none⟩)]] w fun e w' => e = .returned (.int .i64 (idxI k L)) ∧ Below w.heap.size w w' := by
  obtain ⟨va, vc, rfl, hvc⟩ := hA.form
  have HA := Lib.hid hA
  have HB := Lib.hid hb
  clear hA hb
  obtain ⟨m, hm⟩ : ∃ m, L.length = m := ⟨_, rfl⟩
  rw [hm] at hL hvc ⊢
  have hle := idxN_le k L
  have HM := Lib.hid hm
  rw [hm] at hle HA
  clear hm
  go_enter Try.func50, Try.ntmps50
  go_wp2_with fail
  go_loopw [8] (fun iv wr => ∃ i : Nat, i ≤ m ∧ i ≤ idxN k L ∧ iv = .int .i64 i ∧ Below w.heap.size w wr) (fun iv _ => m - (intOf iv).toNat)
  case atStart => exact ⟨0, Nat.zero_le _, Nat.zero_le _, rfl, Below.refl _ _⟩
  case round =>
    obtain ⟨i, hi, hin, rfl, hbl⟩ := hrel
    by_cases hlt : i < m
    · have hlt2 : (i : Int) < (m : Int) := by omega
      obtain ⟨g, o, cap', hav, _, hr⟩ := (HA.out.kept hbl).some (by rw [HM.out]; omega)
      injection hav with hav1 hav2 hav3
      subst hav1 hav3
      have hx := List.getElem?_eq_getElem (show i < L.length by rw [HM.out]; exact hlt)
      obtain ⟨x, hxx⟩ : ∃ x, L[i]'(by rw [HM.out]; exact hlt) = x := ⟨_, rfl⟩
      rw [hxx] at hx
      have HX := Lib.hid (at_ch hr hx)
      have hbw := (Array.getElem?_eq_some_iff.1 HB.out).1
      have HC := Lib.hid (clos_any x k b wr (Lib.cell_of_heap ((hbl.block b hbw).trans HB.out) 0) (Nat.lt_of_lt_of_le hbw hbl.size))
      have HBL := Lib.hid hbl
      have H1 := Lib.hid (idxN_hit k L i x hx hin)
      have H2 := Lib.hid (idxN_miss k L i x hx hin)
      clear hav2 hr hx hxx hbw hbl
      go_wp2_with (refine wpList_load_mid rfl 61 (.tmp 14) rfl g (o + i * 4) rfl [.int .i64 x.file, .int .i64 x.at_, .bool x.cut, .string x.s] _ HX.out Try.underlying61 rfl (by kernel_rfl) ?_)
      refine HC.out.mono ?_
      rintro e w2 ⟨rfl, hb2⟩
      have HB2 := Lib.hid (HBL.out.trans (hb2.mono HBL.out.size))
      clear hb2
      cases hf : x.file == k with
      | true =>
        have HI := Lib.hid (H1.out hf)
        clear hf HX HC H1 H2
        go_wp2_with fail
        go_ret
        exact ⟨by unfold idxI; rw [HI.out, HM.out, if_pos hlt]; rfl, HB2.out⟩
      | false =>
        have hn := H2.out hf
        clear hf HX HC H1 H2
        go_wp2_with fail
        go_roundw
        case rel => exact ⟨i + 1, by omega, hn, by go_num, HB2.out⟩
        case measure => simp [intOf]; omega
    · obtain rfl : i = m := by omega
      have HBL := Lib.hid hbl
      clear hbl
      go_wp2_with fail
      go_ret
      exact ⟨by unfold idxI; rw [HM.out, if_neg (by omega)]; rfl, HBL.out⟩
end Go.Proofs.Ytoacnhiophgfcaa.Dk
