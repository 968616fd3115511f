/- The document's own answers: Part; WideDivides. -/
import Derived.Test.YtjfanlajoedfbaaWideK
import Derived.Test.YtjfanlajoedfbaaWideL6
namespace Go.Proofs.Ytjfanlajoedfbaa.Wide
open Go.RowKit

theorem refDiv_join (x b : Nat) (w : World) (h : x < 340282366920938463463374607431768211456) (h3 : b < 18446744073709551616) (h0 : 0 < b) :
    Calls Try.prog 26 #[.agg #[.int .u64 (hiN x), .int .u64 (loN x)], .int .u64 b] w fun e w' =>
      e = .returned (.tuple #[.agg #[.int .u64 (hiN (x / b)), .int .u64 (loN (x / b))], .int .u64 (x % b : Nat), .int .i64 0]) ∧ Below w.heap.size w w' := by
  have := refDiv_any (hiN x) (loN x) b w (hiN_lt h) (loN_lt x) h3 h0
  rwa [join_N] at this

set_option maxRecDepth 100000 in
set_option maxHeartbeats 800000 in
theorem refPart_any (n a b : Nat) (w : World) (h1 : n < 18446744073709551616) (h2 : a < 18446744073709551616) (h3 : b < 18446744073709551616) :
    Calls Try.prog 27 #[.int .u64 n, .int .u64 a, .int .u64 b] w fun e w' =>
      e = .returned (.tuple #[.int .u64 (partN n a b).1, .int .i64 (partN n a b).2]) ∧ Below w.heap.size w w' := by
  unfold partN
  have hb := Below.refl w.heap.size w
  have hM := fun w => refMul_any n a w h1 h2
  have hlt := mul_lt n a h1 h2
  by_cases hz : b = 0
  · subst hz
    rw [if_pos rfl]
    go_enter Try.func27, Try.ntmps27
    go_wp2_with (first
      | (go_at_call 23; refine (carry (w0 := w) (hM _) (by assumption)).mono ?_; rintro e w' ⟨rfl, hb⟩)
      | (go_at_call 26; refine (carry (w0 := w) (refDiv_zero _ _ _) (by assumption)).mono ?_; rintro e w' ⟨rfl, hb⟩))
    go_ret2
    exact ⟨rfl, below_alloc (by assumption) _⟩
  · rw [if_neg hz]
    have hD := fun w => refDiv_join (n * a) b w hlt h3 (by omega)
    by_cases ho : n * a / b < 18446744073709551616
    · rw [if_pos ho]
      have e1 : hiN (n * a / b) = 0 := Nat.div_eq_of_lt ho
      have e2 : loN (n * a / b) = n * a / b := Nat.mod_eq_of_lt ho
      rw [e1, e2] at hD
      generalize n * a / b = Q at hD ⊢
      generalize n * a % b = R at hD
      generalize hiN (n * a) = mh at hD hM
      generalize loN (n * a) = ml at hD hM
      clear e1 e2 ho hlt
      go_enter Try.func27, Try.ntmps27
      go_wp2_with (first
        | (go_at_call 23; refine (carry (w0 := w) (hM _) (by assumption)).mono ?_; rintro e w' ⟨rfl, hb⟩)
        | (go_at_call 26; refine (carry (w0 := w) (hD _) (by assumption)).mono ?_; rintro e w' ⟨rfl, hb⟩))
      go_ret2
      exact ⟨rfl, below_alloc (by assumption) _⟩
    · rw [if_neg ho]
      have e1 : ¬ hiN (n * a / b) = 0 := fun h => ho (by have := join_N (n * a / b); rw [h] at this; have := loN_lt (n * a / b); omega)
      generalize hiN (n * a / b) = qh at hD e1
      have e3 : 0 < qh := by omega
      clear e1
      generalize loN (n * a / b) = ql at hD
      generalize n * a % b = R at hD
      generalize hiN (n * a) = mh at hD hM
      generalize loN (n * a) = ml at hD hM
      clear ho hlt
      go_enter Try.func27, Try.ntmps27
      go_wp2_with (first
        | (go_at_call 23; refine (carry (w0 := w) (hM _) (by assumption)).mono ?_; rintro e w' ⟨rfl, hb⟩)
        | (go_at_call 26; refine (carry (w0 := w) (hD _) (by assumption)).mono ?_; rintro e w' ⟨rfl, hb⟩))
      go_ret2
      exact ⟨rfl, below_alloc (by assumption) _⟩

theorem both_div (ah al b : Nat) (h1 : ah < 18446744073709551616) (h2 : al < 18446744073709551616) (h3 : b < 18446744073709551616) :
    ∃ q0 q1 r e : Nat, (∀ w, Calls Try.prog 13 #[.agg #[.int .u64 ah, .int .u64 al], .int .u64 b] w fun x w' => x = .returned (.tuple #[.agg #[.int .u64 q0, .int .u64 q1], .int .u64 r, .int .i64 e]) ∧ Below w.heap.size w w') ∧
      (∀ w, Calls Try.prog 26 #[.agg #[.int .u64 ah, .int .u64 al], .int .u64 b] w fun x w' => x = .returned (.tuple #[.agg #[.int .u64 q0, .int .u64 q1], .int .u64 r, .int .i64 e]) ∧ Below w.heap.size w w') := by
  by_cases hz : b = 0
  · subst hz
    exact ⟨0, 0, 0, 2, fun w => div_zero ah al w, fun w => refDiv_zero ah al w⟩
  · exact ⟨_, _, _, 0, fun w => div_any ah al b w h1 h2 h3 (by omega), fun w => refDiv_any ah al b w h1 h2 h3 (by omega)⟩

set_option maxRecDepth 100000 in
set_option maxHeartbeats 1600000 in
theorem divides_true (ah al b n m : Nat) (w : World) (h1 : ah < 18446744073709551616) (h2 : al < 18446744073709551616) (h3 : b < 18446744073709551616) (h4 : n < 18446744073709551616) (h5 : m < 18446744073709551616) :
    Calls Try.prog 6 #[.agg #[.int .u64 ah, .int .u64 al], .int .u64 b, .int .u64 n, .int .u64 m] w fun e w' => e = .returned (.bool true) ∧ Below w.heap.size w w' := by
  obtain ⟨q0, q1, r, e, hD1, hD2⟩ := both_div ah al b h1 h2 h3
  have hP1 := fun w => part_any n m b w h4 h5 h3
  have hP2 := fun w => refPart_any n m b w h4 h5 h3
  obtain ⟨⟨x, f⟩, hx⟩ : ∃ t, partN n m b = t := ⟨_, rfl⟩
  rw [hx] at hP1 hP2
  dsimp only at hP1 hP2
  clear hx
  have hb := below_alloc (Below.refl w.heap.size w) (.cells #[.int .u64 ah, .int .u64 al] 28)
  have p0 := pair_new w (.int .u64 ah) (.int .u64 al) 28
  go_enter Try.func6, Try.ntmps6
  go_wp2_with fail
  refine (hD1 _).mono ?_
  rintro t w1 ⟨rfl, hb1⟩
  have p1 := p0.kept hb1
  have hb1' := hb.trans (hb1.mono hb.size)
  have o1 := pair_new w1 (.int .u64 q0) (.int .u64 q1) 28
  have t0 := p1.k0; have t1 := p1.k1
  have hsz := p1.lt
  clear p0 hb hb1 hD1
  go_wp2_with fail
  refine (hD2 _).mono ?_
  rintro t w2 ⟨rfl, hb2⟩
  have o2 := o1.kept hb2
  have hb2' := (below_alloc hb1' (.cells #[.int .u64 q0, .int .u64 q1] 28)).trans (hb2.mono (below_alloc hb1' _).size)
  have hsz2 := o2.lt
  have u0 := o2.k0; have u1 := o2.k1
  have hb3 := below_alloc hb2' (.cells #[.int .u64 q0, .int .u64 q1] 28)
  clear t0 t1 p1 o1 hb1' hb2 hD2 o2 hb2'
  go_wp2_with fail
  refine (carry (w0 := w) (hP1 _) hb3).mono ?_
  rintro t w3 ⟨rfl, hb4⟩
  clear u0 u1 hb3
  go_wp2_with fail
  refine (carry (w0 := w) (hP2 _) hb4).mono ?_
  rintro t w4 ⟨rfl, hb5⟩
  go_wp2_with fail
  refine (carry (w0 := w) (works_any _) hb5).mono ?_
  rintro t w5 ⟨rfl, hb6⟩
  go_wp2_with fail
  go_ret
  exact ⟨rfl, hb6⟩

theorem law_WideDivides (a0 b0 a1 a2 a3 : Int) (w0 : (Lit.int .u64 a0).wf = true) (x0 : (Lit.int .u64 b0).wf = true) (w1 : (Lit.int .u64 a1).wf = true) (w2 : (Lit.int .u64 a2).wf = true) (w3 : (Lit.int .u64 a3).wf = true) (w : World) :
    Calls Try.prog 6 #[.agg #[.int .u64 a0, .int .u64 b0], .int .u64 a1, .int .u64 a2, .int .u64 a3] w fun e w' => e = .returned (.bool true) ∧ Below w.heap.size w w' := by
  obtain ⟨ah, rfl, h0⟩ := nat_of w0
  obtain ⟨al, rfl, h1⟩ := nat_of x0
  obtain ⟨b, rfl, h2⟩ := nat_of w1
  obtain ⟨n, rfl, h3⟩ := nat_of w2
  obtain ⟨m, rfl, h4⟩ := nat_of w3
  exact divides_true ah al b n m w h0 h1 h2 h3 h4

end Go.Proofs.Ytjfanlajoedfbaa.Wide
