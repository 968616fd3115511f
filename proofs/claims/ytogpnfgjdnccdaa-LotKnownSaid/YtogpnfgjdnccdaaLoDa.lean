/- lot: the code's may; what a number of lots comes to, by a closure. -/
import Derived.Test.YtogpnfgjdnccdaaLoB
import Derived.Test.YtogpnfgjdnccdaaWideT
import Derived.Deep.RegionHeld3
namespace Go.Proofs.Ytogpnfgjdnccdaa.Lot
open Go.RowKit Go.Proofs.Ytogpnfgjdnccdaa.Wide

set_option maxHeartbeats 800000 in
theorem code_may (s L a b : Nat) (w : World) :
    Calls Try.prog 20 #[.int .u64 s, .int .u64 L, .int .u64 a, .int .u64 b] w fun e w' => e = .returned (.bool (mayN s L a b)) ∧ Below w.heap.size w w' := by
  obtain ⟨r, hr⟩ : ∃ r, mayN s L a b = r := ⟨_, rfl⟩
  rw [hr]
  by_cases h0 : s ≤ L
  · have i0 : ((s : Int) ≤ (L : Int)) := by omega
    by_cases h1 : 1 ≤ L
    · have i1 : (1 ≤ (L : Int)) := by omega
      by_cases h2 : L ≤ 9223372036854775807
      · have i2 : ((L : Int) ≤ 9223372036854775807) := by omega
        by_cases h3 : a ≤ b
        · have i3 : ((a : Int) ≤ (b : Int)) := by omega
          by_cases h4 : 1 ≤ b
          · have i4 : (1 ≤ (b : Int)) := by omega
            by_cases h5 : b ≤ 65536
            · have i5 : ((b : Int) ≤ 65536) := by omega
              obtain rfl : r = true := by rw [← hr]; rw [may_iff]; omega
              clear hr
              go_enter Try.func20, Try.ntmps20
              go_wp2_with fail
              go_ret
              exact ⟨rfl, Below.refl _ _⟩
            · have i5 : ¬ ((b : Int) ≤ 65536) := by omega
              obtain rfl : r = false := by rw [← hr]; simp [mayN]; omega
              clear hr
              go_enter Try.func20, Try.ntmps20
              go_wp2_with fail
              go_ret
              exact ⟨rfl, Below.refl _ _⟩
          · have i4 : ¬ (1 ≤ (b : Int)) := by omega
            obtain rfl : r = false := by rw [← hr]; simp [mayN]; omega
            clear hr
            go_enter Try.func20, Try.ntmps20
            go_wp2_with fail
            go_ret
            exact ⟨rfl, Below.refl _ _⟩
        · have i3 : ¬ ((a : Int) ≤ (b : Int)) := by omega
          obtain rfl : r = false := by rw [← hr]; simp [mayN]; omega
          clear hr
          go_enter Try.func20, Try.ntmps20
          go_wp2_with fail
          go_ret
          exact ⟨rfl, Below.refl _ _⟩
      · have i2 : ¬ ((L : Int) ≤ 9223372036854775807) := by omega
        obtain rfl : r = false := by rw [← hr]; simp [mayN]; omega
        clear hr
        go_enter Try.func20, Try.ntmps20
        go_wp2_with fail
        go_ret
        exact ⟨rfl, Below.refl _ _⟩
    · have i1 : ¬ (1 ≤ (L : Int)) := by omega
      obtain rfl : r = false := by rw [← hr]; simp [mayN]; omega
      clear hr
      go_enter Try.func20, Try.ntmps20
      go_wp2_with fail
      go_ret
      exact ⟨rfl, Below.refl _ _⟩
  · have i0 : ¬ ((s : Int) ≤ (L : Int)) := by omega
    obtain rfl : r = false := by rw [← hr]; simp [mayN]; omega
    clear hr
    go_enter Try.func20, Try.ntmps20
    go_wp2_with fail
    go_ret
    exact ⟨rfl, Below.refl _ _⟩

/-- The two numbers that a closure of weigher keeps. -/
structure WeighAt (w : World) (p q s d : Nat) : Prop where
  one : w.heap[p]? = some (.cells #[.int .u64 s] 26 (0, 0))
  two : w.heap[q]? = some (.cells #[.int .u64 d] 26 (0, 0))
theorem WeighAt.kept {w w' : World} {p q s d : Nat} (h : WeighAt w p q s d) (hb : Below w.heap.size w w') : WeighAt w' p q s d :=
  ⟨(hb.block p (Array.getElem?_eq_some_iff.1 h.one).1).trans h.one, (hb.block q (Array.getElem?_eq_some_iff.1 h.two).1).trans h.two⟩

abbrev weighF (p q : Nat) : Value := .func (.func 44) #[] #[.pointer (some ⟨p, 0, none⟩), .pointer (some ⟨q, 0, none⟩)]

set_option maxHeartbeats 800000 in
theorem code_weigher (s d : Nat) (w : World) :
    Calls Try.prog 30 #[.int .u64 s, .int .u64 d] w fun e w' => ∃ p q, e = .returned (weighF p q) ∧ WeighAt w' p q s d ∧ Below w.heap.size w w' := by
  have hmf : ∀ (fn : Fn) (first cap : Array Value) (w : World), (Instr.makeFunc fn first cap).run Try.prog w = .ok (.func fn first cap) w := fun _ _ _ _ => rfl
  go_enter Try.func30, Try.ntmps30
  go_wp2_with fail
  go_ret
  exact ⟨_, _, rfl, ⟨heap_alloc2_old w _ _, heap_alloc2_new w _ _⟩, ((Below.refl _ _).alloc (Nat.le_refl _) _).alloc (by simp) _⟩

end Go.Proofs.Ytogpnfgjdnccdaa.Lot
