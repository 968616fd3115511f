/- lot: the code's winner; Wins. -/
import Derived.Test.YtogpnfgjdnccdaaLoDc
import Derived.Laws.EntriesVeiled
namespace Go.Proofs.Ytogpnfgjdnccdaa.Lot
open Go.RowKit Go.Proofs.Ytogpnfgjdnccdaa.Wide

set_option maxRecDepth 100000 in
set_option maxHeartbeats 3200000 in
theorem code_winner (s L a b : Nat) (hs : s < 9223372036854775808) (ha : a ≤ 65536) (w : World) :
    Calls Try.prog 21 #[.int .u64 s, .int .u64 L, .int .u64 a, .int .u64 b] w fun e w' => ∃ g h p q, e = .returned (winsF g h) ∧ WinnerAt w' g h p q s L a b ∧ Below w.heap.size w w' := by
  have hmf : ∀ (fn : Fn) (first cap : Array Value) (w : World), (Instr.makeFunc fn first cap).run Try.prog w = .ok (.func fn first cap) w := fun _ _ _ _ => rfl
  have HA := Lib.hid (fun w => code_weigher L b w)
  have HS := Lib.hid (fun w => code_weigher s a w)
  have hC : ∀ p q w, WeighAt w p q s a → Calls Try.prog 44 #[.int .u64 4294967296, .pointer (some ⟨p, 0, none⟩), .pointer (some ⟨q, 0, none⟩)] w fun e w' => e = .returned (.agg #[.int .u64 (hiN (4294967296 * s * a)), .int .u64 (loN (4294967296 * s * a))]) ∧ Below w.heap.size w w' := fun p q w hW => code_weigh 4294967296 s a p q w hW (Nat.le_refl _) hs ha
  have HWI := Lib.hid wide_info
  have HAT := Lib.hid (fun (w : World) (g h p q : Nat) => @WinnerAt.mk w g h p q s L a b)
  obtain ⟨yh, hyh⟩ : ∃ x, hiN (4294967296 * s * a) = x := ⟨_, rfl⟩
  obtain ⟨yl, hyl⟩ : ∃ x, loN (4294967296 * s * a) = x := ⟨_, rfl⟩
  simp only [hyh, hyl] at hC HAT
  have HC := Lib.hid hC
  clear hyh hyl hC hs ha
  go_enter Try.func21, Try.ntmps21
  go_wp2_with fail
  refine (HA.out _).mono ?_
  rintro e w1 ⟨p, q, rfl, hA1, hb1⟩
  unfold weighF
  go_wp2_with fail
  refine (HS.out _).mono ?_
  rintro e w2 ⟨p2, q2, rfl, hS2, hb2⟩
  unfold weighF
  go_wp2_with fail
  refine (HC.out p2 q2 _ hS2).mono ?_
  rintro e w3 ⟨rfl, hb3⟩
  have HW3 := Lib.hid ((hA1.kept hb2).kept hb3)
  have hb23 := hb2.trans (hb3.mono hb2.size)
  have HB3 := Lib.hid (hb1.trans (hb23.mono hb1.size))
  clear hA1 hS2 hb1 hb2 hb3 hb23
  go_upto_region 2 with (fail)
  have HX := Lib.hid (HAT.out _ w3.heap.size (w3.heap.size + 1) p q (heap_alloc2_old w3 (.cells #[weighF p q] 55) (.cells #[.int .u64 yh, .int .u64 yl] 48)) (heap_alloc2_new w3 _ _) (HW3.out.kept (((Below.refl _ _).alloc (Nat.le_refl _) _).alloc (by simp) _)))
  have HB5 := Lib.hid ((HB3.out.alloc (o := .cells #[weighF p q] 55) HB3.out.size).alloc (o := .cells #[.int .u64 yh, .int .u64 yl] 48) (by have := HB3.out.size; simp; omega))
  unfold weighF at HX HB5
  generalize (w3.alloc (.cells #[.func (.func 44) #[] #[.pointer (some ⟨p, 0, none⟩), .pointer (some ⟨q, 0, none⟩)]] 55)).alloc (.cells #[.int .u64 yh, .int .u64 yl] 48) = w5 at HX HB5 ⊢
  generalize w3.heap.size = g5 at HX ⊢
  clear HB3 HW3
  go_wp2_with fail
  go_ret
  exact ⟨_, _, _, _, rfl, HX.out, HB5.out⟩

set_option maxRecDepth 100000 in
set_option maxHeartbeats 3200000 in
theorem code_WinsL (n s L a b : Nat) (hn : n < 4294967296) (w : World) :
    Calls Try.prog 9 #[.int .u32 n, .int .u64 s, .int .u64 L, .int .u64 a, .int .u64 b] w fun e w' => e = .returned (.tuple #[.bool (winsE n s L a b), .int .i64 (if mayN s L a b then 0 else 2)]) ∧ Below w.heap.size w w' := by
  have HMA := Lib.hid (fun w => code_may s L a b w)
  unfold winsE
  cases hm : mayN s L a b with
  | false =>
    rw [hm] at HMA
    clear hm
    go_enter Try.func9, Try.ntmps9
    go_wp2_with fail
    refine (HMA.out _).mono ?_
    rintro e w1 ⟨rfl, hb1⟩
    go_wp2_with fail
    go_ret2
    exact ⟨rfl, hb1⟩
  | true =>
    rw [hm] at HMA
    have h := may_iff.1 hm
    have HWN := Lib.hid (fun w => code_winner s L a b (by omega) (by omega) w)
    have HW1 := Lib.hid (fun g h p q w hW => code_wins1 n s L a b g h p q w hW (by omega) (by omega) (by omega) (by omega) (by omega))
    have hw : IntKind.u64.wrap (n : Int) = (n : Int) := u64_nat n (by omega)
    obtain ⟨r, hr⟩ : ∃ r, winsN n s L a b = r := ⟨_, rfl⟩
    rw [hr] at HW1
    rw [hr]
    clear hm h hr hn
    go_enter Try.func9, Try.ntmps9
    go_wp2_with fail
    refine (HMA.out _).mono ?_
    rintro e w1 ⟨rfl, hb1⟩
    go_wp2_with fail
    refine (HWN.out _).mono ?_
    rintro e w2 ⟨g, h, p, q, rfl, hW2, hb2⟩
    have HB2 := Lib.hid (hb1.trans (hb2.mono hb1.size))
    have HW2 := Lib.hid hW2
    clear hb1 hb2 hW2
    unfold winsF
    go_wp2_with fail
    refine (HW1.out g h p q _ HW2.out).mono ?_
    rintro e w3 ⟨rfl, hb3⟩
    have HB3 := Lib.hid (HB2.out.trans (hb3.mono HB2.out.size))
    clear hb3
    go_wp2_with fail
    go_ret2
    exact ⟨by simp, HB3.out⟩

end Go.Proofs.Ytogpnfgjdnccdaa.Lot
