/- evolve: the document's May: may a key be? -/
import Derived.Test.YtpifjeghoapjbaaEvH
namespace Go.Proofs.Ytpifjeghoapjbaa.Evolve
open Go.RowKit Go.Proofs.Ytpifjeghoapjbaa.Sha Go.Proofs.Ytpifjeghoapjbaa.Tree Go.Proofs.Ytpifjeghoapjbaa.Once

theorem upto_succ {P : Nat → Prop} {k : Nat} (h : ∀ i, i < k → P i) (hk : P k) : ∀ i, i < k + 1 → P i := fun i hi => by
  by_cases h1 : i < k
  · exact h i h1
  · obtain rfl : i = k := by omega
    exact hk

set_option maxRecDepth 100000 in
set_option maxHeartbeats 6400000 in
theorem ref_May_in (d p : Nat) (hd : d ≤ 4) (hp : p < 2 ^ d) (leaf : List UInt8) (hl : leaf.length = 32) (ar as_ : Option Addr) (cr cs : Nat) (R : List (List UInt8)) (w : World) (hR : Hashes w (.slice ar d cr) R) (h32 : H32 R) (b : Bool) (hbm : b = true ↔ ∀ i, i < d → rightAt d p i = true → R.getD i [] = zeroL) :
    Calls Try.prog 19 #[.agg (evRow d p leaf (.slice ar d cr) (.slice as_ d cs))] w fun e w' => e = .returned (.bool b) ∧ Below w.heap.size w w' := by
  have hRL := hashes_form hR
  have g1 : decide ((d : Int) < 0) = false := by simp
  have g2 : decide ((4 : Int) < (d : Int)) = false := by simp; omega
  have g3 : decide ((p : Int) < 0) = false := by simp
  obtain ⟨q, hq⟩ : ∃ q : Nat, 2 ^ d = q := ⟨_, rfl⟩
  have hq16 : q ≤ 16 := by rw [← hq]; exact Nat.le_trans (Nat.pow_le_pow_right (by omega) (show d ≤ 4 by omega)) (by decide)
  have hqi : IntKind.i64.wrap ((2 : Int) ^ d) = (q : Int) := by
    rw [show ((2 : Int) ^ d) = (q : Int) by rw [← hq]; push_cast; rfl]
    unfold IntKind.wrap
    simp [IntKind.bits, IntKind.signed]
    omega
  have g4 : decide (q ≤ p) = false := by simp; omega
  have g5 : decide ((q : Int) ≤ (p : Int)) = false := by simp; omega
  have HDG := Lib.hid (fun w => ref_Digits d p (by omega) (by omega) w)
  have HBM := Lib.hid hbm
  have HR := Lib.hid hR
  have H32 := Lib.hid h32
  have HRL := Lib.hid hRL
  clear hR h32 hRL hq hbm
  go_enter Try.func19, Try.ntmps19
  go_upto_region 1 with (fail)
  have hE := ev_new w d p leaf (.slice ar d cr) (.slice as_ d cs) hl
  have hb : Below w.heap.size w (w.alloc (.cells (evRow d p leaf (.slice ar d cr) (.slice as_ d cs)) 26)) := (Below.refl _ _).alloc (Nat.le_refl _) _
  generalize w.alloc (.cells (evRow d p leaf (.slice ar d cr) (.slice as_ d cs)) 26) = W at hE hb ⊢
  have c0 := hE.c0
  have c1 := hE.c1
  have c34 := hE.c34
  have c35 := hE.c35
  have r0 := cell_regrown c0
  have r1 := cell_regrown c1
  have r34 := cell_regrown c34
  have r35 := cell_regrown c35
  generalize evRow d p leaf (.slice ar d cr) (.slice as_ d cs) = E
  refine wp_region_quiet_below (by kernel_rfl) (by kernel_rfl) ?_
  repeat (quiet_step (fail))
  refine wpQuiet_nil ?_
  intro _ hw'
  obtain ⟨⟨dq, osq⟩, hw''⟩ := hw'
  subst hw''
  have hbq := below_regrown W dq osq
  clear r0 r1 r34 r35
  dsimp only
  generalize Sort.grow (redrawn W dq) osq = w3 at hbq ⊢
  have hE3 := hE.kept hbq
  have HB3 := Lib.hid (hb.trans (hbq.mono hb.size))
  have HR3 := Lib.hid ((HR.out.kept hb).kept hbq)
  have c0 := hE3.c0
  have c1 := hE3.c1
  have HE3 := Lib.hid hE3
  clear g1 g2 g3 g4 g5 hqi hE hE3 hb hbq c34 c35
  go_wp2_with fail
  refine (HDG.out _).mono ?_
  rintro e w4 ⟨wv, rfl, hown, hb4⟩
  obtain ⟨aw, cw, rfl⟩ := hown.form
  have hwl := digitsE_len d p
  rw [hwl]
  rw [hwl] at hown
  have HW := Lib.hid hown.bools
  have hE4 := HE3.out.kept hb4
  have HR4 := Lib.hid (HR3.out.kept hb4)
  have HB4 := Lib.hid (HB3.out.trans (hb4.mono HB3.out.size))
  have c0 := hE4.c0
  have c34 := hE4.c34
  clear hown hb4 c1 hE4 hwl
  have r0 : (0 : Nat) = 0 := rfl
  clear r0
  go_wp2_with fail
  go_loopw [4] (fun iv wr => ∃ k : Nat, k ≤ d ∧ iv = .int .i64 k ∧ (∀ i, i < k → rightAt d p i = true → R.getD i [] = zeroL) ∧ wr = w4) (fun iv _ => d - (intOf iv).toNat)
  case atStart => exact ⟨0, by omega, rfl, fun i hi => by omega, rfl⟩
  case round =>
    obtain ⟨k, hk, rfl, hall, rfl⟩ := hrel
    have HALL := Lib.hid hall
    clear hall
    by_cases hlt : k < d
    · have hki : (k : Int) < (d : Int) := by omega
      have hk0 : (0 : Int) ≤ (k : Int) := by omega
      have hdg := digitsE_get d p k hlt
      obtain ⟨t, ht⟩ : ∃ t, rightAt d p k = t := ⟨_, rfl⟩
      rw [ht] at hdg
      have hwf : Bools wr (.slice aw (digitsE d p).length cw) (digitsE d p) := by rw [digitsE_len]; exact HW.out
      obtain ⟨gw, rfl, hcw⟩ := bools_cell hwf k t hdg
      have HT := Lib.hid ht
      clear hdg hwf ht
      cases t with
      | false =>
        go_wp2_with fail
        go_roundw
        case rel => exact ⟨k + 1, by omega, by go_num, upto_succ HALL.out (fun hr => by
          rw [HT.out] at hr
          cases hr), trivial⟩
        case measure => simp [intOf]; omega
      | true =>
        obtain ⟨s, hs⟩ : ∃ s, R[k]? = some s := ⟨R[k]'(by rw [HRL.out]; omega), List.getElem?_eq_getElem _⟩
        have hsl := H32.out s (List.mem_of_getElem? hs)
        obtain ⟨gs, os, rfl, hrs⟩ := hashes_cellE HR4.out k s hs
        have HRS := Lib.hid hrs
        have HIS := Lib.hid (info_len s hsl)
        have HSG := Lib.hid (show R.getD k [] = s by rw [List.getD_eq_getElem?_getD, hs]; rfl)
        have HE := fun w => eqIn_hash s zeroL hsl rfl w
        obtain ⟨CS, hCS⟩ : ∃ C, (valsB s).toArray = C := ⟨_, rfl⟩
        obtain ⟨z, hz⟩ : ∃ z, (s == zeroL) = z := ⟨_, rfl⟩
        rw [hCS, hz] at HE
        have HCS := Lib.hid hCS
        have HBZ := Lib.hid (fun a : Act => (show Try.prog.built 23 ((#[] : Array (Nat × Operand)).map fun (i, x) => (i, a.eval x)).toList = some (valsB zeroL).toArray by kernel_rfl))
        obtain ⟨CZ, hCZ⟩ : ∃ C, (valsB zeroL).toArray = C := ⟨_, rfl⟩
        rw [hCZ] at HE HBZ
        have HZ := Lib.hid hz
        clear hs hsl hrs hCS hz hCZ
        cases z with
        | true =>
          go_wp2_with (first
            | (refine wpList_load_mid_g rfl 23 (.tmp 61) rfl gs (os + k * 32) (by simp [Act.eval]) (valsB s) _ HRS.out Try.underlying23 rfl HIS.out ?_; rw [HCS.out])
            | (refine wpList_build_g rfl 23 #[] rfl CZ (HBZ.out _) ?_))
          go_roundw
          case rel => exact ⟨k + 1, by omega, by go_num, upto_succ HALL.out (fun _ => by
            rw [HSG.out]
            simpa using HZ.out), trivial⟩
          case measure => simp [intOf]; omega
        | false =>
          obtain rfl : b = false := by
            cases b with
            | false => rfl
            | true =>
              have h1 := HBM.out.1 rfl k hlt HT.out
              rw [HSG.out] at h1
              have h2 := HZ.out
              rw [h1] at h2
              simp at h2
          go_wp2_with (first
            | (refine wpList_load_mid_g rfl 23 (.tmp 61) rfl gs (os + k * 32) (by simp [Act.eval]) (valsB s) _ HRS.out Try.underlying23 rfl HIS.out ?_; rw [HCS.out])
            | (refine wpList_build_g rfl 23 #[] rfl CZ (HBZ.out _) ?_))
          go_ret
          exact ⟨rfl, HB4.out⟩
    · obtain rfl : k = d := by omega
      obtain rfl : b = true := HBM.out.2 HALL.out
      go_wp2_with fail
      go_ret
      exact ⟨rfl, HB4.out⟩

end Go.Proofs.Ytpifjeghoapjbaa.Evolve
