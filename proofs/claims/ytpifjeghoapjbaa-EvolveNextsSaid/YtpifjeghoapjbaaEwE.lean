/- evolve: the code's May: may a key be? -/
import Derived.Test.YtpifjeghoapjbaaEwD
import Derived.Test.YtpifjeghoapjbaaEvI
namespace Go.Proofs.Ytpifjeghoapjbaa.Evolve
open Go.RowKit Go.Proofs.Ytpifjeghoapjbaa.Sha Go.Proofs.Ytpifjeghoapjbaa.Tree Go.Proofs.Ytpifjeghoapjbaa.Once

set_option maxRecDepth 100000 in
set_option maxHeartbeats 6400000 in
theorem code_May_no (d p : Int) (leaf : List UInt8) (hl : leaf.length = 32) (ar as_ : Option Addr) (nr cr ns cs : Nat) (w : World) (hno : ¬ (wayP d p ∧ nr = d.toNat ∧ ns = d.toNat)) :
    Calls Try.prog 20 #[.agg (evRow d p leaf (.slice ar nr cr) (.slice as_ ns cs))] w fun e w' => e = .returned (.int .i64 2) ∧ Below w.heap.size w w' := by
  by_cases hw : wayP d p
  · obtain ⟨⟨h0, h4⟩, h1, h2⟩ := hw
    obtain ⟨d, rfl⟩ : ∃ dn : Nat, d = dn := ⟨d.toNat, by omega⟩
    have hw : wayP d p := ⟨⟨h0, h4⟩, h1, h2⟩
    rw [Int.toNat_natCast] at hno
    by_cases hn : ¬ nr = d
    · have g6 : ((nr : Int) != (d : Int)) = true := by simp; omega
      have g7 : (nr == d) = false := by simp [hn]
      have HWO := Lib.hid (fun w => code_wayOf d p leaf hl (.slice ar nr cr) (.slice as_ ns cs) w)
      have HEX := Lib.hid (fun w => code_exists d p w)
      rw [show decide (wayP (d : Int) p) = true by simp [hw]] at HEX
      clear hw hno h0 h4 h1 h2
      have HEI := Lib.hid (ev_info d p leaf (.slice ar nr cr) (.slice as_ ns cs) hl)
      have HEV := Lib.hid (fun w g h => (⟨hl, h⟩ : EvAt w g d p leaf (.slice ar nr cr) (.slice as_ ns cs)))
      obtain ⟨E, hE⟩ : ∃ E, evRow d p leaf (.slice ar nr cr) (.slice as_ ns cs) = E := ⟨_, rfl⟩
      obtain ⟨CW, hCW⟩ : ∃ C, #[Value.int .i64 d, Value.int .i64 p] = C := ⟨_, rfl⟩
      have HIW := Lib.hid (show (Try.prog.info? 49).map (·.size) = some CW.size by rw [← hCW]; kernel_rfl)
      have HW2 := Lib.hid (show (#[Value.int .i64 0, Value.int .i64 0] : Array Value).size = CW.size by rw [← hCW]; rfl)
      have HW1 := Lib.hid (show CW.all (·.oneCell') = true by rw [← hCW]; simp [Value.oneCell'])
      rw [hE] at HWO HEI HEV
      rw [hCW] at HWO HEX
      rw [hE]
      have HCW := Lib.hid hCW
      clear hE hCW
      go_enter Try.func20, Try.ntmps20
      go_upto_region 1 with (fail)
      have HA0 := Lib.hid (heap_alloc_new w (.cells E 26))
      have HBW := Lib.hid (show Below w.heap.size w (w.alloc (.cells E 26)) from (Below.refl _ _).alloc (Nat.le_refl _) _)
      have hs0 : (w.alloc (.cells E 26)).heap.size = w.heap.size + 1 := by simp
      generalize (w.alloc (.cells E 26)) = W at HA0 HBW hs0 ⊢
      obtain ⟨g1, hg1⟩ : ∃ x, w.heap.size = x := ⟨_, rfl⟩
      rw [hg1] at HA0 HBW hs0
      rw [hg1]
      have HGE := Lib.hid hg1
      have HLT := Lib.hid (show g1 < W.heap.size by omega)
      clear hg1 hs0
      go_wp2_with (refine wpList_load_row rfl 26 (.tmp 1) rfl g1 rfl 26 E (0, 0) _ HA0.out Try.underlying26 rfl HEI.out ?_)
      refine (HWO.out _).mono ?_
      rintro e w2 ⟨rfl, hb2⟩
      have H1 := Lib.hid (HEV.out _ _ ((hb2.block _ HLT.out).trans HA0.out))
      have HB2 := Lib.hid (HBW.out.trans (hb2.mono (Nat.le_of_lt HLT.out)))
      have HL2 := Lib.hid (Nat.lt_of_lt_of_le HLT.out hb2.size)
      clear hb2
      go_upto_region 2 with (refine wpList_store_row rfl 49 (.tmp 3) (.tmp 7) rfl w2.heap.size CW rfl rfl 49 #[Value.int .i64 0, Value.int .i64 0] (heap_alloc_new _ _) HIW.out HW2.out HW1.out ?_; rw [World.setRow_alloc_new])
      have hb3 : Below w2.heap.size w2 (w2.alloc (.cells CW 49)) := (Below.refl _ _).alloc (Nat.le_refl _) _
      have H3 := Lib.hid (heap_alloc_new w2 (.cells CW 49))
      have HE3 := Lib.hid (H1.out.kept hb3)
      have HB3 := Lib.hid (HB2.out.trans (hb3.mono (Nat.le_of_lt HL2.out)))
      have hs3 : (w2.alloc (.cells CW 49)).heap.size = w2.heap.size + 1 := by simp
      generalize w2.alloc (.cells CW 49) = w3 at H3 HE3 HB3 hs3 ⊢
      obtain ⟨g3, hg3⟩ : ∃ x, w2.heap.size = x := ⟨_, rfl⟩
      rw [hg3] at H3 hs3
      rw [hg3]
      have HL3 := Lib.hid (show g1 < g3 ∧ g3 < w3.heap.size by have := HL2.out; omega)
      clear hb3 hs3 hg3 H1 HB2 HL2
      go_wp2_with (refine wpList_load_row rfl 49 (.tmp 3) rfl g3 rfl 49 CW (0, 0) _ H3.out Try.underlying49 rfl HIW.out ?_)
      refine (HEX.out _).mono ?_
      rintro e w4 ⟨rfl, hb4⟩
      have HX3 := Lib.hid ((hb4.block _ HL3.out.2).trans H3.out)
      have hE4 := HE3.out.kept hb4
      have HE4 := Lib.hid hE4
      have HB4 := Lib.hid (HB3.out.trans (hb4.mono (by have := HL3.out; omega)))
      have HL4 := Lib.hid (show g3 < w4.heap.size from Nat.lt_of_lt_of_le HL3.out.2 hb4.size)
      have c0 := hE4.c0
      have c34 := hE4.c34
      have c35 := hE4.c35
      clear hE4 hb4 H3 HE3 HB3
      go_wp2_with fail
      go_ret
      exact ⟨rfl, HGE.out ▸ HB4.out⟩
    · have hn := Decidable.not_not.1 hn
      subst hn
      have hn : ¬ ns = nr := fun h => hno ⟨hw, rfl, h⟩
      have g6 : ((ns : Int) != (nr : Int)) = true := by simp; omega
      have g7 : (ns == nr) = false := by simp [hn]
      have HWO := Lib.hid (fun w => code_wayOf nr p leaf hl (.slice ar nr cr) (.slice as_ ns cs) w)
      have HEX := Lib.hid (fun w => code_exists nr p w)
      rw [show decide (wayP (nr : Int) p) = true by simp [hw]] at HEX
      clear hw hno h0 h4 h1 h2
      have HEI := Lib.hid (ev_info nr p leaf (.slice ar nr cr) (.slice as_ ns cs) hl)
      have HEV := Lib.hid (fun w g h => (⟨hl, h⟩ : EvAt w g nr p leaf (.slice ar nr cr) (.slice as_ ns cs)))
      obtain ⟨E, hE⟩ : ∃ E, evRow nr p leaf (.slice ar nr cr) (.slice as_ ns cs) = E := ⟨_, rfl⟩
      obtain ⟨CW, hCW⟩ : ∃ C, #[Value.int .i64 nr, Value.int .i64 p] = C := ⟨_, rfl⟩
      have HIW := Lib.hid (show (Try.prog.info? 49).map (·.size) = some CW.size by rw [← hCW]; kernel_rfl)
      have HW2 := Lib.hid (show (#[Value.int .i64 0, Value.int .i64 0] : Array Value).size = CW.size by rw [← hCW]; rfl)
      have HW1 := Lib.hid (show CW.all (·.oneCell') = true by rw [← hCW]; simp [Value.oneCell'])
      rw [hE] at HWO HEI HEV
      rw [hCW] at HWO HEX
      rw [hE]
      have HCW := Lib.hid hCW
      clear hE hCW
      go_enter Try.func20, Try.ntmps20
      go_upto_region 1 with (fail)
      have HA0 := Lib.hid (heap_alloc_new w (.cells E 26))
      have HBW := Lib.hid (show Below w.heap.size w (w.alloc (.cells E 26)) from (Below.refl _ _).alloc (Nat.le_refl _) _)
      have hs0 : (w.alloc (.cells E 26)).heap.size = w.heap.size + 1 := by simp
      generalize (w.alloc (.cells E 26)) = W at HA0 HBW hs0 ⊢
      obtain ⟨g1, hg1⟩ : ∃ x, w.heap.size = x := ⟨_, rfl⟩
      rw [hg1] at HA0 HBW hs0
      rw [hg1]
      have HGE := Lib.hid hg1
      have HLT := Lib.hid (show g1 < W.heap.size by omega)
      clear hg1 hs0
      go_wp2_with (refine wpList_load_row rfl 26 (.tmp 1) rfl g1 rfl 26 E (0, 0) _ HA0.out Try.underlying26 rfl HEI.out ?_)
      refine (HWO.out _).mono ?_
      rintro e w2 ⟨rfl, hb2⟩
      have H1 := Lib.hid (HEV.out _ _ ((hb2.block _ HLT.out).trans HA0.out))
      have HB2 := Lib.hid (HBW.out.trans (hb2.mono (Nat.le_of_lt HLT.out)))
      have HL2 := Lib.hid (Nat.lt_of_lt_of_le HLT.out hb2.size)
      clear hb2
      go_upto_region 2 with (refine wpList_store_row rfl 49 (.tmp 3) (.tmp 7) rfl w2.heap.size CW rfl rfl 49 #[Value.int .i64 0, Value.int .i64 0] (heap_alloc_new _ _) HIW.out HW2.out HW1.out ?_; rw [World.setRow_alloc_new])
      have hb3 : Below w2.heap.size w2 (w2.alloc (.cells CW 49)) := (Below.refl _ _).alloc (Nat.le_refl _) _
      have H3 := Lib.hid (heap_alloc_new w2 (.cells CW 49))
      have HE3 := Lib.hid (H1.out.kept hb3)
      have HB3 := Lib.hid (HB2.out.trans (hb3.mono (Nat.le_of_lt HL2.out)))
      have hs3 : (w2.alloc (.cells CW 49)).heap.size = w2.heap.size + 1 := by simp
      generalize w2.alloc (.cells CW 49) = w3 at H3 HE3 HB3 hs3 ⊢
      obtain ⟨g3, hg3⟩ : ∃ x, w2.heap.size = x := ⟨_, rfl⟩
      rw [hg3] at H3 hs3
      rw [hg3]
      have HL3 := Lib.hid (show g1 < g3 ∧ g3 < w3.heap.size by have := HL2.out; omega)
      clear hb3 hs3 hg3 H1 HB2 HL2
      go_wp2_with (refine wpList_load_row rfl 49 (.tmp 3) rfl g3 rfl 49 CW (0, 0) _ H3.out Try.underlying49 rfl HIW.out ?_)
      refine (HEX.out _).mono ?_
      rintro e w4 ⟨rfl, hb4⟩
      have HX3 := Lib.hid ((hb4.block _ HL3.out.2).trans H3.out)
      have hE4 := HE3.out.kept hb4
      have HE4 := Lib.hid hE4
      have HB4 := Lib.hid (HB3.out.trans (hb4.mono (by have := HL3.out; omega)))
      have HL4 := Lib.hid (show g3 < w4.heap.size from Nat.lt_of_lt_of_le HL3.out.2 hb4.size)
      have c0 := hE4.c0
      have c34 := hE4.c34
      have c35 := hE4.c35
      clear hE4 hb4 H3 HE3 HB3
      go_wp2_with fail
      go_ret
      exact ⟨rfl, HGE.out ▸ HB4.out⟩
  · clear hno
    have HWO := Lib.hid (fun w => code_wayOf d p leaf hl (.slice ar nr cr) (.slice as_ ns cs) w)
    have HEX := Lib.hid (fun w => code_exists d p w)
    rw [show decide (wayP d p) = false by simp [hw]] at HEX
    clear hw
    have HEI := Lib.hid (ev_info d p leaf (.slice ar nr cr) (.slice as_ ns cs) hl)
    have HEV := Lib.hid (fun w g h => (⟨hl, h⟩ : EvAt w g d p leaf (.slice ar nr cr) (.slice as_ ns cs)))
    obtain ⟨E, hE⟩ : ∃ E, evRow d p leaf (.slice ar nr cr) (.slice as_ ns cs) = E := ⟨_, rfl⟩
    obtain ⟨CW, hCW⟩ : ∃ C, #[Value.int .i64 d, Value.int .i64 p] = C := ⟨_, rfl⟩
    have HIW := Lib.hid (show (Try.prog.info? 49).map (·.size) = some CW.size by rw [← hCW]; kernel_rfl)
    have HW2 := Lib.hid (show (#[Value.int .i64 0, Value.int .i64 0] : Array Value).size = CW.size by rw [← hCW]; rfl)
    have HW1 := Lib.hid (show CW.all (·.oneCell') = true by rw [← hCW]; simp [Value.oneCell'])
    rw [hE] at HWO HEI HEV
    rw [hCW] at HWO HEX
    rw [hE]
    have HCW := Lib.hid hCW
    clear hE hCW
    go_enter Try.func20, Try.ntmps20
    go_upto_region 1 with (fail)
    have HA0 := Lib.hid (heap_alloc_new w (.cells E 26))
    have HBW := Lib.hid (show Below w.heap.size w (w.alloc (.cells E 26)) from (Below.refl _ _).alloc (Nat.le_refl _) _)
    have hs0 : (w.alloc (.cells E 26)).heap.size = w.heap.size + 1 := by simp
    generalize (w.alloc (.cells E 26)) = W at HA0 HBW hs0 ⊢
    obtain ⟨g1, hg1⟩ : ∃ x, w.heap.size = x := ⟨_, rfl⟩
    rw [hg1] at HA0 HBW hs0
    rw [hg1]
    have HGE := Lib.hid hg1
    have HLT := Lib.hid (show g1 < W.heap.size by omega)
    clear hg1 hs0
    go_wp2_with (refine wpList_load_row rfl 26 (.tmp 1) rfl g1 rfl 26 E (0, 0) _ HA0.out Try.underlying26 rfl HEI.out ?_)
    refine (HWO.out _).mono ?_
    rintro e w2 ⟨rfl, hb2⟩
    have H1 := Lib.hid (HEV.out _ _ ((hb2.block _ HLT.out).trans HA0.out))
    have HB2 := Lib.hid (HBW.out.trans (hb2.mono (Nat.le_of_lt HLT.out)))
    have HL2 := Lib.hid (Nat.lt_of_lt_of_le HLT.out hb2.size)
    clear hb2
    go_upto_region 2 with (refine wpList_store_row rfl 49 (.tmp 3) (.tmp 7) rfl w2.heap.size CW rfl rfl 49 #[Value.int .i64 0, Value.int .i64 0] (heap_alloc_new _ _) HIW.out HW2.out HW1.out ?_; rw [World.setRow_alloc_new])
    have hb3 : Below w2.heap.size w2 (w2.alloc (.cells CW 49)) := (Below.refl _ _).alloc (Nat.le_refl _) _
    have H3 := Lib.hid (heap_alloc_new w2 (.cells CW 49))
    have HE3 := Lib.hid (H1.out.kept hb3)
    have HB3 := Lib.hid (HB2.out.trans (hb3.mono (Nat.le_of_lt HL2.out)))
    have hs3 : (w2.alloc (.cells CW 49)).heap.size = w2.heap.size + 1 := by simp
    generalize w2.alloc (.cells CW 49) = w3 at H3 HE3 HB3 hs3 ⊢
    obtain ⟨g3, hg3⟩ : ∃ x, w2.heap.size = x := ⟨_, rfl⟩
    rw [hg3] at H3 hs3
    rw [hg3]
    have HL3 := Lib.hid (show g1 < g3 ∧ g3 < w3.heap.size by have := HL2.out; omega)
    clear hb3 hs3 hg3 H1 HB2 HL2
    go_wp2_with (refine wpList_load_row rfl 49 (.tmp 3) rfl g3 rfl 49 CW (0, 0) _ H3.out Try.underlying49 rfl HIW.out ?_)
    refine (HEX.out _).mono ?_
    rintro e w4 ⟨rfl, hb4⟩
    have HX3 := Lib.hid ((hb4.block _ HL3.out.2).trans H3.out)
    have hE4 := HE3.out.kept hb4
    have HE4 := Lib.hid hE4
    have HB4 := Lib.hid (HB3.out.trans (hb4.mono (by have := HL3.out; omega)))
    have HL4 := Lib.hid (show g3 < w4.heap.size from Nat.lt_of_lt_of_le HL3.out.2 hb4.size)
    have c0 := hE4.c0
    have c34 := hE4.c34
    have c35 := hE4.c35
    clear hE4 hb4 H3 HE3 HB3
    go_wp2_with fail
    go_ret
    exact ⟨rfl, HGE.out ▸ HB4.out⟩

set_option maxRecDepth 100000 in
set_option maxHeartbeats 6400000 in
theorem code_May_in (d p : Nat) (hd : d ≤ 4) (hp : p < 2 ^ d) (leaf : List UInt8) (hl : leaf.length = 32) (ar as_ : Option Addr) (cr cs : Nat) (R : List (List UInt8)) (w : World) (hR : Hashes w (.slice ar d cr) R) (h32 : H32 R) (b : Bool) (hbm : b = true ↔ ∀ i, i < d → rightAt d p i = true → R.getD i [] = zeroL) :
    Calls Try.prog 20 #[.agg (evRow d p leaf (.slice ar d cr) (.slice as_ d cs))] w fun e w' => e = .returned (.int .i64 (if b then 0 else 2)) ∧ Below w.heap.size w w' := by
  have hRL := hashes_form hR
  have hp16 : p < 16 := Nat.lt_of_lt_of_le hp (Nat.le_trans (Nat.pow_le_pow_right (by omega) hd) (by decide))
  have hw : wayP d p := ⟨⟨by omega, by omega⟩, by omega, by
    have : (p : Int) < ((2 ^ d : Nat) : Int) := by omega
    rw [Int.toNat_natCast]; push_cast at this; exact this⟩
  have HBM := Lib.hid hbm
  have HR := Lib.hid hR
  have H32 := Lib.hid h32
  have HRL := Lib.hid hRL
  have HGR := Lib.hid (fun i (hi : i < d) w => code_goesRight d p i hi hd hp16 w)
  have HWO := Lib.hid (fun w => code_wayOf d p leaf hl (.slice ar d cr) (.slice as_ d cs) w)
  have HEX := Lib.hid (fun w => code_exists d p w)
  rw [show decide (wayP (d : Int) p) = true by simp [hw]] at HEX
  clear hw hR h32 hRL hbm
  have HEI := Lib.hid (ev_info d p leaf (.slice ar d cr) (.slice as_ d cs) hl)
  have HEV := Lib.hid (fun w g h => (⟨hl, h⟩ : EvAt w g d p leaf (.slice ar d cr) (.slice as_ d cs)))
  obtain ⟨E, hE⟩ : ∃ E, evRow d p leaf (.slice ar d cr) (.slice as_ d cs) = E := ⟨_, rfl⟩
  obtain ⟨CW, hCW⟩ : ∃ C, #[Value.int .i64 d, Value.int .i64 p] = C := ⟨_, rfl⟩
  have HIW := Lib.hid (show (Try.prog.info? 49).map (·.size) = some CW.size by rw [← hCW]; kernel_rfl)
  have HW2 := Lib.hid (show (#[Value.int .i64 0, Value.int .i64 0] : Array Value).size = CW.size by rw [← hCW]; rfl)
  have HW1 := Lib.hid (show CW.all (·.oneCell') = true by rw [← hCW]; simp [Value.oneCell'])
  rw [hE] at HWO HEI HEV
  rw [hCW] at HWO HEX
  rw [hE]
  have HCW := Lib.hid hCW
  clear hE hCW
  go_enter Try.func20, Try.ntmps20
  go_upto_region 1 with (fail)
  have HA0 := Lib.hid (heap_alloc_new w (.cells E 26))
  have HBW := Lib.hid (show Below w.heap.size w (w.alloc (.cells E 26)) from (Below.refl _ _).alloc (Nat.le_refl _) _)
  have hs0 : (w.alloc (.cells E 26)).heap.size = w.heap.size + 1 := by simp
  generalize (w.alloc (.cells E 26)) = W at HA0 HBW hs0 ⊢
  obtain ⟨g1, hg1⟩ : ∃ x, w.heap.size = x := ⟨_, rfl⟩
  rw [hg1] at HA0 HBW hs0
  rw [hg1]
  have HGE := Lib.hid hg1
  have HLT := Lib.hid (show g1 < W.heap.size by omega)
  clear hg1 hs0
  go_wp2_with (refine wpList_load_row rfl 26 (.tmp 1) rfl g1 rfl 26 E (0, 0) _ HA0.out Try.underlying26 rfl HEI.out ?_)
  refine (HWO.out _).mono ?_
  rintro e w2 ⟨rfl, hb2⟩
  have H1 := Lib.hid (HEV.out _ _ ((hb2.block _ HLT.out).trans HA0.out))
  have HB2 := Lib.hid (HBW.out.trans (hb2.mono (Nat.le_of_lt HLT.out)))
  have HL2 := Lib.hid (Nat.lt_of_lt_of_le HLT.out hb2.size)
  clear hb2
  go_upto_region 2 with (refine wpList_store_row rfl 49 (.tmp 3) (.tmp 7) rfl w2.heap.size CW rfl rfl 49 #[Value.int .i64 0, Value.int .i64 0] (heap_alloc_new _ _) HIW.out HW2.out HW1.out ?_; rw [World.setRow_alloc_new])
  have hb3 : Below w2.heap.size w2 (w2.alloc (.cells CW 49)) := (Below.refl _ _).alloc (Nat.le_refl _) _
  have H3 := Lib.hid (heap_alloc_new w2 (.cells CW 49))
  have HE3 := Lib.hid (H1.out.kept hb3)
  have HB3 := Lib.hid (HB2.out.trans (hb3.mono (Nat.le_of_lt HL2.out)))
  have hs3 : (w2.alloc (.cells CW 49)).heap.size = w2.heap.size + 1 := by simp
  generalize w2.alloc (.cells CW 49) = w3 at H3 HE3 HB3 hs3 ⊢
  obtain ⟨g3, hg3⟩ : ∃ x, w2.heap.size = x := ⟨_, rfl⟩
  rw [hg3] at H3 hs3
  rw [hg3]
  have HL3 := Lib.hid (show g1 < g3 ∧ g3 < w3.heap.size by have := HL2.out; omega)
  clear hb3 hs3 hg3 H1 HB2 HL2
  go_wp2_with (refine wpList_load_row rfl 49 (.tmp 3) rfl g3 rfl 49 CW (0, 0) _ H3.out Try.underlying49 rfl HIW.out ?_)
  refine (HEX.out _).mono ?_
  rintro e w4 ⟨rfl, hb4⟩
  have HX3 := Lib.hid ((hb4.block _ HL3.out.2).trans H3.out)
  have hE4 := HE3.out.kept hb4
  have HE4 := Lib.hid hE4
  have HB4 := Lib.hid (HB3.out.trans (hb4.mono (by have := HL3.out; omega)))
  have HL4 := Lib.hid (show g3 < w4.heap.size from Nat.lt_of_lt_of_le HL3.out.2 hb4.size)
  have c0 := hE4.c0
  have c34 := hE4.c34
  have c35 := hE4.c35
  clear hE4 hb4 H3 HE3 HB3
  have HR4 := Lib.hid (HR.out.kept (HGE.out ▸ HB4.out))
  rw [HCW.out] at HGR
  go_wp2_with fail
  clear c0 c34 c35
  go_loopw [30] (fun iv wr => ∃ k : Nat, k ≤ d ∧ iv = .int .i64 k ∧ (∀ i, i < k → rightAt d p i = true → R.getD i [] = zeroL) ∧ Below w4.heap.size w4 wr) (fun iv _ => d - (intOf iv).toNat)
  case atStart => exact ⟨0, by omega, rfl, fun i hi => by omega, Below.refl _ _⟩
  case round =>
    obtain ⟨k, hk, rfl, hall, hbr⟩ := hrel
    have HALL := Lib.hid hall
    have HBR := Lib.hid hbr
    clear hall hbr
    by_cases hlt : k < d
    · have hki : (k : Int) < (d : Int) := by omega
      have hk0 : (0 : Int) ≤ (k : Int) := by omega
      obtain ⟨t, ht⟩ : ∃ t, rightAt d p k = t := ⟨_, rfl⟩
      have HG1 := Lib.hid (HGR.out k hlt)
      rw [show (p / 2 ^ (d - 1 - k) % 2 == 1) = t from ht] at HG1
      have HT := Lib.hid ht
      obtain ⟨s, hs⟩ : ∃ s, R[k]? = some s := ⟨R[k]'(by rw [HRL.out]; omega), List.getElem?_eq_getElem _⟩
      have hsl := H32.out s (List.mem_of_getElem? hs)
      obtain ⟨gs, os, rfl, hrs⟩ := hashes_cellE (HR4.out.kept HBR.out) k s hs
      have HRS := Lib.hid hrs
      have HIS := Lib.hid (info_len s hsl)
      have HRC := Lib.hid (row32 s hsl)
      have HZS := Lib.hid (show (List.replicate 32 (Value.int .u8 0)).toArray.size = (valsB s).toArray.size by rw [HRC.out.size]; rfl)
      have HSG := Lib.hid (show R.getD k [] = s by rw [List.getD_eq_getElem?_getD, hs]; rfl)
      have HE := fun w => eqIn_hash s zeroL hsl rfl w
      obtain ⟨CS, hCS⟩ : ∃ C, (valsB s).toArray = C := ⟨_, rfl⟩
      obtain ⟨z, hz⟩ : ∃ z, (s == zeroL) = z := ⟨_, rfl⟩
      rw [hCS, hz] at HE
      rw [hCS] at HRC HZS
      have HCS := Lib.hid hCS
      have HBZ := Lib.hid (fun a : Act => (show Try.prog.built 23 ((#[] : Array (Nat × Operand)).map fun (i, x) => (i, a.eval x)).toList = some (valsB zeroL).toArray by kernel_rfl))
      obtain ⟨CZ, hCZ⟩ : ∃ C, (valsB zeroL).toArray = C := ⟨_, rfl⟩
      rw [hCZ] at HE HBZ
      have HZ := Lib.hid hz
      clear hs hsl hrs hCS hz hCZ ht
      have HY3 := Lib.hid ((HBR.out.block _ HL4.out).trans HX3.out)
      go_upto_region 7 with (first
        | (refine wpList_load_mid rfl 23 (.tmp 33) rfl gs (os + k * 32) (by simp [Act.eval]) (valsB s) _ HRS.out Try.underlying23 rfl HIS.out ?_; rw [HCS.out])
        | (refine wpList_store_row rfl 23 (.tmp 5) (.tmp 34) rfl wr.heap.size CS rfl rfl 23 (List.replicate 32 (Value.int .u8 0)).toArray (heap_alloc_new _ _) HRC.out.info HZS.out HRC.out.one ?_; rw [World.setRow_alloc_new]))
      have hb5 : Below wr.heap.size wr (wr.alloc (.cells CS 23)) := (Below.refl _ _).alloc (Nat.le_refl _) _
      have H5 := Lib.hid (heap_alloc_new wr (.cells CS 23))
      have HY5 := Lib.hid ((hb5.block _ (Nat.lt_of_lt_of_le HL4.out HBR.out.size)).trans HY3.out)
      have HB5 := Lib.hid (HBR.out.trans (hb5.mono HBR.out.size))
      clear hb5
      generalize wr.alloc (.cells CS 23) = w5 at H5 HY5 HB5 ⊢
      go_wp2_with (refine wpList_load_row rfl 49 (.tmp 3) rfl g3 rfl 49 CW (0, 0) _ HY5.out Try.underlying49 rfl HIW.out ?_)
      refine (HG1.out _).mono ?_
      rintro e w6 ⟨rfl, hb6⟩
      have H6 := Lib.hid ((hb6.block _ (Array.getElem?_eq_some_iff.1 H5.out).1).trans H5.out)
      have HB6 := Lib.hid (HB5.out.trans (hb6.mono HB5.out.size))
      clear hb6
      cases t with
      | false =>
        go_wp2_with fail
        go_roundw
        case rel => exact ⟨k + 1, by omega, by go_num, upto_succ HALL.out (fun hr => by
          rw [HT.out] at hr
          cases hr), HB6.out⟩
        case measure => simp [intOf]; omega
      | true =>
        cases z with
        | true =>
          go_wp2_with (first
            | (refine wpList_load_row_g rfl 23 (.tmp 5) rfl wr.heap.size rfl 23 CS (0, 0) _ H6.out Try.underlying23 rfl HRC.out.info ?_)
            | (refine wpList_build_g rfl 23 #[] rfl CZ (HBZ.out _) ?_))
          go_roundw
          case rel => exact ⟨k + 1, by omega, by go_num, upto_succ HALL.out (fun _ => by
            rw [HSG.out]
            simpa using HZ.out), HB6.out⟩
          case measure => simp [intOf]; omega
        | false =>
          obtain rfl : b = false := by
            cases b with
            | false => rfl
            | true =>
              have h1 := HBM.out.1 rfl k hlt HT.out
              rw [HSG.out] at h1
              have h2 := HZ.out
              rw [h1] at h2
              simp at h2
          go_wp2_with (first
            | (refine wpList_load_row_g rfl 23 (.tmp 5) rfl wr.heap.size rfl 23 CS (0, 0) _ H6.out Try.underlying23 rfl HRC.out.info ?_)
            | (refine wpList_build_g rfl 23 #[] rfl CZ (HBZ.out _) ?_))
          go_ret
          exact ⟨rfl, HGE.out ▸ HB4.out.trans (HB6.out.mono (by have := HL3.out; have := HL4.out; omega))⟩
    · obtain rfl : k = d := by omega
      obtain rfl : b = true := HBM.out.2 HALL.out
      go_wp2_with fail
      go_ret
      exact ⟨rfl, HGE.out ▸ HB4.out.trans (HBR.out.mono (by have := HL3.out; have := HL4.out; omega))⟩

theorem code_May (d p : Int) (leaf : List UInt8) (hl : leaf.length = 32) (ar as_ : Option Addr) (nr cr ns cs : Nat) (R : List (List UInt8)) (w : World) (hR : Hashes w (.slice ar nr cr) R) (h32 : H32 R) (b : Bool) (hbm : b = true ↔ mayP d p R ns) :
    Calls Try.prog 20 #[.agg (evRow d p leaf (.slice ar nr cr) (.slice as_ ns cs))] w fun e w' => e = .returned (.int .i64 (if b then 0 else 2)) ∧ Below w.heap.size w w' := by
  have hRL := hashes_form hR
  by_cases h : wayP d p ∧ R.length = d.toNat ∧ ns = d.toNat
  · obtain ⟨⟨⟨h0, h4⟩, h1, h2⟩, h3, h5⟩ := h
    obtain ⟨d, rfl⟩ : ∃ dn : Nat, d = dn := ⟨d.toNat, by omega⟩
    obtain ⟨p, rfl⟩ : ∃ pn : Nat, p = pn := ⟨p.toNat, by omega⟩
    have hp : p < 2 ^ d := by
      have : (p : Int) < ((2 ^ d : Nat) : Int) := by push_cast; simpa using h2
      omega
    rw [Int.toNat_natCast] at h3 h5
    obtain rfl : ns = d := h5
    obtain rfl : nr = ns := by omega
    exact code_May_in nr p (by omega) hp leaf hl ar as_ cr cs R w hR h32 b (hbm.trans ⟨fun h => h.2.2.2, fun h => ⟨⟨⟨by omega, by omega⟩, by omega, h2⟩, h3, rfl, h⟩⟩)
  · obtain rfl : b = false := by
      cases b with
      | false => rfl
      | true => exact absurd (hbm.1 rfl) (fun hm => h ⟨hm.1, hm.2.1, hm.2.2.1⟩)
    exact code_May_no d p leaf hl ar as_ nr cr ns cs w (by rw [hRL] at h; exact h)

end Go.Proofs.Ytpifjeghoapjbaa.Evolve
