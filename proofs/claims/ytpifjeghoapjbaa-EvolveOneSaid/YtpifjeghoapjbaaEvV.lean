/- evolve: what Next makes of a seed's keys: the law EvolveKeys. -/
import Derived.Test.YtpifjeghoapjbaaEvU
namespace Go.Proofs.Ytpifjeghoapjbaa.Evolve
open Go.RowKit Go.Proofs.Ytpifjeghoapjbaa.Sha Go.Proofs.Ytpifjeghoapjbaa.Tree Go.Proofs.Ytpifjeghoapjbaa.Once

section
variable (seed : List UInt8) (hs : seed.length = 32) (d i : Nat) (hd : d ≤ 4)
include hs hd
theorem next_key (hi : i + 1 < 2 ^ d) (a b : Option Addr) (w : World) (h1 : Hashes w (.slice a d d) (keyP d i seed).2.1) (h2 : Hashes w (.slice b d d) (keyP d i seed).2.2) :
    Calls Try.prog 11 #[.agg (evRow d i (keyP d i seed).1 (.slice a d d) (.slice b d d))] w fun e w' => ∃ a' b', e = .returned (.tuple #[.agg (evRow d ((i + 1 : Nat) : Int) (keyP d (i + 1) seed).1 (.slice a' d d) (.slice b' d d)), .int .i64 0]) ∧ Hashes w' (.slice a' d d) (keyP d (i + 1) seed).2.1 ∧ Hashes w' (.slice b' d d) (keyP d (i + 1) seed).2.2 ∧ Below w.heap.size w w' ∧ (∀ k, (Value.slice a' d d).ownBlock = some k → w.heap.size ≤ k) ∧ (∀ k, (Value.slice b' d d).ownBlock = some k → w.heap.size ≤ k) := by
  obtain ⟨j, hj, hjd, he⟩ := keyP_next seed d i hd hi
  have hl := keyP_len seed hs d i
  have h32 := keyP_h32 seed d i
  have h := code_NextF d i hd (by omega) (keyP d i seed).1 hl.1 a b d d _ _ w h1 h32.1 h2 h32.2 (keyP_right seed hs d i) (Nat.le_refl _) (Nat.le_refl _) j hj hjd
  rw [he] at h
  exact h
theorem next_last (hi : i + 1 = 2 ^ d) (a b : Option Addr) (w : World) (h1 : Hashes w (.slice a d d) (keyP d i seed).2.1) (h2 : Hashes w (.slice b d d) (keyP d i seed).2.2) :
    Calls Try.prog 11 #[.agg (evRow d i (keyP d i seed).1 (.slice a d d) (.slice b d d))] w fun e w' => e = .returned (.tuple #[.agg ZEv, .int .i64 4]) ∧ Below w.heap.size w w' := by
  have hl := keyP_len seed hs d i
  have h32 := keyP_h32 seed d i
  have hj : lastG d i d = -1 := by
    obtain rfl : i = 2 ^ d - 1 := by omega
    exact last_none d hd
  exact code_NextE_last d i hd (by omega) (keyP d i seed).1 hl.1 a b d d _ _ w h1 h32.1 h2 h32.2 (keyP_right seed hs d i) hj
theorem make_key (w : World) : Calls Try.prog 10 #[.agg (valsB seed).toArray, .int .i64 d] w fun e w' => ∃ a b, e = .returned (.tuple #[.agg (evRow d ((0 : Nat) : Int) (keyP d 0 seed).1 (.slice a d d) (.slice b d d)), .int .i64 0]) ∧ Hashes w' (.slice a d d) (keyP d 0 seed).2.1 ∧ Hashes w' (.slice b d d) (keyP d 0 seed).2.2 ∧ Below w.heap.size w w' := by
  have h := code_Make seed hs d hd w
  rw [keyP_first seed d hd] at h
  exact h
end
theorem hashes_lt {w : World} {a : Option Addr} {n c : Nat} {L : List (List UInt8)} (h : Hashes w (.slice a n c) L) (h32 : H32 L) (hn : 0 < n) : ∀ k, (Value.slice a n c).ownBlock = some k → k < w.heap.size := fun k hk => by
  have hl := hashes_form h
  obtain ⟨s, hs⟩ : ∃ s, L[0]? = some s := ⟨L[0]'(by omega), List.getElem?_eq_getElem _⟩
  obtain ⟨g, o, rfl, hr⟩ := hashes_cellE h 0 s hs
  have hsl := h32 s (List.mem_of_getElem? hs)
  have h0 : 0 < (valsB s).length := by rw [valsB_len, hsl]; omega
  have h1 := hr 0 _ (List.getElem?_eq_getElem h0)
  have h2 := World.block_lt_of_cell? _ _ h1
  simp [Value.ownBlock] at hk
  subst hk
  exact h2
/-- A seed's key of a period, in its block. -/
def keyIn (seed : List UInt8) (d i g : Nat) (w : World) : Prop :=
  ∃ a b, w.heap[g]? = some (.cells (evRow d i (keyP d i seed).1 (.slice a d d) (.slice b d d)) 26 (0, 0)) ∧ Hashes w (.slice a d d) (keyP d i seed).2.1 ∧ Hashes w (.slice b d d) (keyP d i seed).2.2
theorem keyIn.kept {seed : List UInt8} {d i g : Nat} {w w' : World} (h : keyIn seed d i g w) (hb : Below w.heap.size w w') : keyIn seed d i g w' := by
  obtain ⟨a, b, h1, h2, h3⟩ := h
  exact ⟨a, b, (hb.block g (Array.getElem?_eq_some_iff.1 h1).1).trans h1, h2.kept hb, h3.kept hb⟩
/-- .. and laid into a block, its rows being of other ones. -/
theorem keyIn.laid {seed : List UInt8} {d i g : Nat} {w : World} {a b : Option Addr} {old : Array Value} (hg : w.heap[g]? = some (.cells old 26 (0, 0))) (h1 : Hashes w (.slice a d d) (keyP d i seed).2.1) (h2 : Hashes w (.slice b d d) (keyP d i seed).2.2) (h3 : ∀ k, (Value.slice a d d).ownBlock = some k → k ≠ g) (h4 : ∀ k, (Value.slice b d d).ownBlock = some k → k ≠ g) :
    keyIn seed d i g (w.setRow g (evRow d i (keyP d i seed).1 (.slice a d d) (.slice b d d))) :=
  ⟨a, b, setRow_heap _ _ _ _ _ _ hg, hashes_set h1 h3 _, hashes_set h2 h4 _⟩

set_option maxRecDepth 100000 in
set_option maxHeartbeats 12800000 in
theorem law_EvolveKeys (a0 : List UInt8) (a1 a2 : Int) (w0 : a0.length = 32) (_w1 : (Lit.int .i64 a1).wf = true) (_w2 : (Lit.int .i64 a2).wf = true) (w : World) :
    Calls Try.prog 8 #[.agg (valsB a0).toArray, .int .i64 a1, .int .i64 a2] w fun e w' => e = .returned (.bool true) ∧ Below w.heap.size w w' := by
  have HWK := Lib.hid works_any
  have HRC := Lib.hid (row32 a0 w0)
  have H0 := Lib.hid w0
  obtain ⟨C, hC⟩ : ∃ C, (valsB a0).toArray = C := ⟨_, rfl⟩
  rw [hC] at HRC
  rw [hC]
  have HC := Lib.hid hC
  clear hC w0
  by_cases h0 : a1 < 0
  · have u1 : decide (a1 < 0) = true := by simp [h0]
    go_enter Try.func8, Try.ntmps8
    go_upto_region 1 with (fail)
    have HA0 := Lib.hid (heap_alloc_new w (.cells C 23))
    have HBW := Lib.hid (show Below w.heap.size w (w.alloc (.cells C 23)) from (Below.refl _ _).alloc (Nat.le_refl _) _)
    have hs0 : (w.alloc (.cells C 23)).heap.size = w.heap.size + 1 := by simp
    generalize (w.alloc (.cells C 23)) = W at HA0 HBW hs0 ⊢
    obtain ⟨g3, hg3⟩ : ∃ x, w.heap.size = x := ⟨_, rfl⟩
    rw [hg3] at HA0 HBW hs0
    rw [hg3]
    have HGE := Lib.hid hg3
    have HLT := Lib.hid (show g3 < W.heap.size by omega)
    clear hg3 hs0
    go_wp2_with fail
    refine (HWK.out _).mono ?_
    rintro e w3 ⟨rfl, hb3⟩
    have HB3 := Lib.hid (HBW.out.trans (hb3.mono (by have := HLT.out; omega)))
    clear hb3
    go_wp2_with fail
    go_ret
    exact ⟨rfl, HGE.out ▸ HB3.out⟩
  have u1 : decide (a1 < 0) = false := by simp [h0]
  by_cases h4 : 4 < a1
  · have u2 : decide ((4 : Int) < a1) = true := by simp [h4]
    go_enter Try.func8, Try.ntmps8
    go_upto_region 1 with (fail)
    have HA0 := Lib.hid (heap_alloc_new w (.cells C 23))
    have HBW := Lib.hid (show Below w.heap.size w (w.alloc (.cells C 23)) from (Below.refl _ _).alloc (Nat.le_refl _) _)
    have hs0 : (w.alloc (.cells C 23)).heap.size = w.heap.size + 1 := by simp
    generalize (w.alloc (.cells C 23)) = W at HA0 HBW hs0 ⊢
    obtain ⟨g3, hg3⟩ : ∃ x, w.heap.size = x := ⟨_, rfl⟩
    rw [hg3] at HA0 HBW hs0
    rw [hg3]
    have HGE := Lib.hid hg3
    have HLT := Lib.hid (show g3 < W.heap.size by omega)
    clear hg3 hs0
    go_wp2_with fail
    refine (HWK.out _).mono ?_
    rintro e w3 ⟨rfl, hb3⟩
    have HB3 := Lib.hid (HBW.out.trans (hb3.mono (by have := HLT.out; omega)))
    clear hb3
    go_wp2_with fail
    go_ret
    exact ⟨rfl, HGE.out ▸ HB3.out⟩
  have u2 : decide ((4 : Int) < a1) = false := by simp [h4]
  by_cases h5 : a2 < 0
  · have u3 : decide (a2 < 0) = true := by simp [h5]
    go_enter Try.func8, Try.ntmps8
    go_upto_region 1 with (fail)
    have HA0 := Lib.hid (heap_alloc_new w (.cells C 23))
    have HBW := Lib.hid (show Below w.heap.size w (w.alloc (.cells C 23)) from (Below.refl _ _).alloc (Nat.le_refl _) _)
    have hs0 : (w.alloc (.cells C 23)).heap.size = w.heap.size + 1 := by simp
    generalize (w.alloc (.cells C 23)) = W at HA0 HBW hs0 ⊢
    obtain ⟨g3, hg3⟩ : ∃ x, w.heap.size = x := ⟨_, rfl⟩
    rw [hg3] at HA0 HBW hs0
    rw [hg3]
    have HGE := Lib.hid hg3
    have HLT := Lib.hid (show g3 < W.heap.size by omega)
    clear hg3 hs0
    go_wp2_with fail
    refine (HWK.out _).mono ?_
    rintro e w3 ⟨rfl, hb3⟩
    have HB3 := Lib.hid (HBW.out.trans (hb3.mono (by have := HLT.out; omega)))
    clear hb3
    go_wp2_with fail
    go_ret
    exact ⟨rfl, HGE.out ▸ HB3.out⟩
  have u3 : decide (a2 < 0) = false := by simp [h5]
  by_cases h6 : 20 < a2
  · have u4 : decide ((20 : Int) < a2) = true := by simp [h6]
    go_enter Try.func8, Try.ntmps8
    go_upto_region 1 with (fail)
    have HA0 := Lib.hid (heap_alloc_new w (.cells C 23))
    have HBW := Lib.hid (show Below w.heap.size w (w.alloc (.cells C 23)) from (Below.refl _ _).alloc (Nat.le_refl _) _)
    have hs0 : (w.alloc (.cells C 23)).heap.size = w.heap.size + 1 := by simp
    generalize (w.alloc (.cells C 23)) = W at HA0 HBW hs0 ⊢
    obtain ⟨g3, hg3⟩ : ∃ x, w.heap.size = x := ⟨_, rfl⟩
    rw [hg3] at HA0 HBW hs0
    rw [hg3]
    have HGE := Lib.hid hg3
    have HLT := Lib.hid (show g3 < W.heap.size by omega)
    clear hg3 hs0
    go_wp2_with fail
    refine (HWK.out _).mono ?_
    rintro e w3 ⟨rfl, hb3⟩
    have HB3 := Lib.hid (HBW.out.trans (hb3.mono (by have := HLT.out; omega)))
    clear hb3
    go_wp2_with fail
    go_ret
    exact ⟨rfl, HGE.out ▸ HB3.out⟩
  have u4 : decide ((20 : Int) < a2) = false := by simp [h6]
  obtain ⟨d, rfl⟩ : ∃ dn : Nat, a1 = dn := ⟨a1.toNat, by omega⟩
  obtain ⟨t, rfl⟩ : ∃ tn : Nat, a2 = tn := ⟨a2.toNat, by omega⟩
  have hd : d ≤ 4 := by omega
  have ht20 : t ≤ 20 := by omega
  have HMK := Lib.hid (fun w => make_key a0 H0.out d hd w)
  have HKY := Lib.hid (fun w => ref_keyP a0 H0.out d t (by omega) (by omega) w)
  have HNX := Lib.hid (fun i hi a b w h1 h2 => next_key a0 H0.out d i hd hi a b w h1 h2)
  have HNL := Lib.hid (fun i hi a b w h1 h2 => next_last a0 H0.out d i hd hi a b w h1 h2)
  have HKL := Lib.hid (fun i => keyP_len a0 H0.out d i)
  have HK32 := Lib.hid (fun i => keyP_h32 a0 d i)
  rw [HC.out] at HMK HKY
  obtain ⟨q, hq⟩ : ∃ q : Nat, 2 ^ d = q := ⟨_, rfl⟩
  have hq16 : q ≤ 16 := by rw [← hq]; exact Nat.le_trans (Nat.pow_le_pow_right (by omega) hd) (by decide)
  have hqi : IntKind.i64.wrap ((2 : Int) ^ d) = (q : Int) := by
    rw [show ((2 : Int) ^ d) = (q : Int) by rw [← hq]; push_cast; rfl]
    unfold IntKind.wrap
    simp [IntKind.bits, IntKind.signed]
    omega
  have hq1 : 1 ≤ q := by rw [← hq]; exact Nat.one_le_two_pow
  rw [hq] at HNX HNL
  clear hq h0 h4 h5 h6
  go_enter Try.func8, Try.ntmps8
  go_upto_region 1 with (fail)
  have HA0 := Lib.hid (heap_alloc_new w (.cells C 23))
  have HBW := Lib.hid (show Below w.heap.size w (w.alloc (.cells C 23)) from (Below.refl _ _).alloc (Nat.le_refl _) _)
  have hs0 : (w.alloc (.cells C 23)).heap.size = w.heap.size + 1 := by simp
  generalize (w.alloc (.cells C 23)) = W at HA0 HBW hs0 ⊢
  obtain ⟨g3, hg3⟩ : ∃ x, w.heap.size = x := ⟨_, rfl⟩
  rw [hg3] at HA0 HBW hs0
  rw [hg3]
  have HGE := Lib.hid hg3
  have HLT := Lib.hid (show g3 < W.heap.size by omega)
  clear hg3 hs0
  go_wp2_with (refine wpList_load_row rfl 23 (.tmp 3) rfl g3 rfl 23 C (0, 0) _ HA0.out Try.underlying23 rfl HRC.out.info ?_)
  refine (HMK.out _).mono ?_
  rintro e w1 ⟨a, b, rfl, h1, h2, hb1⟩
  have HKI := Lib.hid (ev_info d ((0 : Nat) : Int) (keyP d 0 a0).1 (.slice a d d) (.slice b d d) (HKL.out 0).1)
  have HKA := Lib.hid (ev_one d ((0 : Nat) : Int) (keyP d 0 a0).1 a b d d d d)
  have HKZ := Lib.hid (show ZEv.size = (evRow d ((0 : Nat) : Int) (keyP d 0 a0).1 (.slice a d d) (.slice b d d)).size by rw [zev_size, evRow_size _ _ _ _ _ (HKL.out 0).1])
  have HR1 := Lib.hid h1
  have HS1 := Lib.hid h2
  have H31 := Lib.hid ((hb1.block _ HLT.out).trans HA0.out)
  have HB1 := Lib.hid (HBW.out.trans (hb1.mono (Nat.le_of_lt HLT.out)))
  have HL1 := Lib.hid (Nat.lt_of_lt_of_le HLT.out hb1.size)
  obtain ⟨EK, hEK⟩ : ∃ E, evRow d ((0 : Nat) : Int) (keyP d 0 a0).1 (.slice a d d) (.slice b d d) = E := ⟨_, rfl⟩
  rw [hEK] at HKI HKA HKZ
  rw [hEK]
  have HEK := Lib.hid hEK
  clear h1 h2 hb1 hEK
  go_upto_region 4 with (refine wpList_store_row rfl 26 (.tmp 7) (.tmp 29) rfl w1.heap.size EK rfl rfl 26 ZEv (heap_alloc_new _ _) HKI.out HKZ.out HKA.out ?_; rw [World.setRow_alloc_new])
  have hb2 : Below w1.heap.size w1 (w1.alloc (.cells EK 26)) := (Below.refl _ _).alloc (Nat.le_refl _) _
  have hk0 : keyIn a0 d 0 w1.heap.size (w1.alloc (.cells EK 26)) := ⟨a, b, by rw [HEK.out]; exact heap_alloc_new w1 _, HR1.out.kept hb2, HS1.out.kept hb2⟩
  have H32 := Lib.hid ((hb2.block _ HL1.out).trans H31.out)
  have HB2 := Lib.hid (HB1.out.trans (hb2.mono (Nat.le_of_lt HL1.out)))
  have hs2 : (w1.alloc (.cells EK 26)).heap.size = w1.heap.size + 1 := by simp
  generalize w1.alloc (.cells EK 26) = w2 at hk0 H32 HB2 hs2 ⊢
  obtain ⟨g7, hg7⟩ : ∃ x, w1.heap.size = x := ⟨_, rfl⟩
  rw [hg7] at hk0 hs2
  rw [hg7]
  have HK0 := Lib.hid hk0
  have HL2 := Lib.hid (show g3 < g7 ∧ g7 < w2.heap.size by have := HL1.out; omega)
  clear hb2 hs2 hg7 hk0
  go_wp2_with fail
  go_loopw [8, 9] (fun ev iv wr => ∃ i : Nat, i ≤ t ∧ iv = .int .i64 i ∧ wr.heap[g3]? = some (.cells C 23 (0, 0)) ∧ Below g3 w wr ∧ g7 < wr.heap.size ∧ ((i < q ∧ ev = .int .i64 0 ∧ keyIn a0 d i g7 wr) ∨ (i = q ∧ ev = .int .i64 4 ∧ wr.heap[g7]? = some (.cells ZEv 26 (0, 0))))) (fun _ iv _ => t - (intOf iv).toNat)
  case atStart => exact ⟨0, by omega, rfl, H32.out, HB2.out, HL2.out.2, Or.inl ⟨hq1, rfl, HK0.out⟩⟩
  case round =>
    obtain ⟨i, hi, rfl, h3r, hbel, hl7, hcase⟩ := hrel
    have H3R := Lib.hid h3r
    have HBEL := Lib.hid hbel
    have HL7 := Lib.hid hl7
    clear h3r hbel hl7
    rcases hcase with ⟨hiq, rfl, hkin⟩ | ⟨rfl, rfl, hz⟩
    · obtain ⟨a, b, hrow, hR, hS⟩ := hkin
      have HROW := Lib.hid hrow
      have HR := Lib.hid hR
      have HS := Lib.hid hS
      have HKI := Lib.hid (ev_info d (i : Int) (keyP d i a0).1 (.slice a d d) (.slice b d d) (HKL.out i).1)
      by_cases hit : i < t
      · have hii : (i : Int) < (t : Int) := by omega
        have HNK := Lib.hid (fun hi1 => HNX.out i hi1 a b wr HR.out HS.out)
        have HNE := Lib.hid (fun hi1 => HNL.out i hi1 a b wr HR.out HS.out)
        have HKE := Lib.hid (evRow_size d (i : Int) (keyP d i a0).1 (.slice a d d) (.slice b d d) (HKL.out i).1)
        obtain ⟨EK, hEK⟩ : ∃ E, evRow d (i : Int) (keyP d i a0).1 (.slice a d d) (.slice b d d) = E := ⟨_, rfl⟩
        rw [hEK] at HROW HKI HNK HNE HKE
        clear hEK hrow hR hS
        go_wp2_with (refine wpList_load_row rfl 26 (.tmp 7) rfl g7 rfl 26 EK (0, 0) _ HROW.out Try.underlying26 rfl HKI.out ?_)
        by_cases hi1 : i + 1 < q
        · refine (HNK.out hi1).mono ?_
          rintro e w5 ⟨a', b', rfl, h1, h2, hb5, h5, h6⟩
          have h7 := (hb5.block g7 HL7.out).trans HROW.out
          have HNI := Lib.hid (ev_info d ((i + 1 : Nat) : Int) (keyP d (i + 1) a0).1 (.slice a' d d) (.slice b' d d) (HKL.out (i + 1)).1)
          have HNA := Lib.hid (ev_one d ((i + 1 : Nat) : Int) (keyP d (i + 1) a0).1 a' b' d d d d)
          have HNZ := Lib.hid (show EK.size = (evRow d ((i + 1 : Nat) : Int) (keyP d (i + 1) a0).1 (.slice a' d d) (.slice b' d d)).size by rw [HKE.out, evRow_size _ _ _ _ _ (HKL.out (i + 1)).1])
          have HKN := Lib.hid (keyIn.laid (g := g7) h7 h1 h2 (fun k hk => by have := h5 k hk; have := HL7.out; omega) (fun k hk => by have := h6 k hk; have := HL7.out; omega))
          obtain ⟨EN, hEN⟩ : ∃ E, evRow d ((i + 1 : Nat) : Int) (keyP d (i + 1) a0).1 (.slice a' d d) (.slice b' d d) = E := ⟨_, rfl⟩
          rw [hEN] at HNI HNA HNZ HKN
          rw [hEN]
          have H77 := Lib.hid h7
          have H35 := Lib.hid ((hb5.block g3 (by have := HL2.out; have := HL7.out; omega)).trans H3R.out)
          have HB5 := Lib.hid (HBEL.out.trans (hb5.mono (by have := HL2.out; have := HL7.out; omega)))
          have HL75 := Lib.hid (Nat.lt_of_lt_of_le HL7.out hb5.size)
          clear h1 h2 hb5 h5 h6 h7 hEN
          go_wp2_with (refine wpList_store_row rfl 26 (.tmp 7) (.tmp 43) rfl g7 EN rfl rfl 26 EK H77.out HNI.out HNZ.out HNA.out ?_)
          go_roundw
          case rel => exact ⟨i + 1, by omega, by go_num, by rw [setRow_other _ _ _ _ (Nat.ne_of_lt HL2.out.1)]; exact H35.out, below_setRow HB5.out (Nat.le_of_lt HL2.out.1) _, by rw [setRow_size]; exact HL75.out, Or.inl ⟨hi1, rfl, HKN.out⟩⟩
          case measure => simp [intOf]; omega
        · have hi2 : i + 1 = q := by omega
          refine (HNE.out hi2).mono ?_
          rintro e w5 ⟨rfl, hb5⟩
          have H77 := Lib.hid ((hb5.block g7 HL7.out).trans HROW.out)
          have HNZ := Lib.hid (show EK.size = ZEv.size by rw [HKE.out, zev_size])
          have H35 := Lib.hid ((hb5.block g3 (by have := HL2.out; have := HL7.out; omega)).trans H3R.out)
          have HB5 := Lib.hid (HBEL.out.trans (hb5.mono (by have := HL2.out; have := HL7.out; omega)))
          have HL75 := Lib.hid (Nat.lt_of_lt_of_le HL7.out hb5.size)
          clear hb5
          go_wp2_with (refine wpList_store_row rfl 26 (.tmp 7) (.tmp 43) rfl g7 ZEv rfl rfl 26 EK H77.out zev_info HNZ.out zev_one ?_)
          go_roundw
          case rel => exact ⟨i + 1, by omega, by go_num, by rw [setRow_other _ _ _ _ (Nat.ne_of_lt HL2.out.1)]; exact H35.out, below_setRow HB5.out (Nat.le_of_lt HL2.out.1) _, by rw [setRow_size]; exact HL75.out, Or.inr ⟨hi2, rfl, setRow_heap _ _ _ _ _ _ H77.out⟩⟩
          case measure => simp [intOf]; omega
      · obtain rfl : t = i := by omega
        have hii : ¬ (t : Int) < (t : Int) := by omega
        have u5 : decide (q ≤ t) = false := by simp; omega
        have u6 : decide ((q : Int) ≤ (t : Int)) = false := by simp; omega
        have HSM := Lib.hid (fun u2 v2 n2 m2 c2 e2 w h1 h2 h3 h4 => same_any d t (keyP d t a0).1 (HKL.out t).1 a u2 b v2 d d n2 m2 d c2 d e2 (keyP d t a0).2.1 (keyP d t a0).2.2 w h1 h2 h3 h4 (HK32.out t).1 (HK32.out t).2 (by rw [(HKL.out t).2.1]; omega) (by rw [(HKL.out t).2.2]; omega))
        obtain ⟨⟨T, R, S⟩, hT⟩ : ∃ x, keyP d t a0 = x := ⟨_, rfl⟩
        rw [hT] at HROW HKI HSM HKY HR HS
        dsimp only at HROW HKI HSM HKY HR HS
        obtain ⟨EK, hEK⟩ : ∃ E, evRow d (t : Int) T (.slice a d d) (.slice b d d) = E := ⟨_, rfl⟩
        rw [hEK] at HROW HKI HSM
        have HL3 := Lib.hid (show g3 < wr.heap.size by have := HL2.out; have := HL7.out; omega)
        clear hEK hrow hR hS hT
        go_upto_region 10 with (fail)
        refine QT.wp_region_facts_tail 10 (by kernel_rfl) (fun w' => Below wr.heap.size wr w') (fun n v w' => (([.val (.int .i64 0), .val (.bool true), .val (.bool true), .val (.agg EK), .val (.agg C), .val (.int .i64 d), .val (.int .i64 t), .ev d t T R S, .val (.bool true), .val (.bool true)] : List FactK).getD n (.val undef) : FactK).holds v w') (by kernel_rfl) (by kernel_rfl) (Below.refl _ _).drew (fun w1 w2 h1 hb => h1.trans (hb.mono h1.size)) (fun n v w1 w2 h hb => FactK.kept _ v w1 w2 h hb) (fun n o hn ho a wz hI hag hdep => ?_) (fun a wz hI hag hf => ?_)
        · have t1 : a.eval (.tmp 1) = .int .i64 d := hag.old 1 _ (by kernel_rfl) rfl
          have t2 : a.eval (.tmp 2) = .int .i64 t := hag.old 2 _ (by kernel_rfl) rfl
          have t3 : a.eval (.tmp 3) = .pointer (some ⟨g3, 0, none⟩) := hag.old 3 _ (by kernel_rfl) rfl
          have t7 : a.eval (.tmp 7) = .pointer (some ⟨g7, 0, none⟩) := hag.old 7 _ (by kernel_rfl) rfl
          have t8 : a.eval (.tmp 8) = .int .i64 0 := hag.old 8 _ (by kernel_rfl) rfl
          match n, ho with
          | 0, ho =>
            obtain rfl := (Option.some.inj ho).symm
            exact ⟨rfl, QT.wp_value (BigFrame.run_move (.tmp 8) rfl wz) ⟨_, rfl, t8, Below.refl _ _⟩⟩
          | 1, ho =>
            obtain rfl := (Option.some.inj ho).symm
            have d51 : a.eval (.tmp 51) = .int .i64 0 := hdep _ (Array.mem_of_getElem? (i := 0) rfl) rfl _ _ rfl rfl
            exact ⟨rfl, QT.wp_value (v := .bool true) (by simp [go_sem, QT.nf d51]) ⟨_, rfl, rfl, Below.refl _ _⟩⟩
          | 2, ho =>
            obtain rfl := (Option.some.inj ho).symm
            have d52 : a.eval (.tmp 52) = .bool true := hdep _ (Array.mem_of_getElem? (i := 0) rfl) rfl _ _ rfl rfl
            exact ⟨rfl, QT.wp_value (BigFrame.run_move (.tmp 52) rfl wz) ⟨_, rfl, d52, Below.refl _ _⟩⟩
          | 3, ho =>
            obtain rfl := (Option.some.inj ho).symm
            have d53 : a.eval (.tmp 53) = .bool true := hdep _ (Array.mem_of_getElem? (i := 0) rfl) rfl _ _ rfl rfl
            exact ⟨QT.wanted_of rfl rfl rfl d53, wp_load_row 26 (.tmp 7) rfl g7 t7 26 EK (0, 0) _ ((hI.block g7 HL7.out).trans HROW.out) Try.underlying26 rfl HKI.out ⟨_, rfl, rfl, Below.refl _ _⟩⟩
          | 4, ho =>
            obtain rfl := (Option.some.inj ho).symm
            have d53 : a.eval (.tmp 53) = .bool true := hdep _ (Array.mem_of_getElem? (i := 0) rfl) rfl _ _ rfl rfl
            exact ⟨QT.wanted_of rfl rfl rfl d53, wp_load_row 23 (.tmp 3) rfl g3 t3 23 C (0, 0) _ ((hI.block g3 HL3.out).trans H3R.out) Try.underlying23 rfl HRC.out.info ⟨_, rfl, rfl, Below.refl _ _⟩⟩
          | 5, ho =>
            obtain rfl := (Option.some.inj ho).symm
            have d53 : a.eval (.tmp 53) = .bool true := hdep _ (Array.mem_of_getElem? (i := 0) rfl) rfl _ _ rfl rfl
            exact ⟨QT.wanted_of rfl rfl rfl d53, QT.wp_value (BigFrame.run_move (.tmp 1) rfl wz) ⟨_, rfl, t1, Below.refl _ _⟩⟩
          | 6, ho =>
            obtain rfl := (Option.some.inj ho).symm
            have d53 : a.eval (.tmp 53) = .bool true := hdep _ (Array.mem_of_getElem? (i := 0) rfl) rfl _ _ rfl rfl
            exact ⟨QT.wanted_of rfl rfl rfl d53, QT.wp_value (BigFrame.run_move (.tmp 2) rfl wz) ⟨_, rfl, t2, Below.refl _ _⟩⟩
          | 7, ho =>
            obtain rfl := (Option.some.inj ho).symm
            have d55 : a.eval (.tmp 55) = .agg C := hdep _ (Array.mem_of_getElem? (i := 0) rfl) rfl _ _ rfl rfl
            have d56 : a.eval (.tmp 56) = .int .i64 d := hdep _ (Array.mem_of_getElem? (i := 1) rfl) rfl _ _ rfl rfl
            have d57 : a.eval (.tmp 57) = .int .i64 t := hdep _ (Array.mem_of_getElem? (i := 2) rfl) rfl _ _ rfl rfl
            have d53 : a.eval (.tmp 53) = .bool true := hdep _ (Array.mem_of_getElem? (i := 4) rfl) rfl _ _ rfl rfl
            exact ⟨QT.wanted_of rfl rfl rfl d53, wp_enter_any (f := 17) (args := #[.agg C, .int .i64 d, .int .i64 t]) (by simp [go_sem, QT.nf d55, QT.nf d56, QT.nf d57]) (HKY.out wz) fun v w' ⟨hh, hb⟩ => ⟨_, rfl, hh, hb⟩⟩
          | 8, ho =>
            obtain rfl := (Option.some.inj ho).symm
            have d54 : a.eval (.tmp 54) = .agg EK := hdep _ (Array.mem_of_getElem? (i := 0) rfl) rfl _ _ rfl rfl
            have d58 : ((.ev d t T R S) : FactK).holds (a.eval (.tmp 58)) wz := hdep _ (Array.mem_of_getElem? (i := 1) rfl) rfl _ _ rfl rfl
            have d53 : a.eval (.tmp 53) = .bool true := hdep _ (Array.mem_of_getElem? (i := 3) rfl) rfl _ _ rfl rfl
            obtain ⟨xa, xn, xc, za, zn, zc, hv, h1, h2⟩ := d58
            exact ⟨QT.wanted_of rfl rfl rfl d53, QT.wp_enter (f := 16) (args := #[.agg EK, .agg (evRow d t T (.slice xa xn xc) (.slice za zn zc))]) (by simp [go_sem, QT.nf d54, QT.nf hv]) (HSM.out xa za xn zn xc zc wz (HR.out.kept hI) h1 (HS.out.kept hI) h2) fun w' hb => ⟨_, rfl, rfl, hb⟩⟩
          | 9, ho =>
            obtain rfl := (Option.some.inj ho).symm
            have d53 : a.eval (.tmp 53) = .bool true := hdep _ (Array.mem_of_getElem? (i := 0) rfl) rfl _ _ rfl rfl
            have d59 : a.eval (.tmp 59) = .bool true := hdep _ (Array.mem_of_getElem? (i := 1) rfl) rfl _ _ rfl rfl
            exact ⟨rfl, QT.wp_value (v := .bool true) (by simp [go_sem, QT.nf d53, QT.nf d59]) ⟨_, rfl, rfl, Below.refl _ _⟩⟩
          | n + 10, ho => omega
        · have f0 : a.eval (.tmp 51) = .int .i64 0 := hf 0 _ _ (by omega) rfl rfl
          have f1 : a.eval (.tmp 52) = .bool true := hf 1 _ _ (by omega) rfl rfl
          have f2 : a.eval (.tmp 53) = .bool true := hf 2 _ _ (by omega) rfl rfl
          have f3 : a.eval (.tmp 54) = .agg EK := hf 3 _ _ (by omega) rfl rfl
          have f4 : a.eval (.tmp 55) = .agg C := hf 4 _ _ (by omega) rfl rfl
          have f5 : a.eval (.tmp 56) = .int .i64 d := hf 5 _ _ (by omega) rfl rfl
          have f6 : a.eval (.tmp 57) = .int .i64 t := hf 6 _ _ (by omega) rfl rfl
          have f7' : ((.ev d t T R S) : FactK).holds (a.eval (.tmp 58)) wz := hf 7 _ _ (by omega) rfl rfl
          obtain ⟨xa7, xn7, xc7, za7, zn7, zc7, f7, y7, yy7⟩ := f7'
          have f8 : a.eval (.tmp 59) = .bool true := hf 8 _ _ (by omega) rfl rfl
          have f9 : a.eval (.tmp 60) = .bool true := hf 9 _ _ (by omega) rfl rfl
          have ha := hag.puts [(51, .int .i64 0), (52, .bool true), (53, .bool true), (54, .agg EK), (55, .agg C), (56, .int .i64 d), (57, .int .i64 t), (58, .agg (evRow d t T (.slice xa7 xn7 xc7) (.slice za7 zn7 zc7))), (59, .bool true), (60, .bool true)] rfl (by simp) (by simp only [List.forall_mem_cons, List.not_mem_nil, false_implies, implies_true, and_true]; exact ⟨f0, f1, f2, f3, f4, f5, f6, f7, f8, f9⟩)
          subst ha
          clear hag hf f0 f1 f2 f3 f4 f5 f6 f7 f8 f9
          simp only [List.foldl_cons, List.foldl_nil, Act.put, List.drop_succ_cons, List.drop_zero, List.setIfInBounds_toArray, List.set_cons_succ, List.set_cons_zero]
          have HBF := Lib.hid (HBEL.out.trans (hI.mono (Nat.le_of_lt HL3.out)))
          clear hI
          go_wp2_with fail
          go_ret
          exact ⟨rfl, HGE.out ▸ HBF.out⟩
    · have u5 : decide (i ≤ t) = true := by simp [hi]
      have u6 : decide ((i : Int) ≤ (t : Int)) = true := by simp [hi]
      by_cases hit : i < t
      · have hii : (i : Int) < (t : Int) := by omega
        go_wp2_with fail
        go_ret
        exact ⟨rfl, HGE.out ▸ HBEL.out⟩
      · have hii : ¬ (i : Int) < (t : Int) := by omega
        go_wp2_with fail
        go_ret
        exact ⟨rfl, HGE.out ▸ HBEL.out⟩

end Go.Proofs.Ytpifjeghoapjbaa.Evolve
