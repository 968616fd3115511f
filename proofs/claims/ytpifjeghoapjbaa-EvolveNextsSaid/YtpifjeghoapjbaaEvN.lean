/- evolve: the document's Next: a key that is none, the last key. -/
import Derived.Test.YtpifjeghoapjbaaEvQ
import Derived.Test.YtpifjeghoapjbaaEvIn
import Derived.Test.YtpifjeghoapjbaaEvJ
import Derived.Test.YtpifjeghoapjbaaEwM
namespace Go.Proofs.Ytpifjeghoapjbaa.Evolve
open Go.RowKit Go.Proofs.Ytpifjeghoapjbaa.Sha Go.Proofs.Ytpifjeghoapjbaa.Tree Go.Proofs.Ytpifjeghoapjbaa.Once

set_option maxRecDepth 100000 in
set_option maxHeartbeats 3200000 in
theorem ref_NextE_no (d p : Int) (leaf : List UInt8) (hl : leaf.length = 32) (ar as_ : Option Addr) (nr cr ns cs : Nat) (R : List (List UInt8)) (w : World) (hR : Hashes w (.slice ar nr cr) R) (h32 : H32 R) (hno : ¬ mayP d p R ns) :
    Calls Try.prog 23 #[.agg (evRow d p leaf (.slice ar nr cr) (.slice as_ ns cs))] w fun e w' => e = .returned (.tuple #[.agg (evRow 0 0 zeroL (.slice none 0 0) (.slice none 0 0)), .int .i64 2]) ∧ Below w.heap.size w w' := by
  have HM := Lib.hid (fun w' (h : Below w.heap.size w w') => ref_May d p leaf hl ar as_ nr cr ns cs R w' (hR.kept h) h32 false (by simp [hno]))
  have HEI := Lib.hid (ev_info d p leaf (.slice ar nr cr) (.slice as_ ns cs) hl)
  obtain ⟨E, hE⟩ : ∃ E, evRow d p leaf (.slice ar nr cr) (.slice as_ ns cs) = E := ⟨_, rfl⟩
  rw [hE] at HM HEI
  rw [hE]
  clear hE hR h32 hno
  go_enter Try.func23, Try.ntmps23
  go_upto_region 1 with (fail)
  rw [show #[Value.int .i64 0, Value.int .i64 0, Value.int .u8 0, Value.int .u8 0, Value.int .u8 0, Value.int .u8 0, Value.int .u8 0, Value.int .u8 0, Value.int .u8 0, Value.int .u8 0, Value.int .u8 0, Value.int .u8 0, Value.int .u8 0, Value.int .u8 0, Value.int .u8 0, Value.int .u8 0, Value.int .u8 0, Value.int .u8 0, Value.int .u8 0, Value.int .u8 0, Value.int .u8 0, Value.int .u8 0, Value.int .u8 0, Value.int .u8 0, Value.int .u8 0, Value.int .u8 0, Value.int .u8 0, Value.int .u8 0, Value.int .u8 0, Value.int .u8 0, Value.int .u8 0, Value.int .u8 0, Value.int .u8 0, Value.int .u8 0, Value.slice none 0 0, Value.slice none 0 0] = evRow 0 0 zeroL (.slice none 0 0) (.slice none 0 0) from rfl]
  have HE0 := Lib.hid (evRow_size 0 0 zeroL (.slice none 0 0) (.slice none 0 0) rfl)
  obtain ⟨ZE, hZE⟩ : ∃ Z, evRow 0 0 zeroL (.slice none 0 0) (.slice none 0 0) = Z := ⟨_, rfl⟩
  rw [hZE] at HE0
  rw [hZE]
  have HZE := Lib.hid hZE
  clear hZE
  have HA0 := Lib.hid (heap_alloc2_old w (.cells E 26) (.cells ZE 26))
  have HA1 := Lib.hid (heap_alloc2_new w (.cells E 26) (.cells ZE 26))
  have HBW := Lib.hid (show Below w.heap.size w ((w.alloc (.cells E 26)).alloc (.cells ZE 26)) from ((Below.refl _ _).alloc (Nat.le_refl _) _).alloc (by simp) _)
  have hs0 : ((w.alloc (.cells E 26)).alloc (.cells ZE 26)).heap.size = w.heap.size + 2 := by simp
  generalize ((w.alloc (.cells E 26)).alloc (.cells ZE 26)) = W at HA0 HA1 HBW hs0 ⊢
  obtain ⟨g1, hg1⟩ : ∃ x, w.heap.size = x := ⟨_, rfl⟩
  obtain ⟨g2, hg2⟩ : ∃ x, g1 + 1 = x := ⟨_, rfl⟩
  rw [hg1] at HA0 HA1 HBW hs0
  rw [hg2] at HA1
  rw [hg1, hg2]
  have HGE := Lib.hid hg1
  have HLT := Lib.hid (show g1 < g2 ∧ g2 < W.heap.size by omega)
  clear hg1 hg2 hs0
  have HBE := Lib.hid (fun a : Act => (show Try.prog.built 26 ((#[] : Array (Nat × Operand)).map fun (i, x) => (i, a.eval x)).toList = some ZE by rw [← HZE.out]; kernel_rfl))
  have HZI := Lib.hid (show (Try.prog.info? 26).map (·.size) = some ZE.size by rw [HE0.out]; exact info_ev)
  have HZA := Lib.hid (show ZE.all (·.oneCell') = true by rw [← HZE.out]; exact ev_one _ _ _ _ _ _ _ _ _)
  go_wp2_with (refine wpList_load_row rfl 26 (.tmp 1) rfl g1 rfl 26 E (0, 0) _ HA0.out Try.underlying26 rfl HEI.out ?_)
  refine (HM.out _ (HGE.out ▸ HBW.out)).mono ?_
  rintro e w3 ⟨rfl, hb3⟩
  have H2 := Lib.hid ((hb3.block _ HLT.out.2).trans HA1.out)
  have HB := Lib.hid (HBW.out.trans (hb3.mono (by have := HLT.out; omega)))
  clear hb3
  go_wp2_with (first
    | (refine wpList_build_as rfl 26 #[] rfl ZE (HBE.out _) ?_)
    | (refine wpList_store_row rfl 26 (.tmp 2) (.tmp 14) rfl g2 ZE rfl rfl 26 ZE H2.out HZI.out rfl HZA.out ?_))
  refine bodyPost_ret (Sha.results_cell_tmp (p := 2) (t := 3) (ty := 26) Try.results23 _ _ g2 26 ZE (0, 0) _ _ rfl rfl (setRow_heap _ _ _ _ _ _ H2.out) Try.underlying26 rfl HZI.out) rfl ⟨by rw [HZE.out]; rfl, HGE.out ▸ below_setRow HB.out (by have := HLT.out; omega) _⟩

set_option maxRecDepth 100000 in
set_option maxHeartbeats 6400000 in
theorem ref_NextE_last (d p : Nat) (hd : d ≤ 4) (hp : p < 2 ^ d) (leaf : List UInt8) (hl : leaf.length = 32) (ar as_ : Option Addr) (cr cs : Nat) (R S : List (List UInt8)) (w : World) (hR : Hashes w (.slice ar d cr) R) (h32 : H32 R) (hS : Hashes w (.slice as_ d cs) S) (h32S : H32 S) (hm : ∀ i, i < d → rightAt d p i = true → R.getD i [] = zeroL) (hj : lastG d p d = -1) :
    Calls Try.prog 23 #[.agg (evRow d p leaf (.slice ar d cr) (.slice as_ d cs))] w fun e w' => e = .returned (.tuple #[.agg (evRow 0 0 zeroL (.slice none 0 0) (.slice none 0 0)), .int .i64 4]) ∧ Below w.heap.size w w' := by
  have HM := Lib.hid (fun w' (h : Below w.heap.size w w') => ref_May_in d p hd hp leaf hl ar as_ cr cs R w' (hR.kept h) h32 true (by simpa using hm))
  have HEI := Lib.hid (ev_info d p leaf (.slice ar d cr) (.slice as_ d cs) hl)
  have HEV := Lib.hid (fun w g h => (⟨hl, h⟩ : EvAt w g d p leaf (.slice ar d cr) (.slice as_ d cs)))
  have hp16 : p < 16 := Nat.lt_of_lt_of_le hp (Nat.le_trans (Nat.pow_le_pow_right (by omega) hd) (by decide))
  have hSL := hashes_form hS
  have HS := Lib.hid hS
  have HH32 := Lib.hid h32S
  have HDG := Lib.hid (fun w => ref_Digits d p (by omega) (by omega) w)
  have HWL := Lib.hid (digitsE_len d p)
  have HGT := Lib.hid (fun i (h : i < d) => digitsE_get d p i h)
  have HJ := Lib.hid hj
  obtain ⟨way, hway⟩ : ∃ x, digitsE d p = x := ⟨_, rfl⟩
  rw [hway] at HDG HWL HGT
  have HWAYE := Lib.hid hway
  clear hway
  obtain ⟨E, hE⟩ : ∃ E, evRow d p leaf (.slice ar d cr) (.slice as_ d cs) = E := ⟨_, rfl⟩
  rw [hE] at HM HEI HEV
  rw [hE]
  clear hE hR h32 hS h32S hm hSL hj
  go_enter Try.func23, Try.ntmps23
  go_upto_region 1 with (fail)
  rw [show #[Value.int .i64 0, Value.int .i64 0, Value.int .u8 0, Value.int .u8 0, Value.int .u8 0, Value.int .u8 0, Value.int .u8 0, Value.int .u8 0, Value.int .u8 0, Value.int .u8 0, Value.int .u8 0, Value.int .u8 0, Value.int .u8 0, Value.int .u8 0, Value.int .u8 0, Value.int .u8 0, Value.int .u8 0, Value.int .u8 0, Value.int .u8 0, Value.int .u8 0, Value.int .u8 0, Value.int .u8 0, Value.int .u8 0, Value.int .u8 0, Value.int .u8 0, Value.int .u8 0, Value.int .u8 0, Value.int .u8 0, Value.int .u8 0, Value.int .u8 0, Value.int .u8 0, Value.int .u8 0, Value.int .u8 0, Value.int .u8 0, Value.slice none 0 0, Value.slice none 0 0] = evRow 0 0 zeroL (.slice none 0 0) (.slice none 0 0) from rfl]
  have HE0 := Lib.hid (evRow_size 0 0 zeroL (.slice none 0 0) (.slice none 0 0) rfl)
  obtain ⟨ZE, hZE⟩ : ∃ Z, evRow 0 0 zeroL (.slice none 0 0) (.slice none 0 0) = Z := ⟨_, rfl⟩
  rw [hZE] at HE0
  rw [hZE]
  have HZE := Lib.hid hZE
  clear hZE
  have HA0 := Lib.hid (heap_alloc2_old w (.cells E 26) (.cells ZE 26))
  have HA1 := Lib.hid (heap_alloc2_new w (.cells E 26) (.cells ZE 26))
  have HBW := Lib.hid (show Below w.heap.size w ((w.alloc (.cells E 26)).alloc (.cells ZE 26)) from ((Below.refl _ _).alloc (Nat.le_refl _) _).alloc (by simp) _)
  have hs0 : ((w.alloc (.cells E 26)).alloc (.cells ZE 26)).heap.size = w.heap.size + 2 := by simp
  generalize ((w.alloc (.cells E 26)).alloc (.cells ZE 26)) = W at HA0 HA1 HBW hs0 ⊢
  obtain ⟨g1, hg1⟩ : ∃ x, w.heap.size = x := ⟨_, rfl⟩
  obtain ⟨g2, hg2⟩ : ∃ x, g1 + 1 = x := ⟨_, rfl⟩
  rw [hg1] at HA0 HA1 HBW hs0
  rw [hg2] at HA1
  rw [hg1, hg2]
  have HGE := Lib.hid hg1
  have HLT := Lib.hid (show g1 < g2 ∧ g2 < W.heap.size by omega)
  clear hg1 hg2 hs0
  have HBE := Lib.hid (fun a : Act => (show Try.prog.built 26 ((#[] : Array (Nat × Operand)).map fun (i, x) => (i, a.eval x)).toList = some ZE by rw [← HZE.out]; kernel_rfl))
  have HZI := Lib.hid (show (Try.prog.info? 26).map (·.size) = some ZE.size by rw [HE0.out]; exact info_ev)
  have HZA := Lib.hid (show ZE.all (·.oneCell') = true by rw [← HZE.out]; exact ev_one _ _ _ _ _ _ _ _ _)
  go_wp2_with (refine wpList_load_row rfl 26 (.tmp 1) rfl g1 rfl 26 E (0, 0) _ HA0.out Try.underlying26 rfl HEI.out ?_)
  refine (HM.out _ (HGE.out ▸ HBW.out)).mono ?_
  rintro e w3 ⟨rfl, hb3⟩
  have H20 := Lib.hid ((hb3.block _ HLT.out.2).trans HA1.out)
  have HB0 := Lib.hid (HBW.out.trans (hb3.mono (by have := HLT.out; omega)))
  have HL3 := Lib.hid (show g1 < g2 ∧ g2 < w3.heap.size by have := HLT.out; have := hb3.size; omega)
  have H1 := Lib.hid ((hb3.block _ (by have := HLT.out; omega)).trans HA0.out)
  clear hb3
  have hE3 := HEV.out _ _ H1.out
  have c0 := hE3.c0
  have c1 := hE3.c1
  clear hE3
  go_wp2_with fail
  refine (HDG.out _).mono ?_
  rintro e w4 ⟨wv, rfl, hown, hb4⟩
  obtain ⟨aw, cw, rfl⟩ := OwnBl.form hown
  rw [HWL.out]
  have hbl := hown.bools
  rw [HWL.out] at hbl
  have HBL := Lib.hid hbl
  have H14 := Lib.hid ((hb4.block _ (by have := HL3.out; omega)).trans H1.out)
  have H24 := Lib.hid ((hb4.block _ HL3.out.2).trans H20.out)
  have HB4 := Lib.hid (HB0.out.trans (hb4.mono (by have := HL3.out; omega)))
  have HL4 := Lib.hid (show g1 < g2 ∧ g2 < w4.heap.size by have := HL3.out; have := hb4.size; omega)
  clear hown hbl hb4 c0 c1
  have c0 := (HEV.out _ _ H14.out).c0
  go_wp2_with fail
  go_loopw [5, 6] (fun jv iv wr => ∃ i : Nat, i ≤ d ∧ iv = .int .i64 i ∧ jv = .int .i64 (lastG d p i) ∧ w4 = wr) (fun _ iv _ => d - (intOf iv).toNat)
  case atStart => exact ⟨0, by omega, rfl, rfl, rfl⟩
  case round =>
    obtain ⟨i, hi, rfl, rfl, rfl⟩ := hrel
    by_cases hlt : i < d
    · obtain ⟨b, hb⟩ : ∃ b, rightAt d p i = b := ⟨_, rfl⟩
      have hg := HGT.out i hlt
      rw [hb] at hg
      obtain ⟨gw, rfl, hcw⟩ := bools_cell HBL.out i b hg
      have HLG := Lib.hid (show lastG d p (i + 1) = if b then lastG d p i else (i : Int) by rw [lastG, hb])
      obtain ⟨l, hl_⟩ : ∃ l, lastG d p i = l := ⟨_, rfl⟩
      rw [hl_] at HLG
      rw [hl_]
      have hii : (i : Int) < (d : Int) := by omega
      have hi0 : (0 : Int) ≤ (i : Int) := by omega
      clear hb hg hl_
      cases b with
      | true =>
        rw [if_pos rfl] at HLG
        go_wp2_with fail
        go_roundw
        case rel => exact ⟨i + 1, by omega, by go_num, by rw [HLG.out], trivial⟩
        case measure => simp [intOf]; omega
      | false =>
        rw [if_neg (by decide)] at HLG
        go_wp2_with fail
        go_roundw
        case rel => exact ⟨i + 1, by omega, by go_num, by rw [HLG.out], trivial⟩
        case measure => simp [intOf]; omega
    · obtain rfl : d = i := by omega
      rw [HJ.out]
      have hdd : ¬ ((d : Int) < (d : Int)) := by omega
      go_wp2_with (first
        | (refine wpList_build_as rfl 26 #[] rfl ZE (HBE.out _) ?_)
        | (refine wpList_store_row rfl 26 (.tmp 2) (.tmp 34) rfl g2 ZE rfl rfl 26 ZE H24.out HZI.out rfl HZA.out ?_))
      refine bodyPost_ret (Sha.results_cell_tmp (p := 2) (t := 3) (ty := 26) Try.results23 _ _ g2 26 ZE (0, 0) _ _ rfl rfl (setRow_heap _ _ _ _ _ _ H24.out) Try.underlying26 rfl HZI.out) rfl ⟨by rw [HZE.out]; rfl, HGE.out ▸ below_setRow HB4.out (by have := HLT.out; omega) _⟩

end Go.Proofs.Ytpifjeghoapjbaa.Evolve
