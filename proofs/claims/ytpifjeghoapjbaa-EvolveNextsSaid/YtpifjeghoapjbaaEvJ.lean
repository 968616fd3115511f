/- evolve: the document's May, whole; its Public. -/
import Derived.Test.YtpifjeghoapjbaaEvI
import Derived.Test.YtpifjeghoapjbaaEvIn
namespace Go.Proofs.Ytpifjeghoapjbaa.Evolve
open Go.RowKit Go.Proofs.Ytpifjeghoapjbaa.Sha Go.Proofs.Ytpifjeghoapjbaa.Tree Go.Proofs.Ytpifjeghoapjbaa.Once

theorem ref_May (d p : Int) (leaf : List UInt8) (hl : leaf.length = 32) (ar as_ : Option Addr) (nr cr ns cs : Nat) (R : List (List UInt8)) (w : World) (hR : Hashes w (.slice ar nr cr) R) (h32 : H32 R) (b : Bool) (hbm : b = true ↔ mayP d p R ns) :
    Calls Try.prog 19 #[.agg (evRow d p leaf (.slice ar nr cr) (.slice as_ ns cs))] w fun e w' => e = .returned (.bool b) ∧ Below w.heap.size w w' := by
  have hRL := hashes_form hR
  by_cases h : wayP d p ∧ R.length = d.toNat ∧ ns = d.toNat
  · obtain ⟨⟨⟨h0, h4⟩, h1, h2⟩, h3, h5⟩ := h
    obtain ⟨d, rfl⟩ : ∃ dn : Nat, d = dn := ⟨d.toNat, by omega⟩
    obtain ⟨p, rfl⟩ : ∃ pn : Nat, p = pn := ⟨p.toNat, by omega⟩
    have hp : p < 2 ^ d := by
      have : (p : Int) < ((2 ^ d : Nat) : Int) := by push_cast; simpa using h2
      omega
    rw [Int.toNat_natCast] at h3 h5
    obtain rfl : ns = d := h5
    obtain rfl : nr = ns := by omega
    exact ref_May_in nr p (by omega) hp leaf hl ar as_ cr cs R w hR h32 b (hbm.trans ⟨fun h => h.2.2.2, fun h => ⟨⟨⟨by omega, by omega⟩, by omega, h2⟩, h3, rfl, h⟩⟩)
  · obtain rfl : b = false := by
      cases b with
      | false => rfl
      | true => exact absurd (hbm.1 rfl) (fun hm => h ⟨hm.1, hm.2.1, hm.2.2.1⟩)
    exact ref_May_no d p leaf hl ar as_ nr cr ns cs R w hR h

/-- What an operation leaves. -/
inductive FactB where
  | val (v : Value)
  | bl (L : List Bool)
def FactB.holds : FactB → Value → World → Prop
  | .val v0, v, _ => v = v0
  | .bl L, v, w => ∃ a c, v = .slice a L.length c ∧ Bools w (.slice a L.length c) L
theorem FactB.kept (f : FactB) (v : Value) (w w' : World) (h : f.holds v w) (hb : Below w.heap.size w w') : f.holds v w' := by
  cases f with
  | val v0 => exact h
  | bl L =>
    obtain ⟨a, c, hv, hr⟩ := h
    exact ⟨a, c, hv, hr.kept hb⟩

theorem wp_enter_any {P : Program} {o : Oper} {a : Act} {w : World} {K : Act → World → Prop} {Q : Exit → Act → World → Prop} {f : FuncId} {args : Array Value} {R : Value → World → Prop} (h : (execOp a.eval o).run P w = .ok (.enter f args) w) (hc : Calls P f args w fun e w' => ∃ v, e = .returned v ∧ R v w') (hk : ∀ v w', R v w' → K (a.put o.dst v) w') : o.wp P a w K Q := by
  unfold Oper.wp
  rw [h]
  exact hc.mono fun e w' ⟨v, he, hr⟩ => by subst he; exact hk v w' hr

theorem zero_row : zeroB = (valsB zeroL).toArray := rfl

set_option maxRecDepth 100000 in
set_option maxHeartbeats 3200000 in
theorem ref_PublicE_no (d p : Int) (leaf : List UInt8) (hl : leaf.length = 32) (ar as_ : Option Addr) (nr cr ns cs : Nat) (R : List (List UInt8)) (w : World) (hR : Hashes w (.slice ar nr cr) R) (h32 : H32 R) (hno : ¬ mayP d p R ns) :
    Calls Try.prog 22 #[.agg (evRow d p leaf (.slice ar nr cr) (.slice as_ ns cs))] w fun e w' => e = .returned (.tuple #[.agg (valsB zeroL).toArray, .int .i64 2]) ∧ Below w.heap.size w w' := by
  have HM := Lib.hid (fun w' (h : Below w.heap.size w w') => ref_May d p leaf hl ar as_ nr cr ns cs R w' (hR.kept h) h32 false (by simp [hno]))
  have HEI := Lib.hid (ev_info d p leaf (.slice ar nr cr) (.slice as_ ns cs) hl)
  obtain ⟨E, hE⟩ : ∃ E, evRow d p leaf (.slice ar nr cr) (.slice as_ ns cs) = E := ⟨_, rfl⟩
  rw [hE] at HM HEI
  rw [hE]
  clear hE hR h32 hno
  go_enter Try.func22, Try.ntmps22
  go_upto_region 1 with (fail)
  rw [zero32]
  obtain ⟨Z, hZ⟩ : ∃ Z, (List.replicate 32 (Value.int .u8 0)).toArray = Z := ⟨_, rfl⟩
  have HZZ := Lib.hid (show Z.size = 32 by rw [← hZ]; rfl)
  rw [hZ]
  clear hZ
  have HA0 := Lib.hid (heap_alloc2_old w (.cells E 26) (.cells Z 23))
  have HA1 := Lib.hid (heap_alloc2_new w (.cells E 26) (.cells Z 23))
  have HBW := Lib.hid (show Below w.heap.size w ((w.alloc (.cells E 26)).alloc (.cells Z 23)) from ((Below.refl _ _).alloc (Nat.le_refl _) _).alloc (by simp) _)
  have hs0 : ((w.alloc (.cells E 26)).alloc (.cells Z 23)).heap.size = w.heap.size + 2 := by simp
  generalize ((w.alloc (.cells E 26)).alloc (.cells Z 23)) = W at HA0 HA1 HBW hs0 ⊢
  obtain ⟨g1, hg1⟩ : ∃ x, w.heap.size = x := ⟨_, rfl⟩
  obtain ⟨g2, hg2⟩ : ∃ x, g1 + 1 = x := ⟨_, rfl⟩
  rw [hg1] at HA0 HA1 HBW hs0
  rw [hg2] at HA1
  rw [hg1, hg2]
  have HGE := Lib.hid hg1
  have HLT := Lib.hid (show g1 < g2 ∧ g2 < W.heap.size by omega)
  clear hg1 hg2 hs0
  go_wp2_with (refine wpList_load_row rfl 26 (.tmp 1) rfl g1 rfl 26 E (0, 0) _ HA0.out Try.underlying26 rfl HEI.out ?_)
  refine (HM.out _ (HGE.out ▸ HBW.out)).mono ?_
  rintro e w3 ⟨rfl, hb3⟩
  have H2 := Lib.hid ((hb3.block _ HLT.out.2).trans HA1.out)
  have HB := Lib.hid (HBW.out.trans (hb3.mono (by have := HLT.out; omega)))
  have HZS := Lib.hid (show Z.size = zeroB.size by rw [HZZ.out]; rfl)
  clear hb3
  go_wp2_with (first
    | (refine wpList_build_as rfl 23 #[] rfl zeroB (by kernel_rfl) ?_)
    | (refine wpList_store_row rfl 23 (.tmp 2) (.tmp 7) rfl g2 zeroB rfl rfl 23 Z H2.out zeroB_info HZS.out (by kernel_rfl) ?_))
  refine bodyPost_ret (Sha.results_cell_tmp (p := 2) (t := 3) (ty := 23) Try.results22 _ _ g2 23 zeroB (0, 0) _ _ rfl rfl (setRow_heap _ _ _ _ _ _ H2.out) Try.underlying23 rfl zeroB_info) rfl ⟨rfl, HGE.out ▸ below_setRow HB.out (by have := HLT.out; omega) _⟩

set_option maxRecDepth 100000 in
set_option maxHeartbeats 6400000 in
theorem ref_PublicE (d p : Nat) (hd : d ≤ 4) (hp : p < 2 ^ d) (leaf : List UInt8) (hl : leaf.length = 32) (ar as_ : Option Addr) (cr cs : Nat) (R S : List (List UInt8)) (w : World) (hR : Hashes w (.slice ar d cr) R) (h32 : H32 R) (hS : Hashes w (.slice as_ d cs) S) (h32S : H32 S) (hm : ∀ i, i < d → rightAt d p i = true → R.getD i [] = zeroL) :
    Calls Try.prog 22 #[.agg (evRow d p leaf (.slice ar d cr) (.slice as_ d cs))] w fun e w' => e = .returned (.tuple #[.agg (valsB (overE (digitsE d p) S 0 d (pubK leaf))).toArray, .int .i64 0]) ∧ Below w.heap.size w w' := by
  have HM := Lib.hid (fun w' (h : Below w.heap.size w w') => ref_May_in d p hd hp leaf hl ar as_ cr cs R w' (hR.kept h) h32 true (by simpa using hm))
  have HEI := Lib.hid (ev_info d p leaf (.slice ar d cr) (.slice as_ d cs) hl)
  have HEV := Lib.hid (fun w g h => (⟨hl, h⟩ : EvAt w g d p leaf (.slice ar d cr) (.slice as_ d cs)))
  have hp16 : p < 16 := Nat.lt_of_lt_of_le hp (Nat.le_trans (Nat.pow_le_pow_right (by omega) hd) (by decide))
  have HPU := Lib.hid (fun w => ref_Public leaf hl w)
  have HDG := Lib.hid (fun w => ref_Digits d p (by omega) (by omega) w)
  have HOV := Lib.hid (fun aw cw w h1 h2 => ref_Over (pubK leaf) (pubK_len leaf) aw d cw (digitsE d p) as_ d cs S 0 w h1 (digitsE_len d p) h2 (hashes_form hS) h32S (Nat.le_refl _) (by omega) (by omega))
  have HS := Lib.hid hS
  have HWL := Lib.hid (digitsE_len d p)
  have HIL := Lib.hid (info_len leaf hl)
  have HRE := Lib.hid (row32 (overE (digitsE d p) S 0 d (pubK leaf)) (overE_len _ _ _ _ _ (pubK_len leaf)))
  obtain ⟨CE, hCE⟩ : ∃ C, (valsB (overE (digitsE d p) S 0 d (pubK leaf))).toArray = C := ⟨_, rfl⟩
  obtain ⟨CP, hCP⟩ : ∃ C, (valsB (pubK leaf)).toArray = C := ⟨_, rfl⟩
  obtain ⟨CL, hCL⟩ : ∃ C, (valsB leaf).toArray = C := ⟨_, rfl⟩
  rw [hCE, hCP] at HOV
  rw [hCL, hCP] at HPU
  rw [hCE] at HRE
  have HCL := Lib.hid hCL
  rw [hCE]
  obtain ⟨way, hway⟩ : ∃ x, digitsE d p = x := ⟨_, rfl⟩
  rw [hway] at HDG HOV HWL
  obtain ⟨E, hE⟩ : ∃ E, evRow d p leaf (.slice ar d cr) (.slice as_ d cs) = E := ⟨_, rfl⟩
  rw [hE] at HM HEI HEV
  rw [hE]
  clear hE hR h32 hS h32S hm hCE hCP hCL hway
  go_enter Try.func22, Try.ntmps22
  go_upto_region 1 with (fail)
  rw [zero32]
  obtain ⟨Z, hZ⟩ : ∃ Z, (List.replicate 32 (Value.int .u8 0)).toArray = Z := ⟨_, rfl⟩
  have HZZ := Lib.hid (show Z.size = 32 by rw [← hZ]; rfl)
  rw [hZ]
  clear hZ
  have HA0 := Lib.hid (heap_alloc2_old w (.cells E 26) (.cells Z 23))
  have HA1 := Lib.hid (heap_alloc2_new w (.cells E 26) (.cells Z 23))
  have HBW := Lib.hid (show Below w.heap.size w ((w.alloc (.cells E 26)).alloc (.cells Z 23)) from ((Below.refl _ _).alloc (Nat.le_refl _) _).alloc (by simp) _)
  have hs0 : ((w.alloc (.cells E 26)).alloc (.cells Z 23)).heap.size = w.heap.size + 2 := by simp
  generalize ((w.alloc (.cells E 26)).alloc (.cells Z 23)) = W at HA0 HA1 HBW hs0 ⊢
  obtain ⟨g1, hg1⟩ : ∃ x, w.heap.size = x := ⟨_, rfl⟩
  obtain ⟨g2, hg2⟩ : ∃ x, g1 + 1 = x := ⟨_, rfl⟩
  rw [hg1] at HA0 HA1 HBW hs0
  rw [hg2] at HA1
  rw [hg1, hg2]
  have HGE := Lib.hid hg1
  have HLT := Lib.hid (show g1 < g2 ∧ g2 < W.heap.size by omega)
  clear hg1 hg2 hs0
  go_wp2_with (refine wpList_load_row rfl 26 (.tmp 1) rfl g1 rfl 26 E (0, 0) _ HA0.out Try.underlying26 rfl HEI.out ?_)
  refine (HM.out _ (HGE.out ▸ HBW.out)).mono ?_
  rintro e w3 ⟨rfl, hb3⟩
  have H2 := Lib.hid ((hb3.block _ HLT.out.2).trans HA1.out)
  have H1 := Lib.hid (HEV.out _ _ ((hb3.block _ (Nat.lt_trans HLT.out.1 HLT.out.2)).trans HA0.out))
  have HB := Lib.hid (HBW.out.trans (hb3.mono (by have := HLT.out; omega)))
  have HZS := Lib.hid (show Z.size = CE.size by rw [HZZ.out, HRE.out.size])
  have HL3 := Lib.hid (show g2 < w3.heap.size from Nat.lt_of_lt_of_le HLT.out.2 hb3.size)
  have HS3 := Lib.hid (HS.out.kept (HGE.out ▸ HB.out))
  clear hb3
  go_upto_region 3 with (fail)
  refine QT.wp_region_facts_tail 11 (by kernel_rfl) (fun w' => Below w3.heap.size w3 w') (fun n v w' => (([.val (.pointer (some ⟨g1, 2, none⟩)), .val (.agg CL), .val (.agg CP), .val (.pointer (some ⟨g1, 0, none⟩)), .val (.int .i64 d), .val (.pointer (some ⟨g1, 1, none⟩)), .val (.int .i64 p), .bl way, .val (.pointer (some ⟨g1, 35, none⟩)), .val (.slice as_ d cs), .val (.agg CE)] : List FactB).getD n (.val undef) : FactB).holds v w') (by kernel_rfl) (by kernel_rfl) (Below.refl _ _).drew (fun w1 w2 h1 hb => h1.trans (hb.mono h1.size)) (fun n v w1 w2 h hb => FactB.kept _ v w1 w2 h hb) (fun n o hn ho a wz hI hag hdep => ?_) (fun a wz hI hag hf => ?_)
  · have t1 : a.eval (.tmp 1) = .pointer (some ⟨g1, 0, none⟩) := hag.old 1 _ (by kernel_rfl) rfl
    have hK := H1.out.kept hI
    have c0 := hK.c0
    have c1 := hK.c1
    have c35 := hK.c35
    match n, ho with
    | 0, ho =>
      obtain rfl := (Option.some.inj ho).symm
      exact ⟨rfl, QT.wp_value (v := .pointer (some ⟨g1, 2, none⟩)) (by simp [go_sem, QT.nf t1]) ⟨_, rfl, rfl, Below.refl _ _⟩⟩
    | 1, ho =>
      obtain rfl := (Option.some.inj ho).symm
      have d8 : a.eval (.tmp 8) = .pointer (some ⟨g1, 2, none⟩) := hdep _ (Array.mem_of_getElem? (i := 0) rfl) rfl _ _ rfl rfl
      exact ⟨rfl, wp_load_mid 23 (.tmp 8) rfl g1 2 (by simpa [go_sem] using d8) (valsB leaf) _ ((H1.out.kept hI).lf) Try.underlying23 rfl HIL.out ⟨_, rfl, by rw [HCL.out]; rfl, Below.refl _ _⟩⟩
    | 2, ho =>
      obtain rfl := (Option.some.inj ho).symm
      have d9 : a.eval (.tmp 9) = .agg CL := hdep _ (Array.mem_of_getElem? (i := 0) rfl) rfl _ _ rfl rfl
      exact ⟨rfl, QT.wp_enter (f := 43) (args := #[.agg CL]) (by simp [go_sem, QT.nf d9]) (HPU.out wz) fun w' hb => ⟨_, rfl, rfl, hb⟩⟩
    | 3, ho =>
      obtain rfl := (Option.some.inj ho).symm
      exact ⟨rfl, QT.wp_value (v := .pointer (some ⟨g1, 0, none⟩)) (by simp [go_sem, QT.nf t1]) ⟨_, rfl, rfl, Below.refl _ _⟩⟩
    | 4, ho =>
      obtain rfl := (Option.some.inj ho).symm
      have d11 : a.eval (.tmp 11) = .pointer (some ⟨g1, 0, none⟩) := hdep _ (Array.mem_of_getElem? (i := 0) rfl) rfl _ _ rfl rfl
      exact ⟨rfl, QT.wp_value (v := .int .i64 d) (by simp [go_sem, QT.nf d11, c0]) ⟨_, rfl, rfl, Below.refl _ _⟩⟩
    | 5, ho =>
      obtain rfl := (Option.some.inj ho).symm
      exact ⟨rfl, QT.wp_value (v := .pointer (some ⟨g1, 1, none⟩)) (by simp [go_sem, QT.nf t1]) ⟨_, rfl, rfl, Below.refl _ _⟩⟩
    | 6, ho =>
      obtain rfl := (Option.some.inj ho).symm
      have d13 : a.eval (.tmp 13) = .pointer (some ⟨g1, 1, none⟩) := hdep _ (Array.mem_of_getElem? (i := 0) rfl) rfl _ _ rfl rfl
      exact ⟨rfl, QT.wp_value (v := .int .i64 p) (by simp [go_sem, QT.nf d13, c1]) ⟨_, rfl, rfl, Below.refl _ _⟩⟩
    | 7, ho =>
      obtain rfl := (Option.some.inj ho).symm
      have d12 : a.eval (.tmp 12) = .int .i64 d := hdep _ (Array.mem_of_getElem? (i := 0) rfl) rfl _ _ rfl rfl
      have d14 : a.eval (.tmp 14) = .int .i64 p := hdep _ (Array.mem_of_getElem? (i := 1) rfl) rfl _ _ rfl rfl
      exact ⟨rfl, wp_enter_any (f := 38) (args := #[.int .i64 d, .int .i64 p]) (by simp [go_sem, QT.nf d12, QT.nf d14]) (HDG.out wz) fun v w' ⟨hown, hb⟩ => by
        obtain ⟨aa, cc, rfl⟩ := OwnBl.form hown
        exact ⟨_, rfl, ⟨aa, cc, rfl, hown.bools⟩, hb⟩⟩
    | 8, ho =>
      obtain rfl := (Option.some.inj ho).symm
      exact ⟨rfl, QT.wp_value (v := .pointer (some ⟨g1, 35, none⟩)) (by simp [go_sem, QT.nf t1]) ⟨_, rfl, rfl, Below.refl _ _⟩⟩
    | 9, ho =>
      obtain rfl := (Option.some.inj ho).symm
      have d16 : a.eval (.tmp 16) = .pointer (some ⟨g1, 35, none⟩) := hdep _ (Array.mem_of_getElem? (i := 0) rfl) rfl _ _ rfl rfl
      exact ⟨rfl, QT.wp_value (v := .slice as_ d cs) (by simp [go_sem, QT.nf d16, c35]) ⟨_, rfl, rfl, Below.refl _ _⟩⟩
    | 10, ho =>
      obtain rfl := (Option.some.inj ho).symm
      have d10 : a.eval (.tmp 10) = .agg CP := hdep _ (Array.mem_of_getElem? (i := 0) rfl) rfl _ _ rfl rfl
      have d15 : ((.bl way) : FactB).holds (a.eval (.tmp 15)) wz := hdep _ (Array.mem_of_getElem? (i := 1) rfl) rfl _ _ rfl rfl
      have d17 : a.eval (.tmp 17) = .slice as_ d cs := hdep _ (Array.mem_of_getElem? (i := 2) rfl) rfl _ _ rfl rfl
      obtain ⟨aw, cw, d15', y15⟩ := d15
      rw [HWL.out] at d15' y15
      exact ⟨rfl, QT.wp_enter (f := 42) (args := #[.agg CP, .slice aw d cw, .slice as_ d cs, .int .i64 0]) (by simp [go_sem, QT.nf d10, QT.nf d15', QT.nf d17]) (HOV.out aw cw wz y15 (HS3.out.kept hI)) fun w' hb => ⟨_, rfl, rfl, hb⟩⟩
    | n + 11, ho => omega
  · have f0 : a.eval (.tmp 8) = .pointer (some ⟨g1, 2, none⟩) := hf 0 _ _ (by omega) rfl rfl
    have f1 : a.eval (.tmp 9) = .agg CL := hf 1 _ _ (by omega) rfl rfl
    have f2 : a.eval (.tmp 10) = .agg CP := hf 2 _ _ (by omega) rfl rfl
    have f3 : a.eval (.tmp 11) = .pointer (some ⟨g1, 0, none⟩) := hf 3 _ _ (by omega) rfl rfl
    have f4 : a.eval (.tmp 12) = .int .i64 d := hf 4 _ _ (by omega) rfl rfl
    have f5 : a.eval (.tmp 13) = .pointer (some ⟨g1, 1, none⟩) := hf 5 _ _ (by omega) rfl rfl
    have f6 : a.eval (.tmp 14) = .int .i64 p := hf 6 _ _ (by omega) rfl rfl
    have f7' : ((.bl way) : FactB).holds (a.eval (.tmp 15)) wz := hf 7 _ _ (by omega) rfl rfl
    obtain ⟨q7, c7, f7, y7⟩ := f7'
    have f8 : a.eval (.tmp 16) = .pointer (some ⟨g1, 35, none⟩) := hf 8 _ _ (by omega) rfl rfl
    have f9 : a.eval (.tmp 17) = .slice as_ d cs := hf 9 _ _ (by omega) rfl rfl
    have f10 : a.eval (.tmp 18) = .agg CE := hf 10 _ _ (by omega) rfl rfl
    have ha := hag.puts [(8, .pointer (some ⟨g1, 2, none⟩)), (9, .agg CL), (10, .agg CP), (11, .pointer (some ⟨g1, 0, none⟩)), (12, .int .i64 d), (13, .pointer (some ⟨g1, 1, none⟩)), (14, .int .i64 p), (15, .slice q7 way.length c7), (16, .pointer (some ⟨g1, 35, none⟩)), (17, .slice as_ d cs), (18, .agg CE)] rfl (by simp) (by simp only [List.forall_mem_cons, List.not_mem_nil, false_implies, implies_true, and_true]; exact ⟨f0, f1, f2, f3, f4, f5, f6, f7, f8, f9, f10⟩)
    subst ha
    clear hag hf f0 f1 f2 f3 f4 f5 f6 f7 f8 f9 f10
    simp only [List.foldl_cons, List.foldl_nil, Act.put, List.drop_succ_cons, List.drop_zero, List.setIfInBounds_toArray, List.set_cons_succ, List.set_cons_zero]
    have HQ2 := Lib.hid ((hI.block _ HL3.out).trans H2.out)
    have HBZ := Lib.hid (HB.out.trans (hI.mono (by have := HLT.out; have := HL3.out; omega)))
    clear hI
    go_wp2_with (refine wpList_store_row rfl 23 (.tmp 2) (.tmp 18) rfl g2 CE rfl rfl 23 Z HQ2.out HRE.out.info HZS.out HRE.out.one ?_)
    refine bodyPost_ret (Sha.results_cell_tmp (p := 2) (t := 3) (ty := 23) Try.results22 _ _ g2 23 CE (0, 0) _ _ rfl rfl (setRow_heap _ _ _ _ _ _ HQ2.out) Try.underlying23 rfl HRE.out.info) rfl ⟨rfl, HGE.out ▸ below_setRow HBZ.out (by have := HLT.out; omega) _⟩

end Go.Proofs.Ytpifjeghoapjbaa.Evolve
