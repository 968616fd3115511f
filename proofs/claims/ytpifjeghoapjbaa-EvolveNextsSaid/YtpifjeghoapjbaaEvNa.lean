/- evolve: the document's Next: the key behind it. -/
import Derived.Test.YtpifjeghoapjbaaEvN
import Derived.Test.YtpifjeghoapjbaaEvR
namespace Go.Proofs.Ytpifjeghoapjbaa.Evolve
open Go.RowKit Go.Proofs.Ytpifjeghoapjbaa.Sha Go.Proofs.Ytpifjeghoapjbaa.Tree Go.Proofs.Ytpifjeghoapjbaa.Once

/-- What an operation leaves. -/
inductive FactN where
  | val (v : Value)
  | key (d p : Int) (T : List UInt8) (R S : List (List UInt8))
  | fresh (B : Nat)
def FactN.holds : FactN → Value → World → Prop
  | .val v0, v, _ => v = v0
  | .key d p T R S, v, w => ∃ a n1 c1 b n2 c2, v = .agg (evRow d p T (.slice a n1 c1) (.slice b n2 c2)) ∧ OwnH 0 (.slice a n1 c1) R w ∧ OwnH 0 (.slice b n2 c2) S w
  | .fresh B, v, w => ∃ g, v = .pointer (some ⟨g, 0, none⟩) ∧ B ≤ g ∧ w.heap[g]? = some (.cells ZEv 26 (0, 0))
theorem FactN.kept (f : FactN) (v : Value) (w w' : World) (h : f.holds v w) (hb : Below w.heap.size w w') : f.holds v w' := by
  cases f with
  | val v0 => exact h
  | key d p T R S =>
    obtain ⟨a, n1, c1, b, n2, c2, hv, h1, h2⟩ := h
    exact ⟨a, n1, c1, b, n2, c2, hv, h1.kept hb, h2.kept hb⟩
  | fresh B =>
    obtain ⟨g, hv, hB, hg⟩ := h
    exact ⟨g, hv, hB, (hb.block g (Array.getElem?_eq_some_iff.1 hg).1).trans hg⟩
theorem own_ne {B : Nat} {v : Value} {P : List (List UInt8)} {w : World} (h : OwnH B v P w) {g : Nat} {cs : Array Value} {fr : Nat × Nat} (hg : w.heap[g]? = some (.cells cs 26 fr)) : ∀ k, v.ownBlock = some k → k ≠ g := by
  intro k hk hkg
  subst hkg
  rcases h.own.2 with ⟨rfl, _⟩ | ⟨g, cap, cur, rfl, _, h2, _⟩
  · simp [Value.ownBlock] at hk
  · simp [Value.ownBlock] at hk
    subst hk
    rw [h2] at hg
    have h3 := Option.some.inj hg
    injection h3 with _ h4
    exact absurd h4 (by decide)
theorem ref_keyO (seed : List UInt8) (hs : seed.length = 32) (d p : Nat) (hd : d ≤ 100) (hp : p ≤ 1000) (w : World) :
    Calls Try.prog 17 #[.agg (valsB seed).toArray, .int .i64 d, .int .i64 p] w fun e w' => ∃ v, e = .returned v ∧ (FactN.key d p (keyP d p seed).1 (keyP d p seed).2.1 (keyP d p seed).2.2).holds v w' ∧ Below w.heap.size w w' := by
  refine (ref_Key seed hs d p hd (by omega) w).mono ?_
  rintro e w' ⟨rv, sv, rfl, h1, h2, hb⟩
  obtain ⟨a, c, rfl⟩ := own_formE h1
  obtain ⟨b, c2, rfl⟩ := own_formE h2
  exact ⟨_, rfl, ⟨_, _, _, _, _, _, rfl, own_mono h1 (Nat.zero_le _), own_mono h2 (Nat.zero_le _)⟩, hb⟩
theorem wrap_small (n : Nat) (h : n ≤ 1000) : IntKind.i64.wrap (n : Int) = (n : Int) := by unfold IntKind.wrap; simp [IntKind.bits, IntKind.signed]; omega
theorem take_more {α : Type} {L : List α} {n : Nat} {x : α} (h : L[n]? = some x) : L.take (n + 1) = L.take n ++ [x] := by rw [List.take_add_one, h]; rfl

set_option maxRecDepth 100000 in
set_option maxHeartbeats 12800000 in
theorem ref_NextF (d p : Nat) (hd : d ≤ 4) (hp : p < 2 ^ d) (leaf : List UInt8) (hl : leaf.length = 32) (ar as_ : Option Addr) (cr cs : Nat) (R S : List (List UInt8)) (w : World) (hR : Hashes w (.slice ar d cr) R) (h32 : H32 R) (hS : Hashes w (.slice as_ d cs) S) (h32S : H32 S) (hm : ∀ i, i < d → rightAt d p i = true → R.getD i [] = zeroL) (j : Nat) (hj : lastG d p d = (j : Int)) (hjd : j < d) :
    Calls Try.prog 23 #[.agg (evRow d p leaf (.slice ar d cr) (.slice as_ d cs))] w fun e w' => ∃ a' b' c1 c2, e = .returned (.tuple #[.agg (evRow d ((p + 1 : Nat) : Int) (nextT d p j leaf R S).1 (.slice a' d c1) (.slice b' d c2)), .int .i64 0]) ∧ Hashes w' (.slice a' d c1) (nextT d p j leaf R S).2.1 ∧ Hashes w' (.slice b' d c2) (nextT d p j leaf R S).2.2 ∧ Below w.heap.size w w' := by
  have hRL := hashes_form hR
  have hSL := hashes_form hS
  obtain ⟨sj, hsj⟩ : ∃ s, R[j]? = some s := ⟨R[j]'(by omega), List.getElem?_eq_getElem _⟩
  obtain ⟨tj, htj⟩ : ∃ s, S[j]? = some s := ⟨S[j]'(by omega), List.getElem?_eq_getElem _⟩
  have hsjl := h32 sj (List.mem_of_getElem? hsj)
  obtain ⟨gr, or_, har, _⟩ := hashes_cellE hR j sj hsj
  obtain ⟨gs, os_, has, _⟩ := hashes_cellE hS j tj htj
  subst har has
  clear htj
  have HM := Lib.hid (fun w' (h : Below w.heap.size w w') => ref_May_in d p hd hp leaf hl (some ⟨gr, or_, none⟩) (some ⟨gs, os_, none⟩) cr cs R w' (hR.kept h) h32 true (by simpa using hm))
  have HEI := Lib.hid (ev_info d p leaf (.slice (some ⟨gr, or_, none⟩) d cr) (.slice (some ⟨gs, os_, none⟩) d cs) hl)
  have HEV := Lib.hid (fun w g h => (⟨hl, h⟩ : EvAt w g d p leaf (.slice (some ⟨gr, or_, none⟩) d cr) (.slice (some ⟨gs, os_, none⟩) d cs)))
  have hp16 : p < 16 := Nat.lt_of_lt_of_le hp (Nat.le_trans (Nat.pow_le_pow_right (by omega) hd) (by decide))
  have HS := Lib.hid hS
  have HR := Lib.hid hR
  have HH32 := Lib.hid h32S
  have HR32 := Lib.hid h32
  have HS32 := Lib.hid h32S
  have HRL := Lib.hid hRL
  have HSL := Lib.hid hSL
  have HIL := Lib.hid (info_len leaf hl)
  obtain ⟨bh, hbh⟩ : ∃ x, overE (digitsE d p) S (j + 1) d (pubK leaf) = x := ⟨_, rfl⟩
  have hbhl : bh.length = 32 := by rw [← hbh]; exact overE_len _ _ _ _ _ (pubK_len leaf)
  obtain ⟨e, he⟩ : ∃ e, d - 1 - j = e := ⟨_, rfl⟩
  have hkl := keyP_len sj hsjl e 0
  have hk32 := keyP_h32 sj e 0
  have hky := fun w => ref_keyO sj hsjl e 0 (by omega) (by omega) w
  have hnt : nextT d p j leaf R S = ((keyP e 0 sj).1, R.take j ++ [zeroL] ++ (keyP e 0 sj).2.1, S.take j ++ [bh] ++ (keyP e 0 sj).2.2) := by
    rw [nextT_doc d p j hd leaf R S, hbh, he, List.getD_eq_getElem?_getD, hsj]
    rfl
  obtain ⟨⟨K, RK, SK⟩, hK⟩ : ∃ t, keyP e 0 sj = t := ⟨_, rfl⟩
  rw [hK] at hkl hk32 hky hnt
  rw [hnt]
  have HOV := Lib.hid (fun aw cw w h1 h2 => ref_Over (pubK leaf) (pubK_len leaf) aw d cw (digitsE d p) (some ⟨gs, os_, none⟩) d cs S (j + 1) w h1 (digitsE_len d p) h2 hSL h32S (Nat.le_refl _) (by omega) (by omega))
  rw [hbh] at HOV
  have HPU := Lib.hid (fun w => ref_Public leaf hl w)
  have HRBH := Lib.hid (row32 bh hbhl)
  have HISJ := Lib.hid (info_len sj hsjl)
  have HIK := Lib.hid (info_len K hkl.1)
  have HKL := Lib.hid hkl.1
  have HRKL := Lib.hid hkl.2.1
  have HSKL := Lib.hid hkl.2.2
  have HRK32 := Lib.hid hk32.1
  have HSK32 := Lib.hid hk32.2
  have HBH32 := Lib.hid (show H32 [bh] from fun y hy => by simp at hy; subst hy; exact hbhl)
  have HSJ := Lib.hid hsj
  obtain ⟨CB, hCB⟩ : ∃ C, (valsB bh).toArray = C := ⟨_, rfl⟩
  obtain ⟨CJ, hCJ⟩ : ∃ C, (valsB sj).toArray = C := ⟨_, rfl⟩
  obtain ⟨CK, hCK⟩ : ∃ C, (valsB K).toArray = C := ⟨_, rfl⟩
  obtain ⟨CP, hCP⟩ : ∃ C, (valsB (pubK leaf)).toArray = C := ⟨_, rfl⟩
  obtain ⟨CL, hCL⟩ : ∃ C, (valsB leaf).toArray = C := ⟨_, rfl⟩
  rw [hCB, hCP] at HOV
  rw [hCL, hCP] at HPU
  rw [hCJ] at hky
  have HKY := Lib.hid hky
  have HCB := Lib.hid hCB
  have HCJ := Lib.hid hCJ
  have HCK := Lib.hid hCK
  have HCL := Lib.hid hCL
  obtain ⟨p1, hp1⟩ : ∃ x, p + 1 = x := ⟨_, rfl⟩
  rw [hp1]
  obtain ⟨d1, hd1⟩ : ∃ x, d - 1 = x := ⟨_, rfl⟩
  obtain ⟨j1, hj1⟩ : ∃ x, j + 1 = x := ⟨_, rfl⟩
  rw [hj1] at HOV
  have HPI := Lib.hid (show (p : Int) + 1 = (p1 : Int) by omega)
  have HD1 := Lib.hid (show (d : Int) - 1 = (d1 : Int) by omega)
  have HDE := Lib.hid (show (d1 : Int) - (j : Int) = (e : Int) by omega)
  have HJ1 := Lib.hid (show (j : Int) + 1 = (j1 : Int) by omega)
  have HEN := Lib.hid (show j + 1 + e = d ∧ d ≤ 4 ∧ p1 ≤ 17 ∧ j1 = j + 1 by omega)
  have HWD1 := Lib.hid (wrap_small d1 (by omega))
  have HWE := Lib.hid (wrap_small e (by omega))
  have HWJ := Lib.hid (wrap_small j1 (by omega))
  have HWP := Lib.hid (wrap_small p1 (by omega))
  have HJD := Lib.hid (show j < d from hjd)
  clear hp1 hd1 hj1 he hCB hCJ hCK hCP hCL hnt hK hkl hk32 hky hbh hbhl hsjl hsj hRL hjd
  have HDG := Lib.hid (fun w => ref_Digits d p (by omega) (by omega) w)
  have HWL := Lib.hid (digitsE_len d p)
  have HGT := Lib.hid (fun i (h : i < d) => digitsE_get d p i h)
  have HJ := Lib.hid hj
  obtain ⟨way, hway⟩ : ∃ x, digitsE d p = x := ⟨_, rfl⟩
  rw [hway] at HDG HWL HGT HOV
  have HWAYE := Lib.hid hway
  clear hway
  obtain ⟨E, hE⟩ : ∃ E, evRow d p leaf (.slice (some ⟨gr, or_, none⟩) d cr) (.slice (some ⟨gs, os_, none⟩) d cs) = E := ⟨_, rfl⟩
  rw [hE] at HM HEI HEV
  rw [hE]
  clear hE hR h32 hS h32S hm hSL hj
  go_enter Try.func23, Try.ntmps23
  go_upto_region 1 with (fail)
  rw [show #[Value.int .i64 0, Value.int .i64 0, Value.int .u8 0, Value.int .u8 0, Value.int .u8 0, Value.int .u8 0, Value.int .u8 0, Value.int .u8 0, Value.int .u8 0, Value.int .u8 0, Value.int .u8 0, Value.int .u8 0, Value.int .u8 0, Value.int .u8 0, Value.int .u8 0, Value.int .u8 0, Value.int .u8 0, Value.int .u8 0, Value.int .u8 0, Value.int .u8 0, Value.int .u8 0, Value.int .u8 0, Value.int .u8 0, Value.int .u8 0, Value.int .u8 0, Value.int .u8 0, Value.int .u8 0, Value.int .u8 0, Value.int .u8 0, Value.int .u8 0, Value.int .u8 0, Value.int .u8 0, Value.int .u8 0, Value.int .u8 0, Value.slice none 0 0, Value.slice none 0 0] = evRow 0 0 zeroL (.slice none 0 0) (.slice none 0 0) from rfl]
  have HE0 := Lib.hid (evRow_size 0 0 zeroL (.slice none 0 0) (.slice none 0 0) rfl)
  obtain ⟨ZE, hZE⟩ : ∃ Z, evRow 0 0 zeroL (.slice none 0 0) (.slice none 0 0) = Z := ⟨_, rfl⟩
  rw [hZE] at HE0
  rw [hZE]
  have HZE := Lib.hid hZE
  clear hZE
  have HA0 := Lib.hid (heap_alloc2_old w (.cells E 26) (.cells ZE 26))
  have HA1 := Lib.hid (heap_alloc2_new w (.cells E 26) (.cells ZE 26))
  have HBW := Lib.hid (show Below w.heap.size w ((w.alloc (.cells E 26)).alloc (.cells ZE 26)) from ((Below.refl _ _).alloc (Nat.le_refl _) _).alloc (by simp) _)
  have hs0 : ((w.alloc (.cells E 26)).alloc (.cells ZE 26)).heap.size = w.heap.size + 2 := by simp
  generalize ((w.alloc (.cells E 26)).alloc (.cells ZE 26)) = W at HA0 HA1 HBW hs0 ⊢
  obtain ⟨g1, hg1⟩ : ∃ x, w.heap.size = x := ⟨_, rfl⟩
  obtain ⟨g2, hg2⟩ : ∃ x, g1 + 1 = x := ⟨_, rfl⟩
  rw [hg1] at HA0 HA1 HBW hs0
  rw [hg2] at HA1
  rw [hg1, hg2]
  have HGE := Lib.hid hg1
  have HLT := Lib.hid (show g1 < g2 ∧ g2 < W.heap.size by omega)
  clear hg1 hg2 hs0
  have HBE := Lib.hid (fun a : Act => (show Try.prog.built 26 ((#[] : Array (Nat × Operand)).map fun (i, x) => (i, a.eval x)).toList = some ZE by rw [← HZE.out]; kernel_rfl))
  have HZI := Lib.hid (show (Try.prog.info? 26).map (·.size) = some ZE.size by rw [HE0.out]; exact info_ev)
  have HZA := Lib.hid (show ZE.all (·.oneCell') = true by rw [← HZE.out]; exact ev_one _ _ _ _ _ _ _ _ _)
  go_wp2_with (refine wpList_load_row rfl 26 (.tmp 1) rfl g1 rfl 26 E (0, 0) _ HA0.out Try.underlying26 rfl HEI.out ?_)
  refine (HM.out _ (HGE.out ▸ HBW.out)).mono ?_
  rintro e w3 ⟨rfl, hb3⟩
  have H20 := Lib.hid ((hb3.block _ HLT.out.2).trans HA1.out)
  have HB0 := Lib.hid (HBW.out.trans (hb3.mono (by have := HLT.out; omega)))
  have HL3 := Lib.hid (show g1 < g2 ∧ g2 < w3.heap.size by have := HLT.out; have := hb3.size; omega)
  have H1 := Lib.hid ((hb3.block _ (by have := HLT.out; omega)).trans HA0.out)
  clear hb3
  have hE3 := HEV.out _ _ H1.out
  have c0 := hE3.c0
  have c1 := hE3.c1
  clear hE3
  go_wp2_with fail
  refine (HDG.out _).mono ?_
  rintro e w4 ⟨wv, rfl, hown, hb4⟩
  obtain ⟨aw, cw, rfl⟩ := OwnBl.form hown
  rw [HWL.out]
  have hbl := hown.bools
  rw [HWL.out] at hbl
  have HBL := Lib.hid hbl
  have H14 := Lib.hid ((hb4.block _ (by have := HL3.out; omega)).trans H1.out)
  have H24 := Lib.hid ((hb4.block _ HL3.out.2).trans H20.out)
  have HB4 := Lib.hid (HB0.out.trans (hb4.mono (by have := HL3.out; omega)))
  have HL4 := Lib.hid (show g1 < g2 ∧ g2 < w4.heap.size by have := HL3.out; have := hb4.size; omega)
  clear hown hbl hb4 c0 c1
  have c0 := (HEV.out _ _ H14.out).c0
  go_wp2_with fail
  go_loopw [5, 6] (fun jv iv wr => ∃ i : Nat, i ≤ d ∧ iv = .int .i64 i ∧ jv = .int .i64 (lastG d p i) ∧ w4 = wr) (fun _ iv _ => d - (intOf iv).toNat)
  case atStart => exact ⟨0, by omega, rfl, rfl, rfl⟩
  case round =>
    obtain ⟨i, hi, rfl, rfl, rfl⟩ := hrel
    by_cases hlt : i < d
    · obtain ⟨b, hb⟩ : ∃ b, rightAt d p i = b := ⟨_, rfl⟩
      have hg := HGT.out i hlt
      rw [hb] at hg
      obtain ⟨gw, rfl, hcw⟩ := bools_cell HBL.out i b hg
      have HLG := Lib.hid (show lastG d p (i + 1) = if b then lastG d p i else (i : Int) by rw [lastG, hb])
      obtain ⟨l, hl_⟩ : ∃ l, lastG d p i = l := ⟨_, rfl⟩
      rw [hl_] at HLG
      rw [hl_]
      have hii : (i : Int) < (d : Int) := by omega
      have hi0 : (0 : Int) ≤ (i : Int) := by omega
      clear hb hg hl_
      cases b with
      | true =>
        rw [if_pos rfl] at HLG
        go_wp2_with fail
        go_roundw
        case rel => exact ⟨i + 1, by omega, by go_num, by rw [HLG.out], trivial⟩
        case measure => simp [intOf]; omega
      | false =>
        rw [if_neg (by decide)] at HLG
        go_wp2_with fail
        go_roundw
        case rel => exact ⟨i + 1, by omega, by go_num, by rw [HLG.out], trivial⟩
        case measure => simp [intOf]; omega
    · obtain rfl : d = i := by omega
      rw [HJ.out]
      have hdd : ¬ ((d : Int) < (d : Int)) := by omega
      have hj0 : ¬ ((j : Int) < 0) := by omega
      have HL41 := Lib.hid (show g1 < w4.heap.size by have := HL4.out; omega)
      have HL42 := Lib.hid (show g2 < w4.heap.size by have := HL4.out; omega)
      have HR4 := Lib.hid (HR.out.kept (HGE.out ▸ HB4.out))
      have HS4 := Lib.hid (HS.out.kept (HGE.out ▸ HB4.out))
      obtain ⟨_, _, har, hrj⟩ := hashes_cellE HR4.out j sj HSJ.out
      cases har
      have HRJ := Lib.hid hrj
      clear hrj
      go_upto_region 12 with (fail)
      clear c0 hdd hj0
      refine QT.wp_region_facts_tail 12 (by kernel_rfl) (fun w' => Below w4.heap.size w4 w') (fun n v w' => (([.val (.pointer (some ⟨g1, 34, none⟩)), .val (.slice (some ⟨gr, or_, none⟩) d cr), .val (.int .i64 j), .val (.pointer (some ⟨gr, or_ + j * 32, none⟩)), .val (.agg CJ), .val (.pointer (some ⟨g1, 0, none⟩)), .val (.int .i64 d), .val (.int .i64 (d1 : Int)), .val (.int .i64 j), .val (.int .i64 (e : Int)), .key e 0 K RK SK, .fresh w4.heap.size] : List FactN).getD n (.val undef) : FactN).holds v w') (by kernel_rfl) (by kernel_rfl) (Below.refl _ _).drew (fun w1 w2 h1 hb => h1.trans (hb.mono h1.size)) (fun n v w1 w2 h hb => FactN.kept _ v w1 w2 h hb) (fun n o hn ho a wz hI hag hdep => ?_) (fun a wz hI hag hf => ?_)
      · have t1 : a.eval (.tmp 1) = .pointer (some ⟨g1, 0, none⟩) := hag.old 1 _ (by kernel_rfl) rfl
        have t5 : a.eval (.tmp 5) = .int .i64 j := hag.old 5 _ (by kernel_rfl) rfl
        have cE := HEV.out _ _ ((hI.block g1 HL41.out).trans H14.out)
        have c34 := cE.c34
        have c0 := cE.c0
        have hj0 : (0 : Int) ≤ (j : Int) := by omega
        have hjd : (j : Int) < (d : Int) := by have := HJD.out; omega
        match n, ho with
        | 0, ho =>
          obtain rfl := (Option.some.inj ho).symm
          exact ⟨rfl, QT.wp_value (v := .pointer (some ⟨g1, 34, none⟩)) (by simp [go_sem, QT.nf t1]) ⟨_, rfl, rfl, Below.refl _ _⟩⟩
        | 1, ho =>
          obtain rfl := (Option.some.inj ho).symm
          have d35 : a.eval (.tmp 35) = .pointer (some ⟨g1, 34, none⟩) := hdep _ (Array.mem_of_getElem? (i := 0) rfl) rfl _ _ rfl rfl
          exact ⟨rfl, QT.wp_value (v := .slice (some ⟨gr, or_, none⟩) d cr) (by simp [go_sem, QT.nf d35, c34]) ⟨_, rfl, rfl, Below.refl _ _⟩⟩
        | 2, ho =>
          obtain rfl := (Option.some.inj ho).symm
          exact ⟨rfl, QT.wp_value (BigFrame.run_move (.tmp 5) rfl wz) ⟨_, rfl, t5, Below.refl _ _⟩⟩
        | 3, ho =>
          obtain rfl := (Option.some.inj ho).symm
          have d36 : a.eval (.tmp 36) = .slice (some ⟨gr, or_, none⟩) d cr := hdep _ (Array.mem_of_getElem? (i := 0) rfl) rfl _ _ rfl rfl
          have d37 : a.eval (.tmp 37) = .int .i64 j := hdep _ (Array.mem_of_getElem? (i := 1) rfl) rfl _ _ rfl rfl
          exact ⟨rfl, QT.wp_value (v := .pointer (some ⟨gr, or_ + j * 32, none⟩)) (by simp [go_sem, QT.nf d36, QT.nf d37, hj0, hjd]) ⟨_, rfl, rfl, Below.refl _ _⟩⟩
        | 4, ho =>
          obtain rfl := (Option.some.inj ho).symm
          have d38 : a.eval (.tmp 38) = .pointer (some ⟨gr, or_ + j * 32, none⟩) := hdep _ (Array.mem_of_getElem? (i := 0) rfl) rfl _ _ rfl rfl
          exact ⟨rfl, wp_load_mid 23 (.tmp 38) rfl gr (or_ + j * 32) (by simpa [go_sem] using d38) (valsB sj) _ (range_kept hI HRJ.out) Try.underlying23 rfl HISJ.out ⟨_, rfl, by rw [HCJ.out]; rfl, Below.refl _ _⟩⟩
        | 5, ho =>
          obtain rfl := (Option.some.inj ho).symm
          exact ⟨rfl, QT.wp_value (v := .pointer (some ⟨g1, 0, none⟩)) (by simp [go_sem, QT.nf t1]) ⟨_, rfl, rfl, Below.refl _ _⟩⟩
        | 6, ho =>
          obtain rfl := (Option.some.inj ho).symm
          have d40 : a.eval (.tmp 40) = .pointer (some ⟨g1, 0, none⟩) := hdep _ (Array.mem_of_getElem? (i := 0) rfl) rfl _ _ rfl rfl
          exact ⟨rfl, QT.wp_value (v := .int .i64 d) (by simp [go_sem, QT.nf d40, c0]) ⟨_, rfl, rfl, Below.refl _ _⟩⟩
        | 7, ho =>
          obtain rfl := (Option.some.inj ho).symm
          have d41 : a.eval (.tmp 41) = .int .i64 d := hdep _ (Array.mem_of_getElem? (i := 0) rfl) rfl _ _ rfl rfl
          exact ⟨rfl, QT.wp_value (v := .int .i64 (d1 : Int)) (by simp [go_sem, QT.nf d41, HD1.out, HWD1.out]) ⟨_, rfl, rfl, Below.refl _ _⟩⟩
        | 8, ho =>
          obtain rfl := (Option.some.inj ho).symm
          exact ⟨rfl, QT.wp_value (BigFrame.run_move (.tmp 5) rfl wz) ⟨_, rfl, t5, Below.refl _ _⟩⟩
        | 9, ho =>
          obtain rfl := (Option.some.inj ho).symm
          have d42 : a.eval (.tmp 42) = .int .i64 (d1 : Int) := hdep _ (Array.mem_of_getElem? (i := 0) rfl) rfl _ _ rfl rfl
          have d43 : a.eval (.tmp 43) = .int .i64 j := hdep _ (Array.mem_of_getElem? (i := 1) rfl) rfl _ _ rfl rfl
          exact ⟨rfl, QT.wp_value (v := .int .i64 (e : Int)) (by simp [go_sem, QT.nf d42, QT.nf d43, HDE.out, HWE.out]) ⟨_, rfl, rfl, Below.refl _ _⟩⟩
        | 10, ho =>
          obtain rfl := (Option.some.inj ho).symm
          have d39 : a.eval (.tmp 39) = .agg CJ := hdep _ (Array.mem_of_getElem? (i := 0) rfl) rfl _ _ rfl rfl
          have d44 : a.eval (.tmp 44) = .int .i64 (e : Int) := hdep _ (Array.mem_of_getElem? (i := 1) rfl) rfl _ _ rfl rfl
          exact ⟨rfl, wp_enter_any (f := 17) (args := #[.agg CJ, .int .i64 (e : Int), .int .i64 0]) (by simp [go_sem, QT.nf d39, QT.nf d44]) (HKY.out wz) fun v w' ⟨hh, hb⟩ => ⟨_, rfl, hh, hb⟩⟩
        | 11, ho =>
          obtain rfl := (Option.some.inj ho).symm
          exact ⟨rfl, wp_runTo (.pointer (some ⟨wz.heap.size, 0, none⟩)) (wz.alloc (.cells ZEv 26)) (by kernel_rfl) ⟨_, rfl, ⟨_, rfl, hI.size, heap_alloc_new _ _⟩, (Below.refl _ _).alloc (Nat.le_refl _) _⟩⟩
        | n + 12, ho => omega
      · have f0 : a.eval (.tmp 35) = .pointer (some ⟨g1, 34, none⟩) := hf 0 _ _ (by omega) rfl rfl
        have f1 : a.eval (.tmp 36) = .slice (some ⟨gr, or_, none⟩) d cr := hf 1 _ _ (by omega) rfl rfl
        have f2 : a.eval (.tmp 37) = .int .i64 j := hf 2 _ _ (by omega) rfl rfl
        have f3 : a.eval (.tmp 38) = .pointer (some ⟨gr, or_ + j * 32, none⟩) := hf 3 _ _ (by omega) rfl rfl
        have f4 : a.eval (.tmp 39) = .agg CJ := hf 4 _ _ (by omega) rfl rfl
        have f5 : a.eval (.tmp 40) = .pointer (some ⟨g1, 0, none⟩) := hf 5 _ _ (by omega) rfl rfl
        have f6 : a.eval (.tmp 41) = .int .i64 d := hf 6 _ _ (by omega) rfl rfl
        have f7 : a.eval (.tmp 42) = .int .i64 (d1 : Int) := hf 7 _ _ (by omega) rfl rfl
        have f8 : a.eval (.tmp 43) = .int .i64 j := hf 8 _ _ (by omega) rfl rfl
        have f9 : a.eval (.tmp 44) = .int .i64 (e : Int) := hf 9 _ _ (by omega) rfl rfl
        have f10' : ((.key e 0 K RK SK) : FactN).holds (a.eval (.tmp 45)) wz := hf 10 _ _ (by omega) rfl rfl
        obtain ⟨xa, xn, xc, za, zn, zc, f10, y10, yy10⟩ := f10'
        have f11' : ((.fresh w4.heap.size) : FactN).holds (a.eval (.tmp 7)) wz := hf 11 _ _ (by omega) rfl rfl
        obtain ⟨q11, f11, y11⟩ := f11'
        have ha := hag.puts [(35, .pointer (some ⟨g1, 34, none⟩)), (36, .slice (some ⟨gr, or_, none⟩) d cr), (37, .int .i64 j), (38, .pointer (some ⟨gr, or_ + j * 32, none⟩)), (39, .agg CJ), (40, .pointer (some ⟨g1, 0, none⟩)), (41, .int .i64 d), (42, .int .i64 (d1 : Int)), (43, .int .i64 j), (44, .int .i64 (e : Int)), (45, .agg (evRow e 0 K (.slice xa xn xc) (.slice za zn zc))), (7, .pointer (some ⟨q11, 0, none⟩))] rfl (by simp) (by simp only [List.forall_mem_cons, List.not_mem_nil, false_implies, implies_true, and_true]; exact ⟨f0, f1, f2, f3, f4, f5, f6, f7, f8, f9, f10, f11⟩)
        subst ha
        clear hag hf f0 f1 f2 f3 f4 f5 f6 f7 f8 f9 f10 f11
        simp only [List.foldl_cons, List.foldl_nil, Act.put, List.drop_succ_cons, List.drop_zero, List.setIfInBounds_toArray, List.set_cons_succ, List.set_cons_zero]
        obtain ⟨hq, hy⟩ := y11
        obtain rfl : e = xn := by have h := hashes_form y10.hashes; rw [HRKL.out] at h; exact h
        obtain rfl : e = zn := by have h := hashes_form yy10.hashes; rw [HSKL.out] at h; exact h
        obtain ⟨KV, hKV⟩ : ∃ E, evRow (e : Int) 0 K (.slice xa e xc) (.slice za e zc) = E := ⟨_, rfl⟩
        have HKI := Lib.hid (show (Try.prog.info? 26).map (·.size) = some KV.size by rw [← hKV]; exact ev_info _ _ _ _ _ HKL.out)
        have HKA := Lib.hid (show KV.all (·.oneCell') = true by rw [← hKV]; exact ev_one _ _ _ _ _ _ _ _ _)
        have HKZ := Lib.hid (show ZEv.size = KV.size by rw [← hKV, zev_size]; exact (evRow_size _ _ _ _ _ HKL.out).symm)
        have HKV := Lib.hid hKV
        rw [hKV]
        clear hKV
        have H7Z := Lib.hid hy
        have HQ := Lib.hid hq
        have H7R := Lib.hid (hashes_set (g := q11) y10.hashes (own_ne y10 H7Z.out) KV)
        have H7S := Lib.hid (hashes_set (g := q11) yy10.hashes (own_ne yy10 H7Z.out) KV)
        have HBZ := Lib.hid (below_setRow hI HQ.out KV)
        have H7N := Lib.hid (setRow_heap wz q11 _ KV _ _ H7Z.out)
        have HL7 := Lib.hid (show w4.heap.size ≤ q11 ∧ q11 < (wz.setRow q11 KV).heap.size by rw [setRow_size]; exact ⟨HQ.out, (Array.getElem?_eq_some_iff.1 H7Z.out).1⟩)
        clear y10 yy10 hy hq hI
        go_upto_region 13 with (refine wpList_store_row rfl 26 (.tmp 7) (.tmp 45) rfl q11 KV rfl rfl 26 ZEv H7Z.out HKI.out HKZ.out HKA.out ?_)
        generalize wz.setRow q11 KV = w12 at H7R H7S HBZ H7N HL7 ⊢
        have HE1 := Lib.hid (fun wv (h : Below w12.heap.size w12 wv) => HEV.out wv g1 ((((HBZ.out.trans (h.mono HBZ.out.size)).block g1 HL41.out)).trans H14.out))
        have HX2 := Lib.hid (fun wv (h : Below w12.heap.size w12 wv) => (((HBZ.out.trans (h.mono HBZ.out.size)).block g2 HL42.out)).trans H24.out)
        have HXB := Lib.hid (fun wv (h : Below w12.heap.size w12 wv) => HBL.out.kept (HBZ.out.trans (h.mono HBZ.out.size)))
        have HXR := Lib.hid (fun wv (h : Below w12.heap.size w12 wv) => HR4.out.kept (HBZ.out.trans (h.mono HBZ.out.size)))
        have HXS := Lib.hid (fun wv (h : Below w12.heap.size w12 wv) => HS4.out.kept (HBZ.out.trans (h.mono HBZ.out.size)))
        have HXW := Lib.hid (fun wv (h : Below w12.heap.size w12 wv) => HB4.out.trans ((HBZ.out.trans (h.mono HBZ.out.size)).mono (Nat.le_of_lt HL41.out)))
        have HE7 := Lib.hid (fun wv (h : Below w12.heap.size w12 wv) => (⟨HKL.out, (h.block q11 HL7.out.2).trans (HKV.out ▸ H7N.out)⟩ : EvAt wv q11 (e : Int) 0 K (.slice xa e xc) (.slice za e zc)))
        have HYR := Lib.hid (fun wv (h : Below w12.heap.size w12 wv) => H7R.out.kept h)
        have HYS := Lib.hid (fun wv (h : Below w12.heap.size w12 wv) => H7S.out.kept h)
        have hE1 := HE1.out w12 (Below.refl _ _)
        have c0 := hE1.c0
        have c1 := hE1.c1
        have HLK := Lib.hid (HE7.out w12 (Below.refl _ _)).lf
        have hpi := HPI.out
        obtain ⟨EN, hEN⟩ : ∃ E, evRow d (p1 : Int) K (.slice none 0 0) (.slice none 0 0) = E := ⟨_, rfl⟩
        have HNB := Lib.hid (fun a : Act => fun (h1 : a.eval (.tmp 47) = .int .i64 d) (h2 : a.eval (.tmp 50) = .int .i64 (p1 : Int)) (h3 : a.eval (.tmp 52) = .agg CK) => (show Try.prog.built 26 ((#[(0, .tmp 47), (1, .tmp 50), (2, .tmp 52)] : Array (Nat × Operand)).map fun (i, x) => (i, a.eval x)).toList = some EN by
          simp only [List.map_toArray, List.map_cons, List.map_nil, h1, h2, h3]
          rw [← hEN, ← HCK.out]
          exact built_ev d p1 K HKL.out))
        have HNI := Lib.hid (show (Try.prog.info? 26).map (·.size) = some EN.size by rw [← hEN]; exact ev_info _ _ _ _ _ HKL.out)
        have HNZ := Lib.hid (show ZE.size = EN.size by rw [← hEN, HE0.out]; exact (evRow_size _ _ _ _ _ HKL.out).symm)
        have HNA := Lib.hid (show EN.all (·.oneCell') = true by rw [← hEN]; exact ev_one _ _ _ _ _ _ _ _ _)
        have HENE := Lib.hid hEN
        clear hEN hE1
        go_upto_region 14 with (first
          | (refine wpList_load_mid rfl 23 (.tmp 51) rfl q11 2 (by simp [Act.eval]) (valsB K) _ HLK.out Try.underlying23 rfl HIK.out ?_; rw [HCK.out])
          | (refine wpList_build_as rfl 26 #[(0, .tmp 47), (1, .tmp 50), (2, .tmp 52)] rfl EN (HNB.out _ rfl rfl rfl) ?_)
          | (refine wpList_store_row rfl 26 (.tmp 8) (.tmp 53) rfl w12.heap.size EN rfl rfl 26 ZE (HZE.out ▸ heap_alloc_new w12 _) HNI.out HNZ.out HNA.out ?_; rw [World.setRow_alloc_new]))
        have hb13 : Below w12.heap.size w12 (w12.alloc (.cells EN 26)) := (Below.refl _ _).alloc (Nat.le_refl _) _
        have h813 := heap_alloc_new w12 (.cells EN 26)
        have hs13 : (w12.alloc (.cells EN 26)).heap.size = w12.heap.size + 1 := by simp
        generalize w12.alloc (.cells EN 26) = w13 at hb13 h813 hs13 ⊢
        obtain ⟨g8, hg8⟩ : ∃ x, w12.heap.size = x := ⟨_, rfl⟩
        rw [hg8] at hb13 h813 hs13 HE1 HX2 HXB HXR HXS HXW HE7 HYR HYS
        rw [hg8]
        have HL8 := Lib.hid (show g1 < g2 ∧ g2 < w4.heap.size ∧ w4.heap.size ≤ q11 ∧ q11 < g8 by have h1 := HL7.out; have h2 := HL4.out; rw [hg8] at h1; exact ⟨h2.1, h2.2, h1.1, h1.2⟩)
        have HO0 := Lib.hid (show OutAt w12 w13 (g8 + 1) g8 g8 d (p1 : Int) K (.slice none 0 0) (.slice none 0 0) [] [] w13 from
          { len := HKL.out
            row := by rw [HENE.out]; exact h813
            r := OwnH.nil _ _
            s := OwnH.nil _ _
            apart := fun k hk => by simp [Value.ownBlock] at hk
            rest := fun k _ _ => rfl
            size := Nat.le_of_eq hs13.symm
            lt := ⟨Nat.le_refl _, Nat.lt_succ_self _⟩
            below := hb13 })
        have HZB := Lib.hid (show Value.agg zeroB = Value.agg (valsB zeroL).toArray from rfl)
        have HZLL := Lib.hid (show zeroL.length = 32 from rfl)
        clear hb13 h813 hs13 hg8 c0 c1 hpi
        go_wp2_with fail
        go_loopw [9] (fun iv wr => ∃ (i : Nat) (ra sa : Value), i ≤ j ∧ iv = .int .i64 i ∧ OutAt w12 w13 (g8 + 1) g8 g8 d (p1 : Int) K ra sa (R.take i) (S.take i) wr) (fun iv _ => j - (intOf iv).toNat)
        case atStart => exact ⟨0, _, _, by omega, rfl, HO0.out⟩
        case round =>
          obtain ⟨i, ra, sa, hn, rfl, ho⟩ := hrel
          have HO := Lib.hid ho
          clear ho
          by_cases hlt : i < j
          · obtain ⟨x, hx⟩ : ∃ x, R[i]? = some x := ⟨R[i]'(by have := HRL.out; have := HEN.out; omega), List.getElem?_eq_getElem _⟩
            obtain ⟨y, hy⟩ : ∃ y, S[i]? = some y := ⟨S[i]'(by have := HSL.out; have := HEN.out; omega), List.getElem?_eq_getElem _⟩
            have hxl := HR32.out x (List.mem_of_getElem? hx)
            have hyl := HS32.out y (List.mem_of_getElem? hy)
            have HGx := Lib.hid hx
            have HGy := Lib.hid hy
            have HIx := Lib.hid (info_len x hxl)
            have HIy := Lib.hid (info_len y hyl)
            have H1x := Lib.hid (show H32 [x] from fun z hz => by simp at hz; subst hz; exact hxl)
            have H1y := Lib.hid (show H32 [y] from fun z hz => by simp at hz; subst hz; exact hyl)
            have HPx := Lib.hid (show (R.take i).length ≤ 1099511627776 by have h1 := HRL.out; have h2 := HSL.out; have h5 := HEN.out; have h6 := HJD.out; simp only [List.length_take]; omega)
            have HPy := Lib.hid (show (S.take i).length ≤ 1099511627776 by have h1 := HRL.out; have h2 := HSL.out; have h5 := HEN.out; have h6 := HJD.out; simp only [List.length_take]; omega)
            have HAx := Lib.hid (show (R.take i ++ [x]).length = i + 1 by have h1 := HRL.out; have h2 := HSL.out; have h3 := HRKL.out; have h4 := HSKL.out; have h5 := HEN.out; have h6 := HJD.out; simp only [List.length_append, List.length_take, List.length_cons, List.length_nil]; omega)
            have HAy := Lib.hid (show (S.take i ++ [y]).length = i + 1 by have h1 := HRL.out; have h2 := HSL.out; have h3 := HRKL.out; have h4 := HSKL.out; have h5 := HEN.out; have h6 := HJD.out; simp only [List.length_append, List.length_take, List.length_cons, List.length_nil]; omega)
            have HND := Lib.hid (show (i : Int) < (d : Int) by have := HJD.out; omega)
            have hnj : (i : Int) < (j : Int) := by omega
            have hn0 : (0 : Int) ≤ (i : Int) := by omega
            obtain ⟨CX, hCX⟩ : ∃ C, (valsB x).toArray = C := ⟨_, rfl⟩
            obtain ⟨CY, hCY⟩ : ∃ C, (valsB y).toArray = C := ⟨_, rfl⟩
            have HCX := Lib.hid hCX
            have HCY := Lib.hid hCY
            clear hx hy hxl hyl hCX hCY
            have HOB := Lib.hid (show g8 ≤ wr.heap.size by have := HO.out.size; omega)
            obtain ⟨gr', or_', har, hrng⟩ := hashes_cellE (HXR.out wr HO.out.below) i x HGx.out
            cases har
            have HRx := Lib.hid hrng
            clear hrng
            go_upto_region 17 with (fail)
            refine QT.wp_region_facts_tail 8 (by kernel_rfl) (fun w' => Below wr.heap.size wr w') (fun n v w' => (([.val (.pointer (some ⟨g8, 34, none⟩)), .val (ra), .val (.pointer (some ⟨g1, 34, none⟩)), .val (.slice (some ⟨gr, or_, none⟩) d cr), .val (.int .i64 i), .val (.pointer (some ⟨gr, or_ + i * 32, none⟩)), .val (.agg CX), .row1 x] : List FactE).getD n (.val undef) : FactE).holds v w') (by kernel_rfl) (by kernel_rfl) (Below.refl _ _).drew (fun w1 w2 h1 hb => h1.trans (hb.mono h1.size)) (fun n v w1 w2 h hb => FactE.kept _ v w1 w2 h hb) (fun n o hn ho a wz hI hag hdep => ?_) (fun a wz hI hag hf => ?_)
            · have t8 : a.eval (.tmp 8) = .pointer (some ⟨g8, 0, none⟩) := hag.old 8 _ (by kernel_rfl) rfl
              have t1 : a.eval (.tmp 1) = .pointer (some ⟨g1, 0, none⟩) := hag.old 1 _ (by kernel_rfl) rfl
              have t9 : a.eval (.tmp 9) = .int .i64 i := hag.old 9 _ (by kernel_rfl) rfl
              have cO := (HO.out.kept hI).ev.c34
              have cS := (HE1.out wz (HO.out.below.trans (hI.mono HOB.out))).c34
              have hn0 : (0 : Int) ≤ (i : Int) := by omega
              have hnd : (i : Int) < (d : Int) := HND.out
              match n, ho with
              | 0, ho =>
                obtain rfl := (Option.some.inj ho).symm
                exact ⟨rfl, QT.wp_value (v := .pointer (some ⟨g8, 34, none⟩)) (by simp [go_sem, QT.nf t8]) ⟨_, rfl, rfl, Below.refl _ _⟩⟩
              | 1, ho =>
                obtain rfl := (Option.some.inj ho).symm
                have d59 : a.eval (.tmp 59) = .pointer (some ⟨g8, 34, none⟩) := hdep _ (Array.mem_of_getElem? (i := 0) rfl) rfl _ _ rfl rfl
                exact ⟨rfl, QT.wp_value (v := ra) (by simp [go_sem, QT.nf d59, cO]) ⟨_, rfl, rfl, Below.refl _ _⟩⟩
              | 2, ho =>
                obtain rfl := (Option.some.inj ho).symm
                exact ⟨rfl, QT.wp_value (v := .pointer (some ⟨g1, 34, none⟩)) (by simp [go_sem, QT.nf t1]) ⟨_, rfl, rfl, Below.refl _ _⟩⟩
              | 3, ho =>
                obtain rfl := (Option.some.inj ho).symm
                have d61 : a.eval (.tmp 61) = .pointer (some ⟨g1, 34, none⟩) := hdep _ (Array.mem_of_getElem? (i := 0) rfl) rfl _ _ rfl rfl
                exact ⟨rfl, QT.wp_value (v := .slice (some ⟨gr, or_, none⟩) d cr) (by simp [go_sem, QT.nf d61, cS]) ⟨_, rfl, rfl, Below.refl _ _⟩⟩
              | 4, ho =>
                obtain rfl := (Option.some.inj ho).symm
                exact ⟨rfl, QT.wp_value (BigFrame.run_move (.tmp 9) rfl wz) ⟨_, rfl, t9, Below.refl _ _⟩⟩
              | 5, ho =>
                obtain rfl := (Option.some.inj ho).symm
                have d62 : a.eval (.tmp 62) = .slice (some ⟨gr, or_, none⟩) d cr := hdep _ (Array.mem_of_getElem? (i := 0) rfl) rfl _ _ rfl rfl
                have d63 : a.eval (.tmp 63) = .int .i64 i := hdep _ (Array.mem_of_getElem? (i := 1) rfl) rfl _ _ rfl rfl
                exact ⟨rfl, QT.wp_value (v := .pointer (some ⟨gr, or_ + i * 32, none⟩)) (by simp [go_sem, QT.nf d62, QT.nf d63, hn0, hnd]) ⟨_, rfl, rfl, Below.refl _ _⟩⟩
              | 6, ho =>
                obtain rfl := (Option.some.inj ho).symm
                have d64 : a.eval (.tmp 64) = .pointer (some ⟨gr, or_ + i * 32, none⟩) := hdep _ (Array.mem_of_getElem? (i := 0) rfl) rfl _ _ rfl rfl
                exact ⟨rfl, wp_load_mid 23 (.tmp 64) rfl gr (or_ + i * 32) (by simpa [go_sem] using d64) (valsB x) _ (range_kept hI HRx.out) Try.underlying23 rfl HIx.out ⟨_, rfl, by rw [HCX.out]; rfl, Below.refl _ _⟩⟩
              | 7, ho =>
                obtain rfl := (Option.some.inj ho).symm
                have d65 : a.eval (.tmp 65) = .agg CX := hdep _ (Array.mem_of_getElem? (i := 0) rfl) rfl _ _ rfl rfl
                exact ⟨rfl, wp_build_k 1 #[(0, .tmp 65)] rfl [x] H1x.out rfl (by omega) (by omega) (by simp [d65, HCX.out]) fun w' hr hb => ⟨_, rfl, ⟨_, rfl, hr⟩, hb⟩⟩
              | n + 8, ho => omega
            · have f0 : a.eval (.tmp 59) = .pointer (some ⟨g8, 34, none⟩) := hf 0 _ _ (by omega) rfl rfl
              have f1 : a.eval (.tmp 60) = ra := hf 1 _ _ (by omega) rfl rfl
              have f2 : a.eval (.tmp 61) = .pointer (some ⟨g1, 34, none⟩) := hf 2 _ _ (by omega) rfl rfl
              have f3 : a.eval (.tmp 62) = .slice (some ⟨gr, or_, none⟩) d cr := hf 3 _ _ (by omega) rfl rfl
              have f4 : a.eval (.tmp 63) = .int .i64 i := hf 4 _ _ (by omega) rfl rfl
              have f5 : a.eval (.tmp 64) = .pointer (some ⟨gr, or_ + i * 32, none⟩) := hf 5 _ _ (by omega) rfl rfl
              have f6 : a.eval (.tmp 65) = .agg CX := hf 6 _ _ (by omega) rfl rfl
              have f7' : ((.row1 x) : FactE).holds (a.eval (.tmp 66)) wz := hf 7 _ _ (by omega) rfl rfl
              obtain ⟨q7, f7, y7⟩ := f7'
              have ha := hag.puts [(59, .pointer (some ⟨g8, 34, none⟩)), (60, ra), (61, .pointer (some ⟨g1, 34, none⟩)), (62, .slice (some ⟨gr, or_, none⟩) d cr), (63, .int .i64 i), (64, .pointer (some ⟨gr, or_ + i * 32, none⟩)), (65, .agg CX), (66, .slice (some ⟨q7, 0, none⟩) 1 1)] rfl (by simp) (by simp only [List.forall_mem_cons, List.not_mem_nil, false_implies, implies_true, and_true]; exact ⟨f0, f1, f2, f3, f4, f5, f6, f7⟩)
              subst ha
              clear hag hf f0 f1 f2 f3 f4 f5 f6 f7
              simp only [List.foldl_cons, List.foldl_nil, Act.put, List.drop_succ_cons, List.drop_zero, List.setIfInBounds_toArray, List.set_cons_succ, List.set_cons_zero]
              have HZ := HO.out.kept hI
              clear hI
              go_upto_region 18 with (refine wpList_append_one rfl (.tmp 60) (.tmp 66) rfl (g8 + 1) ra (R.take i) rfl HZ.r q7 1 x rfl y7 HPx.out HZ.size ?_; intro v6 w6 ho6 hg6 hk6; obtain ⟨gb1, cb1, hgb⟩ := own_formE ho6; rw [HAx.out] at hgb; subst hgb; have hrow6 := HZ.row_grown (fun k hk => (own_lt HZ.r k hk).1) hg6; have hc6 : w6.cell? ⟨g8, 34, none⟩ = some ra := (by rw [Lib.cell_of_heap hrow6]; exact evRow_34 _ _ _ _ _ HKL.out); have hf6 : w6.frozen? ⟨g8, 34, none⟩ = false := Lib.frozen_of_heap hrow6 34)
              rw [setCell_eq_setRow w6 g8 34 _ _ _ _ hrow6, evRow_set34 _ _ _ _ _ _ HKL.out]
              have HO' := Lib.hid (HZ.growR ho6 hg6 hk6)
              clear HZ ho6 hg6 hk6 hrow6 hc6 hf6 y7 HO HOB
              have HO := HO'
              clear HO'
              generalize w6.setRow g8 (evRow d (p1 : Int) K (.slice gb1 (i + 1) cb1) sa) = w5 at HO ⊢
              have HOB := Lib.hid (show g8 ≤ w5.heap.size by have := HO.out.size; omega)
              obtain ⟨gs', os_', har, hrng⟩ := hashes_cellE (HXS.out w5 HO.out.below) i y HGy.out
              cases har
              have HRy := Lib.hid hrng
              clear hrng
              go_upto_region 18 with (fail)
              refine QT.wp_region_facts_tail 8 (by kernel_rfl) (fun w' => Below w5.heap.size w5 w') (fun n v w' => (([.val (.pointer (some ⟨g8, 35, none⟩)), .val (sa), .val (.pointer (some ⟨g1, 35, none⟩)), .val (.slice (some ⟨gs, os_, none⟩) d cs), .val (.int .i64 i), .val (.pointer (some ⟨gs, os_ + i * 32, none⟩)), .val (.agg CY), .row1 y] : List FactE).getD n (.val undef) : FactE).holds v w') (by kernel_rfl) (by kernel_rfl) (Below.refl _ _).drew (fun w1 w2 h1 hb => h1.trans (hb.mono h1.size)) (fun n v w1 w2 h hb => FactE.kept _ v w1 w2 h hb) (fun n o hn ho a wz hI hag hdep => ?_) (fun a wz hI hag hf => ?_)
              · have t8 : a.eval (.tmp 8) = .pointer (some ⟨g8, 0, none⟩) := hag.old 8 _ (by kernel_rfl) rfl
                have t1 : a.eval (.tmp 1) = .pointer (some ⟨g1, 0, none⟩) := hag.old 1 _ (by kernel_rfl) rfl
                have t9 : a.eval (.tmp 9) = .int .i64 i := hag.old 9 _ (by kernel_rfl) rfl
                have cO := (HO.out.kept hI).ev.c35
                have cS := (HE1.out wz (HO.out.below.trans (hI.mono HOB.out))).c35
                have hn0 : (0 : Int) ≤ (i : Int) := by omega
                have hnd : (i : Int) < (d : Int) := HND.out
                match n, ho with
                | 0, ho =>
                  obtain rfl := (Option.some.inj ho).symm
                  exact ⟨rfl, QT.wp_value (v := .pointer (some ⟨g8, 35, none⟩)) (by simp [go_sem, QT.nf t8]) ⟨_, rfl, rfl, Below.refl _ _⟩⟩
                | 1, ho =>
                  obtain rfl := (Option.some.inj ho).symm
                  have d69 : a.eval (.tmp 69) = .pointer (some ⟨g8, 35, none⟩) := hdep _ (Array.mem_of_getElem? (i := 0) rfl) rfl _ _ rfl rfl
                  exact ⟨rfl, QT.wp_value (v := sa) (by simp [go_sem, QT.nf d69, cO]) ⟨_, rfl, rfl, Below.refl _ _⟩⟩
                | 2, ho =>
                  obtain rfl := (Option.some.inj ho).symm
                  exact ⟨rfl, QT.wp_value (v := .pointer (some ⟨g1, 35, none⟩)) (by simp [go_sem, QT.nf t1]) ⟨_, rfl, rfl, Below.refl _ _⟩⟩
                | 3, ho =>
                  obtain rfl := (Option.some.inj ho).symm
                  have d71 : a.eval (.tmp 71) = .pointer (some ⟨g1, 35, none⟩) := hdep _ (Array.mem_of_getElem? (i := 0) rfl) rfl _ _ rfl rfl
                  exact ⟨rfl, QT.wp_value (v := .slice (some ⟨gs, os_, none⟩) d cs) (by simp [go_sem, QT.nf d71, cS]) ⟨_, rfl, rfl, Below.refl _ _⟩⟩
                | 4, ho =>
                  obtain rfl := (Option.some.inj ho).symm
                  exact ⟨rfl, QT.wp_value (BigFrame.run_move (.tmp 9) rfl wz) ⟨_, rfl, t9, Below.refl _ _⟩⟩
                | 5, ho =>
                  obtain rfl := (Option.some.inj ho).symm
                  have d72 : a.eval (.tmp 72) = .slice (some ⟨gs, os_, none⟩) d cs := hdep _ (Array.mem_of_getElem? (i := 0) rfl) rfl _ _ rfl rfl
                  have d73 : a.eval (.tmp 73) = .int .i64 i := hdep _ (Array.mem_of_getElem? (i := 1) rfl) rfl _ _ rfl rfl
                  exact ⟨rfl, QT.wp_value (v := .pointer (some ⟨gs, os_ + i * 32, none⟩)) (by simp [go_sem, QT.nf d72, QT.nf d73, hn0, hnd]) ⟨_, rfl, rfl, Below.refl _ _⟩⟩
                | 6, ho =>
                  obtain rfl := (Option.some.inj ho).symm
                  have d74 : a.eval (.tmp 74) = .pointer (some ⟨gs, os_ + i * 32, none⟩) := hdep _ (Array.mem_of_getElem? (i := 0) rfl) rfl _ _ rfl rfl
                  exact ⟨rfl, wp_load_mid 23 (.tmp 74) rfl gs (os_ + i * 32) (by simpa [go_sem] using d74) (valsB y) _ (range_kept hI HRy.out) Try.underlying23 rfl HIy.out ⟨_, rfl, by rw [HCY.out]; rfl, Below.refl _ _⟩⟩
                | 7, ho =>
                  obtain rfl := (Option.some.inj ho).symm
                  have d75 : a.eval (.tmp 75) = .agg CY := hdep _ (Array.mem_of_getElem? (i := 0) rfl) rfl _ _ rfl rfl
                  exact ⟨rfl, wp_build_k 1 #[(0, .tmp 75)] rfl [y] H1y.out rfl (by omega) (by omega) (by simp [d75, HCY.out]) fun w' hr hb => ⟨_, rfl, ⟨_, rfl, hr⟩, hb⟩⟩
                | n + 8, ho => omega
              · have f0 : a.eval (.tmp 69) = .pointer (some ⟨g8, 35, none⟩) := hf 0 _ _ (by omega) rfl rfl
                have f1 : a.eval (.tmp 70) = sa := hf 1 _ _ (by omega) rfl rfl
                have f2 : a.eval (.tmp 71) = .pointer (some ⟨g1, 35, none⟩) := hf 2 _ _ (by omega) rfl rfl
                have f3 : a.eval (.tmp 72) = .slice (some ⟨gs, os_, none⟩) d cs := hf 3 _ _ (by omega) rfl rfl
                have f4 : a.eval (.tmp 73) = .int .i64 i := hf 4 _ _ (by omega) rfl rfl
                have f5 : a.eval (.tmp 74) = .pointer (some ⟨gs, os_ + i * 32, none⟩) := hf 5 _ _ (by omega) rfl rfl
                have f6 : a.eval (.tmp 75) = .agg CY := hf 6 _ _ (by omega) rfl rfl
                have f7' : ((.row1 y) : FactE).holds (a.eval (.tmp 76)) wz := hf 7 _ _ (by omega) rfl rfl
                obtain ⟨q7, f7, y7⟩ := f7'
                have ha := hag.puts [(69, .pointer (some ⟨g8, 35, none⟩)), (70, sa), (71, .pointer (some ⟨g1, 35, none⟩)), (72, .slice (some ⟨gs, os_, none⟩) d cs), (73, .int .i64 i), (74, .pointer (some ⟨gs, os_ + i * 32, none⟩)), (75, .agg CY), (76, .slice (some ⟨q7, 0, none⟩) 1 1)] rfl (by simp) (by simp only [List.forall_mem_cons, List.not_mem_nil, false_implies, implies_true, and_true]; exact ⟨f0, f1, f2, f3, f4, f5, f6, f7⟩)
                subst ha
                clear hag hf f0 f1 f2 f3 f4 f5 f6 f7
                simp only [List.foldl_cons, List.foldl_nil, Act.put, List.drop_succ_cons, List.drop_zero, List.setIfInBounds_toArray, List.set_cons_succ, List.set_cons_zero]
                have HZ := HO.out.kept hI
                clear hI
                go_upto_region 16 with (refine wpList_append_one rfl (.tmp 70) (.tmp 76) rfl (g8 + 1) sa (S.take i) rfl HZ.s q7 1 y rfl y7 HPy.out HZ.size ?_; intro v6 w6 ho6 hg6 hk6; obtain ⟨gb2, cb2, hgb⟩ := own_formE ho6; rw [HAy.out] at hgb; subst hgb; have hrow6 := HZ.row_grown (fun k hk => (own_lt HZ.s k hk).1) hg6; have hc6 : w6.cell? ⟨g8, 35, none⟩ = some sa := (by rw [Lib.cell_of_heap hrow6]; exact evRow_35 _ _ _ _ _ HKL.out); have hf6 : w6.frozen? ⟨g8, 35, none⟩ = false := Lib.frozen_of_heap hrow6 35)
                rw [setCell_eq_setRow w6 g8 35 _ _ _ _ hrow6, evRow_set35 _ _ _ _ _ _ HKL.out]
                have HO' := Lib.hid (HZ.growS ho6 hg6 hk6)
                clear HZ ho6 hg6 hk6 hrow6 hc6 hf6 y7 HO HOB
                have HO := HO'
                clear HO'
                generalize w6.setRow g8 (evRow d (p1 : Int) K (.slice gb1 (i + 1) cb1) (.slice gb2 (i + 1) cb2)) = w7 at HO ⊢
                have hi4 : (i : Int) ≤ 4 := by have := HEN.out; omega
                go_wp2_with fail
                go_roundw
                case rel => exact ⟨i + 1, _, _, by omega, by go_num, by simp only [take_more HGx.out, take_more HGy.out]; exact HO.out⟩
                case measure => simp [intOf]; omega
          · obtain rfl : j = i := by omega
            have hjj : ¬ ((j : Int) < (j : Int)) := by omega
            clear hn hlt
            have HPz := Lib.hid (show (R.take j).length ≤ 1099511627776 by have h1 := HRL.out; have h2 := HSL.out; have h5 := HEN.out; have h6 := HJD.out; simp only [List.length_take]; omega)
            have HPw := Lib.hid (show (S.take j).length ≤ 1099511627776 by have h1 := HRL.out; have h2 := HSL.out; have h5 := HEN.out; have h6 := HJD.out; simp only [List.length_take]; omega)
            have HAz := Lib.hid (show (R.take j ++ [zeroL]).length = j + 1 by have h1 := HRL.out; have h2 := HSL.out; have h3 := HRKL.out; have h4 := HSKL.out; have h5 := HEN.out; have h6 := HJD.out; simp only [List.length_append, List.length_take, List.length_cons, List.length_nil]; omega)
            have HAw := Lib.hid (show (S.take j ++ [bh]).length = j + 1 by have h1 := HRL.out; have h2 := HSL.out; have h3 := HRKL.out; have h4 := HSKL.out; have h5 := HEN.out; have h6 := HJD.out; simp only [List.length_append, List.length_take, List.length_cons, List.length_nil]; omega)
            have c34 := HO.out.ev.c34
            go_upto_region 20 with (first
              | (refine wpList_build_as rfl 23 #[] rfl zeroB (by kernel_rfl) ?_)
              | (refine wpList_build_hash1 rfl (.tmp 81) rfl zeroL HZLL.out HZB.out ?_; intro w14 hr14 hb14 _ _; have HZ := HO.out.kept hb14; refine wpList_append_one rfl (.tmp 80) (.tmp 82) rfl (g8 + 1) ra (R.take j) rfl HZ.r _ 1 zeroL rfl hr14 HPz.out HZ.size ?_; intro v6 w6 ho6 hg6 hk6; obtain ⟨gb1, cb1, hgb⟩ := own_formE ho6; rw [HAz.out] at hgb; subst hgb; have hrow6 := HZ.row_grown (fun k hk => (own_lt HZ.r k hk).1) hg6; have hc6 : w6.cell? ⟨g8, 34, none⟩ = some ra := (by rw [Lib.cell_of_heap hrow6]; exact evRow_34 _ _ _ _ _ HKL.out); have hf6 : w6.frozen? ⟨g8, 34, none⟩ = false := Lib.frozen_of_heap hrow6 34))
            rw [setCell_eq_setRow w6 g8 34 _ _ _ _ hrow6, evRow_set34 _ _ _ _ _ _ HKL.out]
            have HO' := Lib.hid (HZ.growR ho6 hg6 hk6)
            clear HZ ho6 hg6 hk6 hrow6 hc6 hf6 hr14 hb14 HO c34
            have HO := HO'
            clear HO'
            generalize w6.setRow g8 (evRow d (p1 : Int) K (.slice gb1 (j + 1) cb1) sa) = w15 at HO ⊢
            have HOB := Lib.hid (show g8 ≤ w15.heap.size by have := HO.out.size; omega)
            go_upto_region 20 with (fail)
            refine QT.wp_region_facts_tail 12 (by kernel_rfl) (fun w' => Below w15.heap.size w15 w') (fun n v w' => (([.val (.pointer (some ⟨g8, 35, none⟩)), .val (sa), .val (.pointer (some ⟨g1, 2, none⟩)), .val (.agg CL), .val (.agg CP), .val (.slice aw d cw), .val (.pointer (some ⟨g1, 35, none⟩)), .val (.slice (some ⟨gs, os_, none⟩) d cs), .val (.int .i64 j), .val (.int .i64 (j1 : Int)), .val (.agg CB), .row1 bh] : List FactE).getD n (.val undef) : FactE).holds v w') (by kernel_rfl) (by kernel_rfl) (Below.refl _ _).drew (fun w1 w2 h1 hb => h1.trans (hb.mono h1.size)) (fun n v w1 w2 h hb => FactE.kept _ v w1 w2 h hb) (fun n o hn ho a wz hI hag hdep => ?_) (fun a wz hI hag hf => ?_)
            · have t8 : a.eval (.tmp 8) = .pointer (some ⟨g8, 0, none⟩) := hag.old 8 _ (by kernel_rfl) rfl
              have t1 : a.eval (.tmp 1) = .pointer (some ⟨g1, 0, none⟩) := hag.old 1 _ (by kernel_rfl) rfl
              have t4 : a.eval (.tmp 4) = .slice aw d cw := hag.old 4 _ (by kernel_rfl) rfl
              have t5 : a.eval (.tmp 5) = .int .i64 j := hag.old 5 _ (by kernel_rfl) rfl
              have cO := (HO.out.kept hI).ev.c35
              have hBX := HO.out.below.trans (hI.mono HOB.out)
              have hE := HE1.out wz hBX
              have c35 := hE.c35
              match n, ho with
              | 0, ho =>
                obtain rfl := (Option.some.inj ho).symm
                exact ⟨rfl, QT.wp_value (v := .pointer (some ⟨g8, 35, none⟩)) (by simp [go_sem, QT.nf t8]) ⟨_, rfl, rfl, Below.refl _ _⟩⟩
              | 1, ho =>
                obtain rfl := (Option.some.inj ho).symm
                have d85 : a.eval (.tmp 85) = .pointer (some ⟨g8, 35, none⟩) := hdep _ (Array.mem_of_getElem? (i := 0) rfl) rfl _ _ rfl rfl
                exact ⟨rfl, QT.wp_value (v := sa) (by simp [go_sem, QT.nf d85, cO]) ⟨_, rfl, rfl, Below.refl _ _⟩⟩
              | 2, ho =>
                obtain rfl := (Option.some.inj ho).symm
                exact ⟨rfl, QT.wp_value (v := .pointer (some ⟨g1, 2, none⟩)) (by simp [go_sem, QT.nf t1]) ⟨_, rfl, rfl, Below.refl _ _⟩⟩
              | 3, ho =>
                obtain rfl := (Option.some.inj ho).symm
                have d87 : a.eval (.tmp 87) = .pointer (some ⟨g1, 2, none⟩) := hdep _ (Array.mem_of_getElem? (i := 0) rfl) rfl _ _ rfl rfl
                exact ⟨rfl, wp_load_mid 23 (.tmp 87) rfl g1 (2) (by simpa [go_sem] using d87) (valsB leaf) _ (hE.lf) Try.underlying23 rfl HIL.out ⟨_, rfl, by rw [HCL.out]; rfl, Below.refl _ _⟩⟩
              | 4, ho =>
                obtain rfl := (Option.some.inj ho).symm
                have d88 : a.eval (.tmp 88) = .agg CL := hdep _ (Array.mem_of_getElem? (i := 0) rfl) rfl _ _ rfl rfl
                exact ⟨rfl, QT.wp_enter (f := 43) (args := #[.agg CL]) (by simp [go_sem, QT.nf d88]) (HPU.out wz) fun w' hb => ⟨_, rfl, rfl, hb⟩⟩
              | 5, ho =>
                obtain rfl := (Option.some.inj ho).symm
                exact ⟨rfl, QT.wp_value (BigFrame.run_move (.tmp 4) rfl wz) ⟨_, rfl, t4, Below.refl _ _⟩⟩
              | 6, ho =>
                obtain rfl := (Option.some.inj ho).symm
                exact ⟨rfl, QT.wp_value (v := .pointer (some ⟨g1, 35, none⟩)) (by simp [go_sem, QT.nf t1]) ⟨_, rfl, rfl, Below.refl _ _⟩⟩
              | 7, ho =>
                obtain rfl := (Option.some.inj ho).symm
                have d91 : a.eval (.tmp 91) = .pointer (some ⟨g1, 35, none⟩) := hdep _ (Array.mem_of_getElem? (i := 0) rfl) rfl _ _ rfl rfl
                exact ⟨rfl, QT.wp_value (v := .slice (some ⟨gs, os_, none⟩) d cs) (by simp [go_sem, QT.nf d91, c35]) ⟨_, rfl, rfl, Below.refl _ _⟩⟩
              | 8, ho =>
                obtain rfl := (Option.some.inj ho).symm
                exact ⟨rfl, QT.wp_value (BigFrame.run_move (.tmp 5) rfl wz) ⟨_, rfl, t5, Below.refl _ _⟩⟩
              | 9, ho =>
                obtain rfl := (Option.some.inj ho).symm
                have d93 : a.eval (.tmp 93) = .int .i64 j := hdep _ (Array.mem_of_getElem? (i := 0) rfl) rfl _ _ rfl rfl
                exact ⟨rfl, QT.wp_value (v := .int .i64 (j1 : Int)) (by simp [go_sem, QT.nf d93, HJ1.out, HWJ.out]) ⟨_, rfl, rfl, Below.refl _ _⟩⟩
              | 10, ho =>
                obtain rfl := (Option.some.inj ho).symm
                have d89 : a.eval (.tmp 89) = .agg CP := hdep _ (Array.mem_of_getElem? (i := 0) rfl) rfl _ _ rfl rfl
                have d90 : a.eval (.tmp 90) = .slice aw d cw := hdep _ (Array.mem_of_getElem? (i := 1) rfl) rfl _ _ rfl rfl
                have d92 : a.eval (.tmp 92) = .slice (some ⟨gs, os_, none⟩) d cs := hdep _ (Array.mem_of_getElem? (i := 2) rfl) rfl _ _ rfl rfl
                have d94 : a.eval (.tmp 94) = .int .i64 (j1 : Int) := hdep _ (Array.mem_of_getElem? (i := 3) rfl) rfl _ _ rfl rfl
                exact ⟨rfl, QT.wp_enter (f := 42) (args := #[.agg CP, .slice aw d cw, .slice (some ⟨gs, os_, none⟩) d cs, .int .i64 (j1 : Int)]) (by simp [go_sem, QT.nf d89, QT.nf d90, QT.nf d92, QT.nf d94]) (HOV.out aw cw wz (HXB.out wz hBX) (HXS.out wz hBX)) fun w' hb => ⟨_, rfl, rfl, hb⟩⟩
              | 11, ho =>
                obtain rfl := (Option.some.inj ho).symm
                have d95 : a.eval (.tmp 95) = .agg CB := hdep _ (Array.mem_of_getElem? (i := 0) rfl) rfl _ _ rfl rfl
                exact ⟨rfl, wp_build_k 1 #[(0, .tmp 95)] rfl [bh] HBH32.out rfl (by omega) (by omega) (by simp [d95, HCB.out]) fun w' hr hb => ⟨_, rfl, ⟨_, rfl, hr⟩, hb⟩⟩
              | n + 12, ho => omega
            · have f0 : a.eval (.tmp 85) = .pointer (some ⟨g8, 35, none⟩) := hf 0 _ _ (by omega) rfl rfl
              have f1 : a.eval (.tmp 86) = sa := hf 1 _ _ (by omega) rfl rfl
              have f2 : a.eval (.tmp 87) = .pointer (some ⟨g1, 2, none⟩) := hf 2 _ _ (by omega) rfl rfl
              have f3 : a.eval (.tmp 88) = .agg CL := hf 3 _ _ (by omega) rfl rfl
              have f4 : a.eval (.tmp 89) = .agg CP := hf 4 _ _ (by omega) rfl rfl
              have f5 : a.eval (.tmp 90) = .slice aw d cw := hf 5 _ _ (by omega) rfl rfl
              have f6 : a.eval (.tmp 91) = .pointer (some ⟨g1, 35, none⟩) := hf 6 _ _ (by omega) rfl rfl
              have f7 : a.eval (.tmp 92) = .slice (some ⟨gs, os_, none⟩) d cs := hf 7 _ _ (by omega) rfl rfl
              have f8 : a.eval (.tmp 93) = .int .i64 j := hf 8 _ _ (by omega) rfl rfl
              have f9 : a.eval (.tmp 94) = .int .i64 (j1 : Int) := hf 9 _ _ (by omega) rfl rfl
              have f10 : a.eval (.tmp 95) = .agg CB := hf 10 _ _ (by omega) rfl rfl
              have f11' : ((.row1 bh) : FactE).holds (a.eval (.tmp 96)) wz := hf 11 _ _ (by omega) rfl rfl
              obtain ⟨q11', f11, y11⟩ := f11'
              have ha := hag.puts [(85, .pointer (some ⟨g8, 35, none⟩)), (86, sa), (87, .pointer (some ⟨g1, 2, none⟩)), (88, .agg CL), (89, .agg CP), (90, .slice aw d cw), (91, .pointer (some ⟨g1, 35, none⟩)), (92, .slice (some ⟨gs, os_, none⟩) d cs), (93, .int .i64 j), (94, .int .i64 (j1 : Int)), (95, .agg CB), (96, .slice (some ⟨q11', 0, none⟩) 1 1)] rfl (by simp) (by simp only [List.forall_mem_cons, List.not_mem_nil, false_implies, implies_true, and_true]; exact ⟨f0, f1, f2, f3, f4, f5, f6, f7, f8, f9, f10, f11⟩)
              subst ha
              clear hag hf f0 f1 f2 f3 f4 f5 f6 f7 f8 f9 f10 f11
              simp only [List.foldl_cons, List.foldl_nil, Act.put, List.drop_succ_cons, List.drop_zero, List.setIfInBounds_toArray, List.set_cons_succ, List.set_cons_zero]
              have HZ := HO.out.kept hI
              clear hI
              go_upto_region 21 with (refine wpList_append_one rfl (.tmp 86) (.tmp 96) rfl (g8 + 1) sa (S.take j) rfl HZ.s q11' 1 bh rfl y11 HPw.out HZ.size ?_; intro v6 w6 ho6 hg6 hk6; obtain ⟨gb2, cb2, hgb⟩ := own_formE ho6; rw [HAw.out] at hgb; subst hgb; have hrow6 := HZ.row_grown (fun k hk => (own_lt HZ.s k hk).1) hg6; have hc6 : w6.cell? ⟨g8, 35, none⟩ = some sa := (by rw [Lib.cell_of_heap hrow6]; exact evRow_35 _ _ _ _ _ HKL.out); have hf6 : w6.frozen? ⟨g8, 35, none⟩ = false := Lib.frozen_of_heap hrow6 35)
              rw [setCell_eq_setRow w6 g8 35 _ _ _ _ hrow6, evRow_set35 _ _ _ _ _ _ HKL.out]
              have HO' := Lib.hid (HZ.growS ho6 hg6 hk6)
              clear HZ ho6 hg6 hk6 hrow6 hc6 hf6 y11 HO HOB
              have HO := HO'
              clear HO'
              generalize w6.setRow g8 (evRow d (p1 : Int) K (.slice gb1 (j + 1) cb1) (.slice gb2 (j + 1) cb2)) = w16 at HO ⊢
              go_wp2_with fail
              go_loopw [10] (fun iv wr => ∃ (i : Nat) (ra sa : Value), i ≤ e ∧ iv = .int .i64 i ∧ OutAt w12 w13 (g8 + 1) g8 g8 d (p1 : Int) K ra sa (R.take j ++ [zeroL] ++ RK.take i) (S.take j ++ [bh] ++ SK.take i) wr) (fun iv _ => e - (intOf iv).toNat)
              case atStart => exact ⟨0, _, _, by omega, rfl, by rw [List.take_zero, List.append_nil, List.take_zero, List.append_nil]; exact HO.out⟩
              case round =>
                clear HO
                obtain ⟨i, ra, sa, hn, rfl, ho⟩ := hrel
                have HO := Lib.hid ho
                clear ho
                by_cases hlt : i < e
                · obtain ⟨x, hx⟩ : ∃ x, RK[i]? = some x := ⟨RK[i]'(by have := HRKL.out; have := HEN.out; omega), List.getElem?_eq_getElem _⟩
                  obtain ⟨y, hy⟩ : ∃ y, SK[i]? = some y := ⟨SK[i]'(by have := HSKL.out; have := HEN.out; omega), List.getElem?_eq_getElem _⟩
                  have hxl := HRK32.out x (List.mem_of_getElem? hx)
                  have hyl := HSK32.out y (List.mem_of_getElem? hy)
                  have HGx := Lib.hid hx
                  have HGy := Lib.hid hy
                  have HIx := Lib.hid (info_len x hxl)
                  have HIy := Lib.hid (info_len y hyl)
                  have H1x := Lib.hid (show H32 [x] from fun z hz => by simp at hz; subst hz; exact hxl)
                  have H1y := Lib.hid (show H32 [y] from fun z hz => by simp at hz; subst hz; exact hyl)
                  have HPx := Lib.hid (show (R.take j ++ [zeroL] ++ RK.take i).length ≤ 1099511627776 by have h1 := HRL.out; have h2 := HSL.out; have h3 := HRKL.out; have h4 := HSKL.out; have h5 := HEN.out; have h6 := HJD.out; simp only [List.length_append, List.length_take, List.length_cons, List.length_nil]; omega)
                  have HPy := Lib.hid (show (S.take j ++ [bh] ++ SK.take i).length ≤ 1099511627776 by have h1 := HRL.out; have h2 := HSL.out; have h3 := HRKL.out; have h4 := HSKL.out; have h5 := HEN.out; have h6 := HJD.out; simp only [List.length_append, List.length_take, List.length_cons, List.length_nil]; omega)
                  have HAx := Lib.hid (show (R.take j ++ [zeroL] ++ RK.take i ++ [x]).length = (j + 1 + i) + 1 by have h1 := HRL.out; have h2 := HSL.out; have h3 := HRKL.out; have h4 := HSKL.out; have h5 := HEN.out; have h6 := HJD.out; simp only [List.length_append, List.length_take, List.length_cons, List.length_nil]; omega)
                  have HAy := Lib.hid (show (S.take j ++ [bh] ++ SK.take i ++ [y]).length = (j + 1 + i) + 1 by have h1 := HRL.out; have h2 := HSL.out; have h3 := HRKL.out; have h4 := HSKL.out; have h5 := HEN.out; have h6 := HJD.out; simp only [List.length_append, List.length_take, List.length_cons, List.length_nil]; omega)
                  have HND := Lib.hid (show (i : Int) < (e : Int) by have := HJD.out; omega)
                  have hnj : (i : Int) < (e : Int) := by omega
                  have hn0 : (0 : Int) ≤ (i : Int) := by omega
                  obtain ⟨CX, hCX⟩ : ∃ C, (valsB x).toArray = C := ⟨_, rfl⟩
                  obtain ⟨CY, hCY⟩ : ∃ C, (valsB y).toArray = C := ⟨_, rfl⟩
                  have HCX := Lib.hid hCX
                  have HCY := Lib.hid hCY
                  clear hx hy hxl hyl hCX hCY
                  have c7 := (HE7.out wr HO.out.below).c34
                  have HOB := Lib.hid (show g8 ≤ wr.heap.size by have := HO.out.size; omega)
                  obtain ⟨ga, oa, har, hrng⟩ := hashes_cellE (HYR.out wr HO.out.below) i x HGx.out
                  subst har
                  have HRx := Lib.hid hrng
                  clear hrng
                  go_upto_region 24 with (fail)
                  refine QT.wp_region_facts_tail 8 (by kernel_rfl) (fun w' => Below wr.heap.size wr w') (fun n v w' => (([.val (.pointer (some ⟨g8, 34, none⟩)), .val (ra), .val (.pointer (some ⟨q11, 34, none⟩)), .val (.slice (some ⟨ga, oa, none⟩) e xc), .val (.int .i64 i), .val (.pointer (some ⟨ga, oa + i * 32, none⟩)), .val (.agg CX), .row1 x] : List FactE).getD n (.val undef) : FactE).holds v w') (by kernel_rfl) (by kernel_rfl) (Below.refl _ _).drew (fun w1 w2 h1 hb => h1.trans (hb.mono h1.size)) (fun n v w1 w2 h hb => FactE.kept _ v w1 w2 h hb) (fun n o hn ho a wz hI hag hdep => ?_) (fun a wz hI hag hf => ?_)
                  · have t8 : a.eval (.tmp 8) = .pointer (some ⟨g8, 0, none⟩) := hag.old 8 _ (by kernel_rfl) rfl
                    have t7 : a.eval (.tmp 7) = .pointer (some ⟨q11, 0, none⟩) := hag.old 7 _ (by kernel_rfl) rfl
                    have t10 : a.eval (.tmp 10) = .int .i64 i := hag.old 10 _ (by kernel_rfl) rfl
                    have cO := (HO.out.kept hI).ev.c34
                    have cS := (HE7.out wz (HO.out.below.trans (hI.mono HOB.out))).c34
                    have hn0 : (0 : Int) ≤ (i : Int) := by omega
                    have hnd : (i : Int) < (e : Int) := HND.out
                    match n, ho with
                    | 0, ho =>
                      obtain rfl := (Option.some.inj ho).symm
                      exact ⟨rfl, QT.wp_value (v := .pointer (some ⟨g8, 34, none⟩)) (by simp [go_sem, QT.nf t8]) ⟨_, rfl, rfl, Below.refl _ _⟩⟩
                    | 1, ho =>
                      obtain rfl := (Option.some.inj ho).symm
                      have d106 : a.eval (.tmp 106) = .pointer (some ⟨g8, 34, none⟩) := hdep _ (Array.mem_of_getElem? (i := 0) rfl) rfl _ _ rfl rfl
                      exact ⟨rfl, QT.wp_value (v := ra) (by simp [go_sem, QT.nf d106, cO]) ⟨_, rfl, rfl, Below.refl _ _⟩⟩
                    | 2, ho =>
                      obtain rfl := (Option.some.inj ho).symm
                      exact ⟨rfl, QT.wp_value (v := .pointer (some ⟨q11, 34, none⟩)) (by simp [go_sem, QT.nf t7]) ⟨_, rfl, rfl, Below.refl _ _⟩⟩
                    | 3, ho =>
                      obtain rfl := (Option.some.inj ho).symm
                      have d108 : a.eval (.tmp 108) = .pointer (some ⟨q11, 34, none⟩) := hdep _ (Array.mem_of_getElem? (i := 0) rfl) rfl _ _ rfl rfl
                      exact ⟨rfl, QT.wp_value (v := .slice (some ⟨ga, oa, none⟩) e xc) (by simp [go_sem, QT.nf d108, cS]) ⟨_, rfl, rfl, Below.refl _ _⟩⟩
                    | 4, ho =>
                      obtain rfl := (Option.some.inj ho).symm
                      exact ⟨rfl, QT.wp_value (BigFrame.run_move (.tmp 10) rfl wz) ⟨_, rfl, t10, Below.refl _ _⟩⟩
                    | 5, ho =>
                      obtain rfl := (Option.some.inj ho).symm
                      have d109 : a.eval (.tmp 109) = .slice (some ⟨ga, oa, none⟩) e xc := hdep _ (Array.mem_of_getElem? (i := 0) rfl) rfl _ _ rfl rfl
                      have d110 : a.eval (.tmp 110) = .int .i64 i := hdep _ (Array.mem_of_getElem? (i := 1) rfl) rfl _ _ rfl rfl
                      exact ⟨rfl, QT.wp_value (v := .pointer (some ⟨ga, oa + i * 32, none⟩)) (by simp [go_sem, QT.nf d109, QT.nf d110, hn0, hnd]) ⟨_, rfl, rfl, Below.refl _ _⟩⟩
                    | 6, ho =>
                      obtain rfl := (Option.some.inj ho).symm
                      have d111 : a.eval (.tmp 111) = .pointer (some ⟨ga, oa + i * 32, none⟩) := hdep _ (Array.mem_of_getElem? (i := 0) rfl) rfl _ _ rfl rfl
                      exact ⟨rfl, wp_load_mid 23 (.tmp 111) rfl ga (oa + i * 32) (by simpa [go_sem] using d111) (valsB x) _ (range_kept hI HRx.out) Try.underlying23 rfl HIx.out ⟨_, rfl, by rw [HCX.out]; rfl, Below.refl _ _⟩⟩
                    | 7, ho =>
                      obtain rfl := (Option.some.inj ho).symm
                      have d112 : a.eval (.tmp 112) = .agg CX := hdep _ (Array.mem_of_getElem? (i := 0) rfl) rfl _ _ rfl rfl
                      exact ⟨rfl, wp_build_k 1 #[(0, .tmp 112)] rfl [x] H1x.out rfl (by omega) (by omega) (by simp [d112, HCX.out]) fun w' hr hb => ⟨_, rfl, ⟨_, rfl, hr⟩, hb⟩⟩
                    | n + 8, ho => omega
                  · have f0 : a.eval (.tmp 106) = .pointer (some ⟨g8, 34, none⟩) := hf 0 _ _ (by omega) rfl rfl
                    have f1 : a.eval (.tmp 107) = ra := hf 1 _ _ (by omega) rfl rfl
                    have f2 : a.eval (.tmp 108) = .pointer (some ⟨q11, 34, none⟩) := hf 2 _ _ (by omega) rfl rfl
                    have f3 : a.eval (.tmp 109) = .slice (some ⟨ga, oa, none⟩) e xc := hf 3 _ _ (by omega) rfl rfl
                    have f4 : a.eval (.tmp 110) = .int .i64 i := hf 4 _ _ (by omega) rfl rfl
                    have f5 : a.eval (.tmp 111) = .pointer (some ⟨ga, oa + i * 32, none⟩) := hf 5 _ _ (by omega) rfl rfl
                    have f6 : a.eval (.tmp 112) = .agg CX := hf 6 _ _ (by omega) rfl rfl
                    have f7' : ((.row1 x) : FactE).holds (a.eval (.tmp 113)) wz := hf 7 _ _ (by omega) rfl rfl
                    obtain ⟨q7, f7, y7⟩ := f7'
                    have ha := hag.puts [(106, .pointer (some ⟨g8, 34, none⟩)), (107, ra), (108, .pointer (some ⟨q11, 34, none⟩)), (109, .slice (some ⟨ga, oa, none⟩) e xc), (110, .int .i64 i), (111, .pointer (some ⟨ga, oa + i * 32, none⟩)), (112, .agg CX), (113, .slice (some ⟨q7, 0, none⟩) 1 1)] rfl (by simp) (by simp only [List.forall_mem_cons, List.not_mem_nil, false_implies, implies_true, and_true]; exact ⟨f0, f1, f2, f3, f4, f5, f6, f7⟩)
                    subst ha
                    clear hag hf f0 f1 f2 f3 f4 f5 f6 f7
                    simp only [List.foldl_cons, List.foldl_nil, Act.put, List.drop_succ_cons, List.drop_zero, List.setIfInBounds_toArray, List.set_cons_succ, List.set_cons_zero]
                    have HZ := HO.out.kept hI
                    clear hI
                    go_upto_region 25 with (refine wpList_append_one rfl (.tmp 107) (.tmp 113) rfl (g8 + 1) ra (R.take j ++ [zeroL] ++ RK.take i) rfl HZ.r q7 1 x rfl y7 HPx.out HZ.size ?_; intro v6 w6 ho6 hg6 hk6; obtain ⟨gb1, cb1, hgb⟩ := own_formE ho6; rw [HAx.out] at hgb; subst hgb; have hrow6 := HZ.row_grown (fun k hk => (own_lt HZ.r k hk).1) hg6; have hc6 : w6.cell? ⟨g8, 34, none⟩ = some ra := (by rw [Lib.cell_of_heap hrow6]; exact evRow_34 _ _ _ _ _ HKL.out); have hf6 : w6.frozen? ⟨g8, 34, none⟩ = false := Lib.frozen_of_heap hrow6 34)
                    rw [setCell_eq_setRow w6 g8 34 _ _ _ _ hrow6, evRow_set34 _ _ _ _ _ _ HKL.out]
                    have HO' := Lib.hid (HZ.growR ho6 hg6 hk6)
                    clear HZ ho6 hg6 hk6 hrow6 hc6 hf6 y7 HO HOB
                    have HO := HO'
                    clear HO'
                    generalize w6.setRow g8 (evRow d (p1 : Int) K (.slice gb1 ((j + 1 + i) + 1) cb1) sa) = w5 at HO ⊢
                    have HOB := Lib.hid (show g8 ≤ w5.heap.size by have := HO.out.size; omega)
                    obtain ⟨gz, oz, har, hrng⟩ := hashes_cellE (HYS.out w5 HO.out.below) i y HGy.out
                    subst har
                    have HRy := Lib.hid hrng
                    clear hrng
                    go_upto_region 25 with (fail)
                    refine QT.wp_region_facts_tail 8 (by kernel_rfl) (fun w' => Below w5.heap.size w5 w') (fun n v w' => (([.val (.pointer (some ⟨g8, 35, none⟩)), .val (sa), .val (.pointer (some ⟨q11, 35, none⟩)), .val (.slice (some ⟨gz, oz, none⟩) e zc), .val (.int .i64 i), .val (.pointer (some ⟨gz, oz + i * 32, none⟩)), .val (.agg CY), .row1 y] : List FactE).getD n (.val undef) : FactE).holds v w') (by kernel_rfl) (by kernel_rfl) (Below.refl _ _).drew (fun w1 w2 h1 hb => h1.trans (hb.mono h1.size)) (fun n v w1 w2 h hb => FactE.kept _ v w1 w2 h hb) (fun n o hn ho a wz hI hag hdep => ?_) (fun a wz hI hag hf => ?_)
                    · have t8 : a.eval (.tmp 8) = .pointer (some ⟨g8, 0, none⟩) := hag.old 8 _ (by kernel_rfl) rfl
                      have t7 : a.eval (.tmp 7) = .pointer (some ⟨q11, 0, none⟩) := hag.old 7 _ (by kernel_rfl) rfl
                      have t10 : a.eval (.tmp 10) = .int .i64 i := hag.old 10 _ (by kernel_rfl) rfl
                      have cO := (HO.out.kept hI).ev.c35
                      have cS := (HE7.out wz (HO.out.below.trans (hI.mono HOB.out))).c35
                      have hn0 : (0 : Int) ≤ (i : Int) := by omega
                      have hnd : (i : Int) < (e : Int) := HND.out
                      match n, ho with
                      | 0, ho =>
                        obtain rfl := (Option.some.inj ho).symm
                        exact ⟨rfl, QT.wp_value (v := .pointer (some ⟨g8, 35, none⟩)) (by simp [go_sem, QT.nf t8]) ⟨_, rfl, rfl, Below.refl _ _⟩⟩
                      | 1, ho =>
                        obtain rfl := (Option.some.inj ho).symm
                        have d116 : a.eval (.tmp 116) = .pointer (some ⟨g8, 35, none⟩) := hdep _ (Array.mem_of_getElem? (i := 0) rfl) rfl _ _ rfl rfl
                        exact ⟨rfl, QT.wp_value (v := sa) (by simp [go_sem, QT.nf d116, cO]) ⟨_, rfl, rfl, Below.refl _ _⟩⟩
                      | 2, ho =>
                        obtain rfl := (Option.some.inj ho).symm
                        exact ⟨rfl, QT.wp_value (v := .pointer (some ⟨q11, 35, none⟩)) (by simp [go_sem, QT.nf t7]) ⟨_, rfl, rfl, Below.refl _ _⟩⟩
                      | 3, ho =>
                        obtain rfl := (Option.some.inj ho).symm
                        have d118 : a.eval (.tmp 118) = .pointer (some ⟨q11, 35, none⟩) := hdep _ (Array.mem_of_getElem? (i := 0) rfl) rfl _ _ rfl rfl
                        exact ⟨rfl, QT.wp_value (v := .slice (some ⟨gz, oz, none⟩) e zc) (by simp [go_sem, QT.nf d118, cS]) ⟨_, rfl, rfl, Below.refl _ _⟩⟩
                      | 4, ho =>
                        obtain rfl := (Option.some.inj ho).symm
                        exact ⟨rfl, QT.wp_value (BigFrame.run_move (.tmp 10) rfl wz) ⟨_, rfl, t10, Below.refl _ _⟩⟩
                      | 5, ho =>
                        obtain rfl := (Option.some.inj ho).symm
                        have d119 : a.eval (.tmp 119) = .slice (some ⟨gz, oz, none⟩) e zc := hdep _ (Array.mem_of_getElem? (i := 0) rfl) rfl _ _ rfl rfl
                        have d120 : a.eval (.tmp 120) = .int .i64 i := hdep _ (Array.mem_of_getElem? (i := 1) rfl) rfl _ _ rfl rfl
                        exact ⟨rfl, QT.wp_value (v := .pointer (some ⟨gz, oz + i * 32, none⟩)) (by simp [go_sem, QT.nf d119, QT.nf d120, hn0, hnd]) ⟨_, rfl, rfl, Below.refl _ _⟩⟩
                      | 6, ho =>
                        obtain rfl := (Option.some.inj ho).symm
                        have d121 : a.eval (.tmp 121) = .pointer (some ⟨gz, oz + i * 32, none⟩) := hdep _ (Array.mem_of_getElem? (i := 0) rfl) rfl _ _ rfl rfl
                        exact ⟨rfl, wp_load_mid 23 (.tmp 121) rfl gz (oz + i * 32) (by simpa [go_sem] using d121) (valsB y) _ (range_kept hI HRy.out) Try.underlying23 rfl HIy.out ⟨_, rfl, by rw [HCY.out]; rfl, Below.refl _ _⟩⟩
                      | 7, ho =>
                        obtain rfl := (Option.some.inj ho).symm
                        have d122 : a.eval (.tmp 122) = .agg CY := hdep _ (Array.mem_of_getElem? (i := 0) rfl) rfl _ _ rfl rfl
                        exact ⟨rfl, wp_build_k 1 #[(0, .tmp 122)] rfl [y] H1y.out rfl (by omega) (by omega) (by simp [d122, HCY.out]) fun w' hr hb => ⟨_, rfl, ⟨_, rfl, hr⟩, hb⟩⟩
                      | n + 8, ho => omega
                    · have f0 : a.eval (.tmp 116) = .pointer (some ⟨g8, 35, none⟩) := hf 0 _ _ (by omega) rfl rfl
                      have f1 : a.eval (.tmp 117) = sa := hf 1 _ _ (by omega) rfl rfl
                      have f2 : a.eval (.tmp 118) = .pointer (some ⟨q11, 35, none⟩) := hf 2 _ _ (by omega) rfl rfl
                      have f3 : a.eval (.tmp 119) = .slice (some ⟨gz, oz, none⟩) e zc := hf 3 _ _ (by omega) rfl rfl
                      have f4 : a.eval (.tmp 120) = .int .i64 i := hf 4 _ _ (by omega) rfl rfl
                      have f5 : a.eval (.tmp 121) = .pointer (some ⟨gz, oz + i * 32, none⟩) := hf 5 _ _ (by omega) rfl rfl
                      have f6 : a.eval (.tmp 122) = .agg CY := hf 6 _ _ (by omega) rfl rfl
                      have f7' : ((.row1 y) : FactE).holds (a.eval (.tmp 123)) wz := hf 7 _ _ (by omega) rfl rfl
                      obtain ⟨q7, f7, y7⟩ := f7'
                      have ha := hag.puts [(116, .pointer (some ⟨g8, 35, none⟩)), (117, sa), (118, .pointer (some ⟨q11, 35, none⟩)), (119, .slice (some ⟨gz, oz, none⟩) e zc), (120, .int .i64 i), (121, .pointer (some ⟨gz, oz + i * 32, none⟩)), (122, .agg CY), (123, .slice (some ⟨q7, 0, none⟩) 1 1)] rfl (by simp) (by simp only [List.forall_mem_cons, List.not_mem_nil, false_implies, implies_true, and_true]; exact ⟨f0, f1, f2, f3, f4, f5, f6, f7⟩)
                      subst ha
                      clear hag hf f0 f1 f2 f3 f4 f5 f6 f7
                      simp only [List.foldl_cons, List.foldl_nil, Act.put, List.drop_succ_cons, List.drop_zero, List.setIfInBounds_toArray, List.set_cons_succ, List.set_cons_zero]
                      have HZ := HO.out.kept hI
                      clear hI
                      go_upto_region 23 with (refine wpList_append_one rfl (.tmp 117) (.tmp 123) rfl (g8 + 1) sa (S.take j ++ [bh] ++ SK.take i) rfl HZ.s q7 1 y rfl y7 HPy.out HZ.size ?_; intro v6 w6 ho6 hg6 hk6; obtain ⟨gb2, cb2, hgb⟩ := own_formE ho6; rw [HAy.out] at hgb; subst hgb; have hrow6 := HZ.row_grown (fun k hk => (own_lt HZ.s k hk).1) hg6; have hc6 : w6.cell? ⟨g8, 35, none⟩ = some sa := (by rw [Lib.cell_of_heap hrow6]; exact evRow_35 _ _ _ _ _ HKL.out); have hf6 : w6.frozen? ⟨g8, 35, none⟩ = false := Lib.frozen_of_heap hrow6 35)
                      rw [setCell_eq_setRow w6 g8 35 _ _ _ _ hrow6, evRow_set35 _ _ _ _ _ _ HKL.out]
                      have HO' := Lib.hid (HZ.growS ho6 hg6 hk6)
                      clear HZ ho6 hg6 hk6 hrow6 hc6 hf6 y7 HO HOB
                      have HO := HO'
                      clear HO'
                      generalize w6.setRow g8 (evRow d (p1 : Int) K (.slice gb1 ((j + 1 + i) + 1) cb1) (.slice gb2 ((j + 1 + i) + 1) cb2)) = w7 at HO ⊢
                      have hi4 : (i : Int) ≤ 4 := by have := HEN.out; omega
                      go_wp2_with fail
                      go_roundw
                      case rel => exact ⟨i + 1, _, _, by omega, by go_num, by simp only [take_more HGx.out, take_more HGy.out, ← List.append_assoc]; exact HO.out⟩
                      case measure => simp [intOf]; omega
                · obtain rfl : e = i := by omega
                  have hee : ¬ ((e : Int) < (e : Int)) := by omega
                  have c7 := (HE7.out wr HO.out.below).c34
                  clear hn hlt
                  rw [show RK.take e = RK from List.take_of_length_le (Nat.le_of_eq HRKL.out), show SK.take e = SK from List.take_of_length_le (Nat.le_of_eq HSKL.out)] at HO
                  obtain ⟨fa, fc, hfa⟩ := own_formE HO.out.r
                  obtain ⟨fb, fd, hfb⟩ := own_formE HO.out.s
                  rw [show (R.take j ++ [zeroL] ++ RK).length = d by have h1 := HRL.out; have h2 := HSL.out; have h3 := HRKL.out; have h4 := HSKL.out; have h5 := HEN.out; have h6 := HJD.out; simp only [List.length_append, List.length_take, List.length_cons, List.length_nil]; omega] at hfa
                  rw [show (S.take j ++ [bh] ++ SK).length = d by have h1 := HRL.out; have h2 := HSL.out; have h3 := HRKL.out; have h4 := HSKL.out; have h5 := HEN.out; have h6 := HJD.out; simp only [List.length_append, List.length_take, List.length_cons, List.length_nil]; omega] at hfb
                  subst hfa hfb
                  have h8 := HO.out.row
                  obtain ⟨EV, hEV⟩ : ∃ E, evRow d (p1 : Int) K (.slice fa d fc) (.slice fb d fd) = E := ⟨_, rfl⟩
                  have HVI := Lib.hid (show (Try.prog.info? 26).map (·.size) = some EV.size by rw [← hEV]; exact ev_info _ _ _ _ _ HKL.out)
                  have HVZ := Lib.hid (show ZE.size = EV.size by rw [← hEV, HE0.out]; exact (evRow_size _ _ _ _ _ HKL.out).symm)
                  have HVA := Lib.hid (show EV.all (·.oneCell') = true by rw [← hEV]; exact ev_one _ _ _ _ _ _ _ _ _)
                  rw [hEV] at h8
                  have H8F := Lib.hid h8
                  have H2F := Lib.hid (HX2.out wr HO.out.below)
                  have HFR := Lib.hid (hashes_set (g := g2) HO.out.r.hashes (fun k hk => by have h1 := (own_lt HO.out.r k hk).1; have h2 := HL8.out; omega) EV)
                  have HFS := Lib.hid (hashes_set (g := g2) HO.out.s.hashes (fun k hk => by have h1 := (own_lt HO.out.s k hk).1; have h2 := HL8.out; omega) EV)
                  have HFB := Lib.hid (below_setRow (HXW.out wr HO.out.below) (show g1 ≤ g2 by have := HL8.out; omega) EV)
                  have HEVE := Lib.hid hEV
                  clear h8 hEV
                  go_wp2_with (first
                    | (refine wpList_load_row rfl 26 (.tmp 8) rfl g8 rfl 26 EV (0, 0) _ H8F.out Try.underlying26 rfl HVI.out ?_)
                    | (refine wpList_store_row rfl 26 (.tmp 2) (.tmp 126) rfl g2 EV rfl rfl 26 ZE H2F.out HVI.out HVZ.out HVA.out ?_))
                  refine bodyPost_ret (Sha.results_cell_tmp (p := 2) (t := 3) (ty := 26) Try.results23 _ _ g2 26 EV (0, 0) _ _ rfl rfl (setRow_heap _ _ _ _ _ _ H2F.out) Try.underlying26 rfl HVI.out) rfl ⟨fa, fb, fc, fd, by rw [HEVE.out]; rfl, (by have h := HFR.out; rw [List.append_assoc] at h; exact h), (by have h := HFS.out; rw [List.append_assoc] at h; exact h), HGE.out ▸ HFB.out⟩

end Go.Proofs.Ytpifjeghoapjbaa.Evolve
