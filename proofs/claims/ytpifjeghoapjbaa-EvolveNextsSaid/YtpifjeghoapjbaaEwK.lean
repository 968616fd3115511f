/- evolve: the code's toFirst: the rows that a key has not yet. -/
import Derived.Deep.AppendLies
import Derived.Test.YtpifjeghoapjbaaEwJ
namespace Go.Proofs.Ytpifjeghoapjbaa.Evolve
open Go.RowKit Go.Proofs.Ytpifjeghoapjbaa.Sha Go.Proofs.Ytpifjeghoapjbaa.Tree Go.Proofs.Ytpifjeghoapjbaa.Once

theorem own_formC {B : Nat} {v : Value} {P : List (List UInt8)} {w : World} (h : OwnH B v P w) : ∃ a c, v = .slice a P.length c ∧ P.length ≤ c := by
  rcases h.own.2 with ⟨rfl, h0⟩ | ⟨g, cap, cur, rfl, _, _, hle, _⟩
  · exact ⟨_, _, by rw [h0], by rw [h0]; exact Nat.le_refl _⟩
  · exact ⟨_, _, rfl, hle⟩
theorem hashes_cap {w : World} {a : Option Addr} {n c : Nat} {L : List (List UInt8)} (h : Hashes w (.slice a n c) L) (c' : Nat) : Hashes w (.slice a n c') L := by
  rcases h with ⟨a', cap, hv, h0⟩ | ⟨g, o, cap, hv, h0, hc⟩
  · cases hv; exact Or.inl ⟨_, _, rfl, h0⟩
  · cases hv; exact Or.inr ⟨_, _, _, rfl, h0, hc⟩
theorem below_setRow2 {w w' : World} {g : Nat} {cs old : Array Value} {t : TypeId} {fr : Nat × Nat} (h : Below w.heap.size w w') (hg : g < w.heap.size) (h0 : w.heap[g]? = some (.cells old t fr)) : Below w.heap.size (w.setRow g cs) (w'.setRow g cs) where
  os := h.os
  tape := h.tape
  output := h.output
  size := by rw [setRow_size, setRow_size]; exact h.size
  block := fun k hk => by
    by_cases hkg : k = g
    · subst hkg
      rw [setRow_heap _ _ _ _ _ _ ((h.block k hg).trans h0), setRow_heap _ _ _ _ _ _ h0]
    · rw [setRow_other _ _ _ _ hkg, setRow_other _ _ _ _ hkg]
      exact h.block k hk
theorem wp_skipTo {P : Program} {o : Oper} {a : Act} {w : World} {K : Act → World → Prop} {Q : Exit → Act → World → Prop} (w' : World) (h : (execOp a.eval o).run P w = .ok .skip w') (hk : K (a.put o.dst undef) w') : o.wp P a w K Q := by
  unfold Oper.wp
  rw [h]
  exact hk
theorem hashes_set {w : World} {v : Value} {L : List (List UInt8)} {g : Nat} (h : Hashes w v L) (hg : ∀ k, v.ownBlock = some k → k ≠ g) (cs : Array Value) : Hashes (w.setRow g cs) v L := by
  rcases h with h | ⟨b, o, cap, hv, h0, hc⟩
  · exact Or.inl h
  · refine Or.inr ⟨b, o, cap, hv, h0, fun i x hx j u hu => ?_⟩
    have h1 := hc i x hx j u hu
    have hb : b ≠ g := hg b (by rw [hv]; rfl)
    have h2 : (w.setRow g cs).heap[b]? = w.heap[b]? := setRow_other _ _ _ _ hb
    rw [← h1]
    simp [World.cell?, h2]
theorem ev_one (d p : Int) (leaf : List UInt8) (a1 a2 : Option Addr) (n1 c1 n2 c2 : Nat) : (evRow d p leaf (.slice a1 n1 c1) (.slice a2 n2 c2)).all (·.oneCell') = true := by
  refine all_oneCell_toArray fun v hv => ?_
  simp only [List.mem_append, List.mem_cons, List.not_mem_nil, or_false] at hv
  rcases hv with ((rfl | rfl) | hv) | (rfl | rfl)
  · rfl
  · rfl
  · obtain ⟨b, _, rfl⟩ := List.mem_map.1 hv
    rfl
  · rfl
  · rfl

set_option maxRecDepth 100000 in
set_option maxHeartbeats 12800000 in
theorem code_toFirst (d n : Nat) (p : Int) (hd : d ≤ 4) (hn : n ≤ d) (leaf : List UInt8) (hl : leaf.length = 32) (seed : List UInt8) (hsd : seed.length = 32) (B : Nat) (rv sv : Value) (R S : List (List UInt8)) (hRl : R.length = n) (hSl : S.length = n) (w : World) (hB : B ≤ w.heap.size) (hr : OwnH B rv R w) (hs : OwnH B sv S w) (hap : ∀ k, rv.ownBlock = some k → sv.ownBlock ≠ some k) :
    Calls Try.prog 28 #[.agg (evRow d p leaf rv sv), .agg (valsB seed).toArray] w fun e w' => ∃ ar as_, e = .returned (.agg (evRow d p (firstT d n seed R S (d - n)).1 (.slice ar d d) (.slice as_ d d))) ∧ Hashes w' (.slice ar d d) (firstT d n seed R S (d - n)).2.1 ∧ Hashes w' (.slice as_ d d) (firstT d n seed R S (d - n)).2.2 ∧ Below B w w' ∧ (∀ k, (Value.slice ar d d).ownBlock = some k → B ≤ k) ∧ (∀ k, (Value.slice as_ d d).ownBlock = some k → B ≤ k) := by
  have HSL := Lib.hid hsd
  have HRS := Lib.hid (row32 seed hsd)
  have HLF := Lib.hid hl
  have HRL0 := Lib.hid hRl
  have HSL0 := Lib.hid hSl
  obtain ⟨C, hC⟩ : ∃ C, (valsB seed).toArray = C := ⟨_, rfl⟩
  rw [hC] at HRS
  rw [hC]
  have HC := Lib.hid hC
  have HR := Lib.hid hr
  have HS := Lib.hid hs
  have HAP := Lib.hid hap
  obtain ⟨E, hE⟩ : ∃ E, evRow d p leaf rv sv = E := ⟨_, rfl⟩
  rw [hE]
  have HE := Lib.hid hE
  clear hC hE hsd hr hs hap hl
  go_enter Try.func28, Try.ntmps28
  go_upto_region 1 with (fail)
  rw [show #[Value.int .i64 0, Value.int .i64 0, Value.int .u8 0, Value.int .u8 0, Value.int .u8 0, Value.int .u8 0, Value.int .u8 0, Value.int .u8 0, Value.int .u8 0, Value.int .u8 0, Value.int .u8 0, Value.int .u8 0, Value.int .u8 0, Value.int .u8 0, Value.int .u8 0, Value.int .u8 0, Value.int .u8 0, Value.int .u8 0, Value.int .u8 0, Value.int .u8 0, Value.int .u8 0, Value.int .u8 0, Value.int .u8 0, Value.int .u8 0, Value.int .u8 0, Value.int .u8 0, Value.int .u8 0, Value.int .u8 0, Value.int .u8 0, Value.int .u8 0, Value.int .u8 0, Value.int .u8 0, Value.int .u8 0, Value.int .u8 0, Value.slice none 0 0, Value.slice none 0 0] = evRow 0 0 zeroL (.slice none 0 0) (.slice none 0 0) from rfl]
  have HE0 := Lib.hid (evRow_size 0 0 zeroL (.slice none 0 0) (.slice none 0 0) rfl)
  obtain ⟨ZE, hZE⟩ : ∃ Z, evRow 0 0 zeroL (.slice none 0 0) (.slice none 0 0) = Z := ⟨_, rfl⟩
  rw [hZE] at HE0
  rw [hZE]
  clear hZE
  have hs0 : (((w.alloc (.cells E 26)).alloc (.cells C 23)).alloc (.cells ZE 26)).heap.size = w.heap.size + 3 := by simp
  have hw1 : (w.alloc (.cells E 26)).heap.size = w.heap.size + 1 := by simp
  have HA0 := Lib.hid ((Below.heap_alloc _ (.cells ZE 26) w.heap.size (by simp; omega)).trans (heap_alloc2_old w (.cells E 26) (.cells C 23)))
  have HA1 := Lib.hid ((Below.heap_alloc _ (.cells ZE 26) (w.heap.size + 1) (by simp)).trans (heap_alloc2_new w (.cells E 26) (.cells C 23)))
  have HA2 := Lib.hid (show (((w.alloc (.cells E 26)).alloc (.cells C 23)).alloc (.cells ZE 26)).heap[w.heap.size + 1 + 1]? = some (.cells ZE 26 (0, 0)) by
    have h := heap_alloc2_new (w.alloc (.cells E 26)) (.cells C 23) (.cells ZE 26)
    rw [hw1] at h
    exact h)
  have HBW := Lib.hid (show Below w.heap.size w (((w.alloc (.cells E 26)).alloc (.cells C 23)).alloc (.cells ZE 26)) from (((Below.refl _ _).alloc (Nat.le_refl _) _).alloc (by simp) _).alloc (by simp; omega) _)
  clear hw1
  generalize (((w.alloc (.cells E 26)).alloc (.cells C 23)).alloc (.cells ZE 26)) = W at HA0 HA1 HA2 HBW hs0 ⊢
  obtain ⟨g2, hg2⟩ : ∃ x, w.heap.size = x := ⟨_, rfl⟩
  obtain ⟨g3, hg3⟩ : ∃ x, g2 + 1 = x := ⟨_, rfl⟩
  obtain ⟨g4, hg4⟩ : ∃ x, g3 + 1 = x := ⟨_, rfl⟩
  rw [hg2] at HA0 HA1 HA2 HBW hs0
  rw [hg3] at HA1 HA2
  rw [hg4] at HA2
  rw [hg2, hg3, hg4]
  have HGE := Lib.hid hg2
  have HLT := Lib.hid (show g2 < g3 ∧ g3 < g4 ∧ g4 < W.heap.size by omega)
  clear hg2 hg3 hg4 hs0
  have HK0 := Lib.hid (show FirstAt w B g2 g3 g4 ZE d p leaf seed rv sv R S W from
    { seed := by rw [HC.out]; exact HA1.out
      row := by rw [HE.out]; exact HA0.out
      res := HA2.out
      len := HLF.out
      r := HR.out.kept (HGE.out ▸ HBW.out)
      s := HS.out.kept (HGE.out ▸ HBW.out)
      apart := HAP.out
      ro := fun k hk => by have := (own_lt HR.out k hk).2; have := HLT.out; have := HGE.out; omega
      so := fun k hk => by have := (own_lt HS.out k hk).2; have := HLT.out; have := HGE.out; omega
      lt := by have := HLT.out; have := HGE.out; omega
      size := HLT.out.2.2
      below := HBW.out.mono (by rw [← HGE.out]; exact hB) })
  obtain ⟨a0, c0', hrv, _⟩ := own_formC HR.out
  have c34 := HK0.out.ev.c34
  rw [hrv, HRL0.out] at c34
  have HRV := Lib.hid hrv
  clear hrv
  go_wp2_with fail
  clear c34
  go_loopw [5] (fun iv wr => ∃ (k : Nat) (T : List UInt8) (R' S' : List (List UInt8)) (rv' sv' : Value), n + k ≤ d ∧ iv = .int .i64 ((n + k : Nat) : Int) ∧ firstT d n seed R S k = (T, R', S') ∧ FirstAt w B g2 g3 g4 ZE d p leaf T rv' sv' R' S' wr) (fun iv _ => d - (intOf iv).toNat)
  case atStart => exact ⟨0, seed, R, S, rv, sv, by omega, rfl, rfl, HK0.out⟩
  case round =>
    clear HK0
    obtain ⟨k, T, R', S', rv', sv', hi, rfl, hft, hk⟩ := hrel
    have HK := Lib.hid hk
    have HFT := Lib.hid hft
    have hlen := firstT_len d n seed R S HSL.out k
    rw [hft] at hlen
    have HTL := Lib.hid hlen.1
    have HRL := Lib.hid hlen.2.1
    have HSLN := Lib.hid hlen.2.2
    obtain ⟨i, hie⟩ : ∃ i, n + k = i := ⟨_, rfl⟩
    rw [hie] at hi
    rw [hie]
    have HIE := Lib.hid hie
    have cd := hk.ev.c0
    clear hk hft hlen hie
    by_cases hlt : i < d
    · have HNX := Lib.hid (show firstT d n seed R S (k + 1) = (leftF T, R' ++ [rightF T], S' ++ [rootE (d - 1 - i) (rightF T)]) by
        rw [firstT, HFT.out, HIE.out])
      have HLE := Lib.hid (fun w => code_left T HTL.out w)
      have HRI := Lib.hid (fun w => code_right T HTL.out w)
      obtain ⟨e, he⟩ : ∃ e, d - 1 - i = e := ⟨_, rfl⟩
      rw [he] at HNX
      have HPO := Lib.hid (fun w => code_publicOf e (by omega) (rightF T) rfl w)
      obtain ⟨rt, hrt⟩ : ∃ x, rightF T = x := ⟨_, rfl⟩
      have hrtl : rt.length = 32 := by rw [← hrt]; rfl
      obtain ⟨lf, hlf⟩ : ∃ x, leftF T = x := ⟨_, rfl⟩
      have hlfl : lf.length = 32 := by rw [← hlf]; rfl
      rw [hrt, hlf] at HNX
      rw [hrt] at HRI HPO
      rw [hlf] at HLE
      obtain ⟨ro, hro⟩ : ∃ x, rootE e rt = x := ⟨_, rfl⟩
      have hrol : ro.length = 32 := by rw [← hro]; exact rootE_len _ _
      rw [hro] at HNX HPO
      have HRT := Lib.hid (row32 T HTL.out)
      have HRR := Lib.hid (row32 rt hrtl)
      have HRLF := Lib.hid (row32 lf hlfl)
      have HRO32 := Lib.hid (show H32 [ro] from fun y hy => by simp at hy; subst hy; exact hrol)
      have HRTL := Lib.hid hrtl
      obtain ⟨CT, hCT⟩ : ∃ C, (valsB T).toArray = C := ⟨_, rfl⟩
      obtain ⟨CR, hCR⟩ : ∃ C, (valsB rt).toArray = C := ⟨_, rfl⟩
      obtain ⟨CL, hCL⟩ : ∃ C, (valsB lf).toArray = C := ⟨_, rfl⟩
      obtain ⟨CO, hCO⟩ : ∃ C, (valsB ro).toArray = C := ⟨_, rfl⟩
      rw [hCT] at HRT
      rw [hCT, hCR] at HRI
      rw [hCT, hCL] at HLE
      rw [hCR, hCO] at HPO
      rw [hCR] at HRR
      rw [hCL] at HRLF
      have HCT := Lib.hid hCT
      have HCR := Lib.hid (show Value.agg CR = Value.agg (valsB rt).toArray by rw [hCR])
      have HCL := Lib.hid hCL
      have HCO := Lib.hid hCO
      have HZR := Lib.hid (show (List.replicate 32 (Value.int .u8 0)).toArray.size = CR.size by rw [HRR.out.size]; rfl)
      have HTLZ := Lib.hid (show CT.size = CL.size by rw [HRT.out.size, HRLF.out.size])
      obtain ⟨d1, hd1e⟩ : ∃ x, d - 1 = x := ⟨_, rfl⟩
      have hd1 : (d : Int) - 1 = (d1 : Int) := by omega
      have hde : (d1 : Int) - (i : Int) = (e : Int) := by omega
      have hwd1 : IntKind.i64.wrap (d1 : Int) = (d1 : Int) := by unfold IntKind.wrap; simp [IntKind.bits, IntKind.signed]; omega
      have hwe : IntKind.i64.wrap (e : Int) = (e : Int) := by unfold IntKind.wrap; simp [IntKind.bits, IntKind.signed]; omega
      have hii : (i : Int) < (d : Int) := by omega
      have HPB := Lib.hid (show R'.length ≤ 1099511627776 by have := HIE.out; rw [HRL.out, HRL0.out]; omega)
      have HPC := Lib.hid (show S'.length ≤ 1099511627776 by have := HIE.out; rw [HSLN.out, HSL0.out]; omega)
      have H3 := Lib.hid (HCT.out ▸ HK.out.seed)
      clear hCT hCR hCL hCO hd1e he hrt hlf hro hrtl hlfl hrol
      go_wp2_with (refine wpList_load_row rfl 23 (.tmp 3) rfl g3 rfl 23 CT (0, 0) _ H3.out Try.underlying23 rfl HRT.out.info ?_)
      refine (HRI.out _).mono ?_
      rintro e1 w1 ⟨rfl, hb1⟩
      have HK1 := Lib.hid (HK.out.kept hb1)
      clear hb1 cd
      go_upto_region 5 with (refine wpList_store_row rfl 23 (.tmp 6) (.tmp 17) rfl w1.heap.size CR rfl rfl 23 (List.replicate 32 (Value.int .u8 0)).toArray (heap_alloc_new _ _) HRR.out.info HZR.out HRR.out.one ?_; rw [World.setRow_alloc_new])
      have hb2 : Below w1.heap.size w1 (w1.alloc (.cells CR 23)) := (Below.refl _ _).alloc (Nat.le_refl _) _
      have H6 := Lib.hid (heap_alloc_new w1 (.cells CR 23))
      have HK2 := Lib.hid (HK1.out.kept hb2)
      have hs2 : (w1.alloc (.cells CR 23)).heap.size = w1.heap.size + 1 := by simp
      generalize w1.alloc (.cells CR 23) = w2 at H6 HK2 hs2 ⊢
      obtain ⟨g6, hg6⟩ : ∃ x, w1.heap.size = x := ⟨_, rfl⟩
      rw [hg6] at H6 hs2
      rw [hg6]
      have HL6 := Lib.hid (show g4 < g6 ∧ g6 < w2.heap.size by have := HK1.out.size; omega)
      have HRV6 := Lib.hid (show ∀ k, rv'.ownBlock = some k → k ≠ g6 from fun k hk => by have := (own_lt HK1.out.r k hk).2; omega)
      have HSV6 := Lib.hid (show ∀ k, sv'.ownBlock = some k → k ≠ g6 from fun k hk => by have := (own_lt HK1.out.s k hk).2; omega)
      have c34 := HK2.out.ev.c34
      clear hb2 hs2 hg6 HK1
      go_upto_region 6 with (first
        | (refine wpList_load_row rfl 23 (.tmp 6) rfl g6 rfl 23 CR (0, 0) _ H6.out Try.underlying23 rfl HRR.out.info ?_)
        | (refine wpList_build_hash1 rfl (.tmp 20) rfl rt HRTL.out HCR.out ?_; intro w3 hr3 hb3 _ _; have HZ := HK2.out.kept hb3; have h63 := (hb3.block g6 HL6.out.2).trans H6.out; refine wpList_append_one rfl (.tmp 19) (.tmp 21) rfl B rv' R' rfl HZ.r _ 1 rt rfl hr3 HPB.out HZ.base ?_; intro v4 w4 ho4 hg4 hk4; obtain ⟨ga, ca, rfl⟩ := own_formE ho4; have hrow4 := HZ.row_grown HZ.ro hg4; have hc4 : w4.cell? ⟨g2, 34, none⟩ = some rv' := (by rw [Lib.cell_of_heap hrow4]; exact evRow_34 _ _ _ _ _ HLF.out); have hf4 : w4.frozen? ⟨g2, 34, none⟩ = false := Lib.frozen_of_heap hrow4 34))
      rw [setCell_eq_setRow w4 g2 34 _ _ _ _ hrow4, evRow_set34 _ _ _ _ _ _ HLF.out]
      have HK5' := HZ.growR ho4 hg4 hk4
      have h65 : (w4.setRow g2 (evRow d p leaf (.slice ga (R' ++ [rt]).length ca) sv')).heap[g6]? = some (.cells CR 23 (0, 0)) := by
        rw [setRow_other _ _ _ _ (by have := HL6.out; have := HK2.out.lt; omega), hg4.block g6 (Array.getElem?_eq_some_iff.1 h63).1 (fun e => HRV6.out g6 e.symm rfl)]
        exact h63
      simp only [List.length_append, List.length_singleton] at HK5' h65
      have HK5 := Lib.hid HK5'
      have H65 := Lib.hid h65
      clear HK5' h65 HZ h63 ho4 hg4 hk4 hrow4 hc4 hf4 c34
      generalize w4.setRow g2 (evRow d p leaf (.slice ga (R'.length + 1) ca) sv') = w5 at HK5 H65 ⊢
      have H7 := Lib.hid HK5.out.row
      have HL7 := Lib.hid ((Array.getElem?_eq_some_iff.1 H7.out).1)
      have HL65 := Lib.hid ((Array.getElem?_eq_some_iff.1 H65.out).1)
      go_upto_region 6 with (fail)
      refine QT.wp_region_facts_tail 10 (by kernel_rfl) (fun w' => Below w5.heap.size w5 w') (fun n v w' => (([.val (.pointer (some ⟨g2, 35, none⟩)), .val (sv'), .val (.agg CR), .val (.pointer (some ⟨g2, 0, none⟩)), .val (.int .i64 d), .val (.int .i64 d1), .val (.int .i64 i), .val (.int .i64 e), .val (.agg CO), .row1 ro] : List FactE).getD n (.val undef) : FactE).holds v w') (by kernel_rfl) (by kernel_rfl) (Below.refl _ _).drew (fun w1 w2 h1 hb => h1.trans (hb.mono h1.size)) (fun n v w1 w2 h hb => FactE.kept _ v w1 w2 h hb) (fun n o hn ho a wz hI hag hdep => ?_) (fun a wz hI hag hf => ?_)
      · have t2 : a.eval (.tmp 2) = .pointer (some ⟨g2, 0, none⟩) := hag.old 2 _ (by kernel_rfl) rfl
        have t5 : a.eval (.tmp 5) = .int .i64 i := hag.old 5 _ (by kernel_rfl) rfl
        have t6 : a.eval (.tmp 6) = .pointer (some ⟨g6, 0, none⟩) := hag.old 6 _ (by kernel_rfl) rfl
        have hKz := (HK5.out.kept hI).ev
        have c0 := hKz.c0
        have c35 := hKz.c35
        match n, ho with
        | 0, ho =>
          obtain rfl := (Option.some.inj ho).symm
          exact ⟨rfl, QT.wp_value (v := .pointer (some ⟨g2, 35, none⟩)) (by simp [go_sem, QT.nf t2]) ⟨_, rfl, rfl, Below.refl _ _⟩⟩
        | 1, ho =>
          obtain rfl := (Option.some.inj ho).symm
          have d24 : a.eval (.tmp 24) = .pointer (some ⟨g2, 35, none⟩) := hdep _ (Array.mem_of_getElem? (i := 0) rfl) rfl _ _ rfl rfl
          exact ⟨rfl, QT.wp_value (v := sv') (by simp [go_sem, QT.nf d24, c35]) ⟨_, rfl, rfl, Below.refl _ _⟩⟩
        | 2, ho =>
          obtain rfl := (Option.some.inj ho).symm
          exact ⟨rfl, wp_load_row 23 (.tmp 6) rfl g6 t6 23 CR (0, 0) _ ((hI.block g6 HL65.out).trans H65.out) Try.underlying23 rfl HRR.out.info ⟨_, rfl, rfl, Below.refl _ _⟩⟩
        | 3, ho =>
          obtain rfl := (Option.some.inj ho).symm
          exact ⟨rfl, QT.wp_value (v := .pointer (some ⟨g2, 0, none⟩)) (by simp [go_sem, QT.nf t2]) ⟨_, rfl, rfl, Below.refl _ _⟩⟩
        | 4, ho =>
          obtain rfl := (Option.some.inj ho).symm
          have d27 : a.eval (.tmp 27) = .pointer (some ⟨g2, 0, none⟩) := hdep _ (Array.mem_of_getElem? (i := 0) rfl) rfl _ _ rfl rfl
          exact ⟨rfl, QT.wp_value (v := .int .i64 d) (by simp [go_sem, QT.nf d27, c0]) ⟨_, rfl, rfl, Below.refl _ _⟩⟩
        | 5, ho =>
          obtain rfl := (Option.some.inj ho).symm
          have d28 : a.eval (.tmp 28) = .int .i64 d := hdep _ (Array.mem_of_getElem? (i := 0) rfl) rfl _ _ rfl rfl
          exact ⟨rfl, QT.wp_value (v := .int .i64 d1) (by simp [go_sem, QT.nf d28, hd1, hwd1]) ⟨_, rfl, rfl, Below.refl _ _⟩⟩
        | 6, ho =>
          obtain rfl := (Option.some.inj ho).symm
          exact ⟨rfl, QT.wp_value (BigFrame.run_move (.tmp 5) rfl wz) ⟨_, rfl, t5, Below.refl _ _⟩⟩
        | 7, ho =>
          obtain rfl := (Option.some.inj ho).symm
          have d29 : a.eval (.tmp 29) = .int .i64 d1 := hdep _ (Array.mem_of_getElem? (i := 0) rfl) rfl _ _ rfl rfl
          have d30 : a.eval (.tmp 30) = .int .i64 i := hdep _ (Array.mem_of_getElem? (i := 1) rfl) rfl _ _ rfl rfl
          exact ⟨rfl, QT.wp_value (v := .int .i64 e) (by simp [go_sem, QT.nf d29, QT.nf d30, hde, hwe]) ⟨_, rfl, rfl, Below.refl _ _⟩⟩
        | 8, ho =>
          obtain rfl := (Option.some.inj ho).symm
          have d26 : a.eval (.tmp 26) = .agg CR := hdep _ (Array.mem_of_getElem? (i := 0) rfl) rfl _ _ rfl rfl
          have d31 : a.eval (.tmp 31) = .int .i64 e := hdep _ (Array.mem_of_getElem? (i := 1) rfl) rfl _ _ rfl rfl
          exact ⟨rfl, QT.wp_enter (f := 50) (args := #[.agg CR, .int .i64 e]) (by simp [go_sem, QT.nf d26, QT.nf d31]) (HPO.out wz) fun w' hb => ⟨_, rfl, rfl, hb⟩⟩
        | 9, ho =>
          obtain rfl := (Option.some.inj ho).symm
          have d32 : a.eval (.tmp 32) = .agg CO := hdep _ (Array.mem_of_getElem? (i := 0) rfl) rfl _ _ rfl rfl
          exact ⟨rfl, wp_build_k 1 #[(0, .tmp 32)] rfl [ro] HRO32.out rfl (by omega) (by omega) (by simp [d32, HCO.out]) fun w' hr hb => ⟨_, rfl, ⟨_, rfl, hr⟩, hb⟩⟩
        | n + 10, ho => omega
      · have f0 : a.eval (.tmp 24) = .pointer (some ⟨g2, 35, none⟩) := hf 0 _ _ (by omega) rfl rfl
        have f1 : a.eval (.tmp 25) = sv' := hf 1 _ _ (by omega) rfl rfl
        have f2 : a.eval (.tmp 26) = .agg CR := hf 2 _ _ (by omega) rfl rfl
        have f3 : a.eval (.tmp 27) = .pointer (some ⟨g2, 0, none⟩) := hf 3 _ _ (by omega) rfl rfl
        have f4 : a.eval (.tmp 28) = .int .i64 d := hf 4 _ _ (by omega) rfl rfl
        have f5 : a.eval (.tmp 29) = .int .i64 d1 := hf 5 _ _ (by omega) rfl rfl
        have f6 : a.eval (.tmp 30) = .int .i64 i := hf 6 _ _ (by omega) rfl rfl
        have f7 : a.eval (.tmp 31) = .int .i64 e := hf 7 _ _ (by omega) rfl rfl
        have f8 : a.eval (.tmp 32) = .agg CO := hf 8 _ _ (by omega) rfl rfl
        have f9' : ((.row1 ro) : FactE).holds (a.eval (.tmp 33)) wz := hf 9 _ _ (by omega) rfl rfl
        obtain ⟨q9, f9, y9⟩ := f9'
        have ha := hag.puts [(24, .pointer (some ⟨g2, 35, none⟩)), (25, sv'), (26, .agg CR), (27, .pointer (some ⟨g2, 0, none⟩)), (28, .int .i64 d), (29, .int .i64 d1), (30, .int .i64 i), (31, .int .i64 e), (32, .agg CO), (33, .slice (some ⟨q9, 0, none⟩) 1 1)] rfl (by simp) (by simp only [List.forall_mem_cons, List.not_mem_nil, false_implies, implies_true, and_true]; exact ⟨f0, f1, f2, f3, f4, f5, f6, f7, f8, f9⟩)
        subst ha
        clear hag hf f0 f1 f2 f3 f4 f5 f6 f7 f8 f9
        simp only [List.foldl_cons, List.foldl_nil, Act.put, List.drop_succ_cons, List.drop_zero, List.setIfInBounds_toArray, List.set_cons_succ, List.set_cons_zero]
        have HZ := HK5.out.kept hI
        clear hI
        go_upto_region 7 with (refine wpList_append_one rfl (.tmp 25) (.tmp 33) rfl B sv' S' rfl HZ.s q9 1 ro rfl y9 HPC.out HZ.base ?_; intro v6 w6 ho6 hg6 hk6; obtain ⟨gb, cb, rfl⟩ := own_formE ho6; have hrow6 := HZ.row_grown HZ.so hg6; have hc6 : w6.cell? ⟨g2, 35, none⟩ = some sv' := (by rw [Lib.cell_of_heap hrow6]; exact evRow_35 _ _ _ _ _ HLF.out); have hf6 : w6.frozen? ⟨g2, 35, none⟩ = false := Lib.frozen_of_heap hrow6 35)
        rw [setCell_eq_setRow w6 g2 35 _ _ _ _ hrow6, evRow_set35 _ _ _ _ _ _ HLF.out]
        have HK8' := HZ.growS ho6 hg6 hk6
        simp only [List.length_append, List.length_singleton] at HK8'
        have HK8 := Lib.hid HK8'
        clear HK8' HZ ho6 hg6 hk6 hrow6 hc6 hf6 y9
        generalize w6.setRow g2 (evRow d p leaf (.slice ga (R'.length + 1) ca) (.slice gb (S'.length + 1) cb)) = w8 at HK8 ⊢
        have HS9 := Lib.hid (HCT.out ▸ HK8.out.seed)
        go_wp2_with (refine wpList_load_row rfl 23 (.tmp 3) rfl g3 rfl 23 CT (0, 0) _ HS9.out Try.underlying23 rfl HRT.out.info ?_)
        refine (HLE.out _).mono ?_
        rintro e2 w9 ⟨rfl, hb9⟩
        have HK9 := Lib.hid (HK8.out.kept hb9)
        have HS10 := Lib.hid (HCT.out ▸ HK9.out.seed)
        clear hb9
        go_wp2_with (refine wpList_store_row rfl 23 (.tmp 3) (.tmp 37) rfl g3 CL rfl rfl 23 CT HS10.out HRLF.out.info HTLZ.out HRLF.out.one ?_)
        go_roundw
        case rel => exact ⟨k + 1, lf, R' ++ [rt], S' ++ [ro], _, _, by have := HIE.out; omega, by have := HIE.out; go_num, HNX.out, HCL.out ▸ HK9.out.goes lf⟩
        case measure => simp [intOf]; omega
    · have hid : i = d := by omega
      have HKD := Lib.hid (show firstT d n seed R S (d - n) = (T, R', S') by have h := HFT.out; have := HIE.out; rwa [show k = d - n by omega] at h)
      have hci : ¬ (i : Int) < (d : Int) := by omega
      have HRT := Lib.hid (row32 T HTL.out)
      obtain ⟨CT, hCT⟩ : ∃ C, (valsB T).toArray = C := ⟨_, rfl⟩
      rw [hCT] at HRT
      have H3 := Lib.hid (hCT ▸ HK.out.seed)
      obtain ⟨a1, ca1, hrv1, hca1⟩ := own_formC HK.out.r
      obtain ⟨b1, cb1, hsv1, hcb1⟩ := own_formC HK.out.s
      have hRd : R'.length = d := by rw [HRL.out, HRL0.out]; have := HIE.out; omega
      have hSd : S'.length = d := by rw [HSLN.out, HSL0.out]; have := HIE.out; omega
      rw [hRd] at hrv1 hca1
      rw [hSd] at hsv1 hcb1
      subst hrv1 hsv1
      have HTH := Lib.hid (show wr.there g2 2 CT.size from fun j hj => by
        have hs := HRT.out.size
        have hz := evRow_size d p leaf (.slice a1 d ca1) (.slice b1 d cb1) HLF.out
        refine ⟨?_, Lib.frozen_of_heap HK.out.row _⟩
        rw [Lib.cell_of_heap HK.out.row, Array.getElem?_eq_getElem (by omega)]
        rfl)
      have HSC := Lib.hid (show wr.setCells g2 2 CT.toList = wr.setRow g2 (evRow d p T (.slice a1 d ca1) (.slice b1 d cb1)) by
        rw [← hCT]
        exact setCells_row g2 26 (0, 0) (valsB T) (valsB leaf) [.int .i64 d, .int .i64 p] [(.slice a1 d ca1), (.slice b1 d cb1)] wr (by simp [valsB, HTL.out, HLF.out]) HK.out.row)
      go_upto_region 9 with (first
        | (refine wpList_load_row rfl 23 (.tmp 3) rfl g3 rfl 23 CT (0, 0) _ H3.out Try.underlying23 rfl HRT.out.info ?_)
        | (refine wpList_store_mid rfl 23 (.tmp 39) (.tmp 38) rfl g2 2 CT rfl rfl HTH.out HRT.out.info HRT.out.one ?_; rw [HSC.out]))
      have HOR := Lib.hid (own_set_ne HK.out.r (fun k hk => (HK.out.ro k hk).1) (evRow d p T (.slice a1 d ca1) (.slice b1 d cb1)))
      have HOS := Lib.hid (own_set_ne HK.out.s (fun k hk => (HK.out.so k hk).1) (evRow d p T (.slice a1 d ca1) (.slice b1 d cb1)))
      have H2b := Lib.hid (setRow_heap wr g2 _ (evRow d p T (.slice a1 d ca1) (.slice b1 d cb1)) _ _ HK.out.row)
      have H4b := Lib.hid (show (wr.setRow g2 (evRow d p T (.slice a1 d ca1) (.slice b1 d cb1))).heap[g4]? = some (.cells ZE 26 (0, 0)) by
        rw [setRow_other _ _ _ _ (by have := HK.out.lt; omega)]; exact HK.out.res)
      have HBb := Lib.hid (below_setRow HK.out.below HK.out.lt.1 (evRow d p T (.slice a1 d ca1) (.slice b1 d cb1)))
      have HL := Lib.hid (show B ≤ g2 ∧ g2 < g4 ∧ g4 < (wr.setRow g2 (evRow d p T (.slice a1 d ca1) (.slice b1 d cb1))).heap.size by have := HK.out.lt; have := HK.out.size; rw [setRow_size]; omega)
      have HRO := Lib.hid (show ∀ k, (Value.slice a1 d ca1).ownBlock = some k → k ≠ g2 ∧ k ≠ g4 from fun k hk => ⟨(HK.out.ro k hk).1, (HK.out.ro k hk).2.2⟩)
      have HSO := Lib.hid (show ∀ k, (Value.slice b1 d cb1).ownBlock = some k → k ≠ g2 ∧ k ≠ g4 from fun k hk => ⟨(HK.out.so k hk).1, (HK.out.so k hk).2.2⟩)
      clear HTH HSC H3 HK cd
      generalize wr.setRow g2 (evRow d p T (.slice a1 d ca1) (.slice b1 d cb1)) = wb at HOR HOS H2b H4b HBb HL ⊢
      have hda : (d : Int) ≤ (ca1 : Int) := by omega
      have hdb : (d : Int) ≤ (cb1 : Int) := by omega
      have HTL2 := Lib.hid (evRow_size d p T (.slice a1 d d) (.slice b1 d d) HTL.out)
      refine QT.wp_region_facts_late 15 13 15 (by kernel_rfl) (fun w' => Below wb.heap.size wb w') (fun n v w' => (([.val (.pointer (some ⟨g2, 34, none⟩)), .val (.slice a1 d ca1), .val (.pointer (some ⟨g2, 0, none⟩)), .val (.int .i64 d), .val (.pointer (some ⟨g2, 0, none⟩)), .val (.int .i64 d), .val (.slice a1 d d), .val (.pointer (some ⟨g2, 35, none⟩)), .val (.slice b1 d cb1), .val (.pointer (some ⟨g2, 0, none⟩)), .val (.int .i64 d), .val (.pointer (some ⟨g2, 0, none⟩)), .val (.int .i64 d), .val (.slice b1 d d), .val (.pointer (some ⟨g2, 34, none⟩))] : List FactE).getD n (.val undef) : FactE).holds v w') (fun (_ : Act) w' => Below wb.heap.size (wb.setRow g2 (evRow d p T (.slice a1 d d) (.slice b1 d cb1))) w') (by kernel_rfl) (by kernel_rfl) (Below.refl _ _).drew (fun w1 w2 h1 hb => h1.trans (hb.mono h1.size)) (fun n v w1 w2 h hb => FactE.kept _ v w1 w2 h hb) (fun i v w w' hi _ h => (match i, hi, h with | 0, _, h => h | 1, _, h => h | 2, _, h => h | 3, _, h => h | 4, _, h => h | 5, _, h => h | 6, _, h => h | 7, _, h => h | 8, _, h => h | 9, _, h => h | 10, _, h => h | 11, _, h => h | 12, _, h => h | 13, _, h => h | 14, _, h => h | n + 15, hi, _ => by omega)) (fun a w w' d' v _ hj hb' => hj.trans (hb'.mono (by have h9 := hj.size; rw [setRow_size] at h9; exact h9))) (fun n o hn ho a wz hI hag hdep => ?_) (fun o ho a wz hJ hag hdep => ?_) (fun o ho a wz hI hag hf => ?_) (fun a wz hJ hag hf => ?_)
      · have t2 : a.eval (.tmp 2) = .pointer (some ⟨g2, 0, none⟩) := hag.old 2 _ (by kernel_rfl) rfl
        have hEz : EvAt wz g2 d p T (.slice a1 d ca1) (.slice b1 d cb1) := ⟨HTL.out, (hI.block g2 (by have := HL.out; omega)).trans H2b.out⟩
        have c0 := hEz.c0
        have c34 := hEz.c34
        have c35 := hEz.c35
        match n, ho with
        | 0, ho =>
          obtain rfl := (Option.some.inj ho).symm
          exact ⟨rfl, QT.wp_value (v := .pointer (some ⟨g2, 34, none⟩)) (by simp [go_sem, QT.nf t2]) ⟨_, rfl, rfl, Below.refl _ _⟩⟩
        | 1, ho =>
          obtain rfl := (Option.some.inj ho).symm
          have d40 : a.eval (.tmp 40) = .pointer (some ⟨g2, 34, none⟩) := hdep _ (Array.mem_of_getElem? (i := 0) rfl) rfl _ _ rfl rfl
          exact ⟨rfl, QT.wp_value (v := .slice a1 d ca1) (by simp [go_sem, QT.nf d40, c34]) ⟨_, rfl, rfl, Below.refl _ _⟩⟩
        | 2, ho =>
          obtain rfl := (Option.some.inj ho).symm
          exact ⟨rfl, QT.wp_value (v := .pointer (some ⟨g2, 0, none⟩)) (by simp [go_sem, QT.nf t2]) ⟨_, rfl, rfl, Below.refl _ _⟩⟩
        | 3, ho =>
          obtain rfl := (Option.some.inj ho).symm
          have d42 : a.eval (.tmp 42) = .pointer (some ⟨g2, 0, none⟩) := hdep _ (Array.mem_of_getElem? (i := 0) rfl) rfl _ _ rfl rfl
          exact ⟨rfl, QT.wp_value (v := .int .i64 d) (by simp [go_sem, QT.nf d42, c0]) ⟨_, rfl, rfl, Below.refl _ _⟩⟩
        | 4, ho =>
          obtain rfl := (Option.some.inj ho).symm
          exact ⟨rfl, QT.wp_value (v := .pointer (some ⟨g2, 0, none⟩)) (by simp [go_sem, QT.nf t2]) ⟨_, rfl, rfl, Below.refl _ _⟩⟩
        | 5, ho =>
          obtain rfl := (Option.some.inj ho).symm
          have d44 : a.eval (.tmp 44) = .pointer (some ⟨g2, 0, none⟩) := hdep _ (Array.mem_of_getElem? (i := 0) rfl) rfl _ _ rfl rfl
          exact ⟨rfl, QT.wp_value (v := .int .i64 d) (by simp [go_sem, QT.nf d44, c0]) ⟨_, rfl, rfl, Below.refl _ _⟩⟩
        | 6, ho =>
          obtain rfl := (Option.some.inj ho).symm
          have d41 : a.eval (.tmp 41) = .slice a1 d ca1 := hdep _ (Array.mem_of_getElem? (i := 0) rfl) rfl _ _ rfl rfl
          have d43 : a.eval (.tmp 43) = .int .i64 d := hdep _ (Array.mem_of_getElem? (i := 1) rfl) rfl _ _ rfl rfl
          have d45 : a.eval (.tmp 45) = .int .i64 d := hdep _ (Array.mem_of_getElem? (i := 2) rfl) rfl _ _ rfl rfl
          exact ⟨rfl, QT.wp_value (v := .slice a1 d d) (by simp [go_sem, QT.nf d41, QT.nf d43, QT.nf d45, hda]) ⟨_, rfl, rfl, Below.refl _ _⟩⟩
        | 7, ho =>
          obtain rfl := (Option.some.inj ho).symm
          exact ⟨rfl, QT.wp_value (v := .pointer (some ⟨g2, 35, none⟩)) (by simp [go_sem, QT.nf t2]) ⟨_, rfl, rfl, Below.refl _ _⟩⟩
        | 8, ho =>
          obtain rfl := (Option.some.inj ho).symm
          have d47 : a.eval (.tmp 47) = .pointer (some ⟨g2, 35, none⟩) := hdep _ (Array.mem_of_getElem? (i := 0) rfl) rfl _ _ rfl rfl
          exact ⟨rfl, QT.wp_value (v := .slice b1 d cb1) (by simp [go_sem, QT.nf d47, c35]) ⟨_, rfl, rfl, Below.refl _ _⟩⟩
        | 9, ho =>
          obtain rfl := (Option.some.inj ho).symm
          exact ⟨rfl, QT.wp_value (v := .pointer (some ⟨g2, 0, none⟩)) (by simp [go_sem, QT.nf t2]) ⟨_, rfl, rfl, Below.refl _ _⟩⟩
        | 10, ho =>
          obtain rfl := (Option.some.inj ho).symm
          have d49 : a.eval (.tmp 49) = .pointer (some ⟨g2, 0, none⟩) := hdep _ (Array.mem_of_getElem? (i := 0) rfl) rfl _ _ rfl rfl
          exact ⟨rfl, QT.wp_value (v := .int .i64 d) (by simp [go_sem, QT.nf d49, c0]) ⟨_, rfl, rfl, Below.refl _ _⟩⟩
        | 11, ho =>
          obtain rfl := (Option.some.inj ho).symm
          exact ⟨rfl, QT.wp_value (v := .pointer (some ⟨g2, 0, none⟩)) (by simp [go_sem, QT.nf t2]) ⟨_, rfl, rfl, Below.refl _ _⟩⟩
        | 12, ho =>
          obtain rfl := (Option.some.inj ho).symm
          have d51 : a.eval (.tmp 51) = .pointer (some ⟨g2, 0, none⟩) := hdep _ (Array.mem_of_getElem? (i := 0) rfl) rfl _ _ rfl rfl
          exact ⟨rfl, QT.wp_value (v := .int .i64 d) (by simp [go_sem, QT.nf d51, c0]) ⟨_, rfl, rfl, Below.refl _ _⟩⟩
        | 13, ho =>
          obtain rfl := (Option.some.inj ho).symm
          have d48 : a.eval (.tmp 48) = .slice b1 d cb1 := hdep _ (Array.mem_of_getElem? (i := 0) rfl) rfl _ _ rfl rfl
          have d50 : a.eval (.tmp 50) = .int .i64 d := hdep _ (Array.mem_of_getElem? (i := 1) rfl) rfl _ _ rfl rfl
          have d52 : a.eval (.tmp 52) = .int .i64 d := hdep _ (Array.mem_of_getElem? (i := 2) rfl) rfl _ _ rfl rfl
          exact ⟨rfl, QT.wp_value (v := .slice b1 d d) (by simp [go_sem, QT.nf d48, QT.nf d50, QT.nf d52, hdb]) ⟨_, rfl, rfl, Below.refl _ _⟩⟩
        | 14, ho =>
          obtain rfl := (Option.some.inj ho).symm
          exact ⟨rfl, QT.wp_value (v := .pointer (some ⟨g2, 34, none⟩)) (by simp [go_sem, QT.nf t2]) ⟨_, rfl, rfl, Below.refl _ _⟩⟩
        | n + 15, ho => omega
      · obtain rfl := (Option.some.inj ho).symm
        have d48 : a.eval (.tmp 48) = .slice b1 d cb1 := hdep _ (Array.mem_of_getElem? (i := 0) rfl) rfl _ _ rfl rfl (by decide)
        have d50 : a.eval (.tmp 50) = .int .i64 d := hdep _ (Array.mem_of_getElem? (i := 1) rfl) rfl _ _ rfl rfl (by decide)
        have d52 : a.eval (.tmp 52) = .int .i64 d := hdep _ (Array.mem_of_getElem? (i := 2) rfl) rfl _ _ rfl rfl (by decide)
        exact ⟨rfl, QT.wp_value (v := .slice b1 d d) (by simp [go_sem, QT.nf d48, QT.nf d50, QT.nf d52, hdb]) ⟨_, rfl, rfl, Below.refl _ _⟩⟩
      · obtain rfl := (Option.some.inj ho).symm
        have f6 : a.eval (.tmp 46) = .slice a1 d d := hf 6 _ _ (by omega) (by decide) rfl rfl
        have f14 : a.eval (.tmp 54) = .pointer (some ⟨g2, 34, none⟩) := hf 14 _ _ (by omega) (by decide) rfl rfl
        have h2z := (hI.block g2 (by have := HL.out; omega)).trans H2b.out
        have hc : wz.cell? ⟨g2, 34, none⟩ = some (.slice a1 d ca1) := by rw [Lib.cell_of_heap h2z]; exact evRow_34 _ _ _ _ _ HTL.out
        have hfz : wz.frozen? ⟨g2, 34, none⟩ = false := Lib.frozen_of_heap h2z 34
        refine ⟨rfl, wp_skipTo (wz.setCell ⟨g2, 34, none⟩ (.slice a1 d d)) (by simp [go_sem, QT.nf f6, QT.nf f14, hc, hfz]) ⟨rfl, ?_⟩⟩
        rw [setCell_eq_setRow wz g2 34 _ _ _ _ h2z, evRow_set34 _ _ _ _ _ _ HTL.out]
        exact below_setRow2 hI (by have := HL.out; omega) H2b.out
      · have f0 : a.eval (.tmp 40) = .pointer (some ⟨g2, 34, none⟩) := hf 0 _ _ (by omega) (by decide) rfl rfl
        have f1 : a.eval (.tmp 41) = .slice a1 d ca1 := hf 1 _ _ (by omega) (by decide) rfl rfl
        have f2 : a.eval (.tmp 42) = .pointer (some ⟨g2, 0, none⟩) := hf 2 _ _ (by omega) (by decide) rfl rfl
        have f3 : a.eval (.tmp 43) = .int .i64 d := hf 3 _ _ (by omega) (by decide) rfl rfl
        have f4 : a.eval (.tmp 44) = .pointer (some ⟨g2, 0, none⟩) := hf 4 _ _ (by omega) (by decide) rfl rfl
        have f5 : a.eval (.tmp 45) = .int .i64 d := hf 5 _ _ (by omega) (by decide) rfl rfl
        have f6 : a.eval (.tmp 46) = .slice a1 d d := hf 6 _ _ (by omega) (by decide) rfl rfl
        have f7 : a.eval (.tmp 47) = .pointer (some ⟨g2, 35, none⟩) := hf 7 _ _ (by omega) (by decide) rfl rfl
        have f8 : a.eval (.tmp 48) = .slice b1 d cb1 := hf 8 _ _ (by omega) (by decide) rfl rfl
        have f9 : a.eval (.tmp 49) = .pointer (some ⟨g2, 0, none⟩) := hf 9 _ _ (by omega) (by decide) rfl rfl
        have f10 : a.eval (.tmp 50) = .int .i64 d := hf 10 _ _ (by omega) (by decide) rfl rfl
        have f11 : a.eval (.tmp 51) = .pointer (some ⟨g2, 0, none⟩) := hf 11 _ _ (by omega) (by decide) rfl rfl
        have f12 : a.eval (.tmp 52) = .int .i64 d := hf 12 _ _ (by omega) (by decide) rfl rfl
        have f13 : a.eval (.tmp 53) = .slice b1 d d := hf 13 _ _ (by omega) (by decide) rfl rfl
        have f14 : a.eval (.tmp 54) = .pointer (some ⟨g2, 34, none⟩) := hf 14 _ _ (by omega) (by decide) rfl rfl
        have ha := hag.puts [(40, .pointer (some ⟨g2, 34, none⟩)), (41, .slice a1 d ca1), (42, .pointer (some ⟨g2, 0, none⟩)), (43, .int .i64 d), (44, .pointer (some ⟨g2, 0, none⟩)), (45, .int .i64 d), (46, .slice a1 d d), (47, .pointer (some ⟨g2, 35, none⟩)), (48, .slice b1 d cb1), (49, .pointer (some ⟨g2, 0, none⟩)), (50, .int .i64 d), (51, .pointer (some ⟨g2, 0, none⟩)), (52, .int .i64 d), (53, .slice b1 d d), (54, .pointer (some ⟨g2, 34, none⟩))] rfl (by simp [Act.put]) (by simp only [List.forall_mem_cons, List.not_mem_nil, false_implies, implies_true, and_true]; exact ⟨f0, f1, f2, f3, f4, f5, f6, f7, f8, f9, f10, f11, f12, f13, f14⟩)
        subst ha
        clear hag hf f0 f1 f2 f3 f4 f5 f6 f7 f8 f9 f10 f11 f12 f13 f14
        simp only [List.foldl_cons, List.foldl_nil, Act.put, List.drop_succ_cons, List.drop_zero, List.setIfInBounds_toArray, List.set_cons_succ, List.set_cons_zero]
        obtain ⟨E2, hE2⟩ : ∃ E, evRow d p T (.slice a1 d d) (.slice b1 d d) = E := ⟨_, rfl⟩
        have H21 := Lib.hid ((hJ.block g2 (by have := HL.out; omega)).trans (setRow_heap wb g2 _ (evRow d p T (.slice a1 d d) (.slice b1 d cb1)) _ _ H2b.out))
        have hc17 : wz.cell? ⟨g2, 35, none⟩ = some (.slice b1 d cb1) := by rw [Lib.cell_of_heap H21.out]; exact evRow_35 _ _ _ _ _ HTL.out
        have hf17 : wz.frozen? ⟨g2, 35, none⟩ = false := Lib.frozen_of_heap H21.out 35
        have hbz : Below B w wz := (below_setRow HBb.out HL.out.1 (evRow d p T (.slice a1 d d) (.slice b1 d cb1))).trans (hJ.mono (by have := HL.out; omega))
        have hszz : wb.heap.size ≤ wz.heap.size := by have := hJ.size; rw [setRow_size] at this; exact this
        have hkz : Below (wb.setRow g2 (evRow d p T (.slice a1 d d) (.slice b1 d cb1))).heap.size (wb.setRow g2 (evRow d p T (.slice a1 d d) (.slice b1 d cb1))) wz := by rw [setRow_size]; exact hJ
        have HORz := Lib.hid ((own_set_ne HOR.out (fun k hk => (HRO.out k hk).1) (evRow d p T (.slice a1 d d) (.slice b1 d cb1))).kept hkz)
        have HOSz := Lib.hid ((own_set_ne HOS.out (fun k hk => (HSO.out k hk).1) (evRow d p T (.slice a1 d d) (.slice b1 d cb1))).kept hkz)
        have H4z := Lib.hid ((hJ.block g4 HL.out.2.2).trans (show (wb.setRow g2 (evRow d p T (.slice a1 d d) (.slice b1 d cb1))).heap[g4]? = some (.cells ZE 26 (0, 0)) by rw [setRow_other _ _ _ _ (by have := HL.out; omega)]; exact H4b.out))
        have HBZ := Lib.hid hbz
        clear hJ hkz hbz
        go_upto_region 10 with (fail)
        rw [setCell_eq_setRow wz g2 35 _ _ _ _ H21.out, evRow_set35 _ _ _ _ _ _ HTL.out, hE2]
        have H22 := Lib.hid (setRow_heap wz g2 _ E2 _ _ H21.out)
        have H42 := Lib.hid (show (wz.setRow g2 E2).heap[g4]? = some (.cells ZE 26 (0, 0)) by rw [setRow_other _ _ _ _ (by have := HL.out; omega)]; exact H4z.out)
        have HOR2 := Lib.hid (own_set_ne (own_set_ne HORz.out (fun k hk => (HRO.out k hk).1) E2) (fun k hk => (HRO.out k hk).2) E2)
        have HOS2 := Lib.hid (own_set_ne (own_set_ne HOSz.out (fun k hk => (HSO.out k hk).1) E2) (fun k hk => (HSO.out k hk).2) E2)
        have HB2 := Lib.hid (below_setRow (below_setRow HBZ.out HL.out.1 E2) (Nat.le_trans HL.out.1 (Nat.le_of_lt HL.out.2.1)) E2)
        have HEI2 := Lib.hid (show (Try.prog.info? 26).map (·.size) = some E2.size by rw [← hE2]; exact ev_info _ _ _ _ _ HTL.out)
        have HE1C := Lib.hid (show E2.all (·.oneCell') = true by rw [← hE2]; exact ev_one _ _ _ _ _ _ _ _ _)
        have HZEV := Lib.hid (show ZE.size = E2.size by rw [HE0.out, ← hE2, HTL2.out])
        have HE2 := Lib.hid hE2
        clear hE2 hc17 hf17
        go_wp2_with (first
          | (refine wpList_load_row rfl 26 (.tmp 2) rfl g2 rfl 26 E2 (0, 0) _ H22.out Try.underlying26 rfl HEI2.out ?_)
          | (refine wpList_store_row rfl 26 (.tmp 4) (.tmp 56) rfl g4 E2 rfl rfl 26 ZE H42.out HEI2.out HZEV.out HE1C.out ?_))
        refine bodyPost_ret (results_cell_row (p := 4) (ty := 26) Try.results28 _ _ g4 26 E2 (0, 0) _ rfl (setRow_heap _ _ _ _ _ _ H42.out) Try.underlying26 rfl HEI2.out) rfl ?_
        rw [HKD.out]
        exact ⟨a1, b1, by rw [HE2.out], hashes_cap HOR2.out.hashes d, hashes_cap HOS2.out.hashes d, HB2.out, fun k hk => (own_lt HOR2.out k (by cases a1 <;> exact hk)).1, fun k hk => (own_lt HOS2.out k (by cases b1 <;> exact hk)).1⟩

end Go.Proofs.Ytpifjeghoapjbaa.Evolve
