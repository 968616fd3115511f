/- evolve: the code's Next. -/
import Derived.ArgAppend
import Derived.Test.YtpifjeghoapjbaaM7
namespace Go.Proofs.Ytpifjeghoapjbaa.Evolve
open Go.RowKit Go.Proofs.Ytpifjeghoapjbaa.Sha Go.Proofs.Ytpifjeghoapjbaa.Tree Go.Proofs.Ytpifjeghoapjbaa.Once

/-- A hash appended onto a slice without room: a row of one's own. -/
theorem wpList_append_fresh {ops : Array Oper} {rest : List Oper} {o : Oper} {a : Act} {w : World} {Q : Exit → Act → World → Prop} (hgd : o.guard = none) (s x : Operand)
    (ho : o.op = .call { callee := .builtin .append, args := #[s, x], argTypes := #[24, 24] })
    (ar : Option Addr) (j : Nat) (P : List (List UInt8)) (hs : a.eval s = .slice ar j j) (hrow : Hashes w (.slice ar j j) P) (h32 : H32 P) (g1 cap1 : Nat) (y : List UInt8) (hx : a.eval x = .slice (some ⟨g1, 0, none⟩) 1 cap1) (hy : RowOf w g1 1 [y])
    (hn : j ≤ 1099511627776)
    (h : ∀ v' w', OwnH w.heap.size v' (P ++ [y]) w' → Below w.heap.size w w' → wpList Try.prog ops Q rest (a.put o.dst v') w') : wpList Try.prog ops Q (o :: rest) a w := by
  have hP := hashes_form hrow
  obtain ⟨ie, hie, hz, hsz, hby⟩ := info_row
  have hyl := hy.len y (by simp)
  refine wpList_append_grows w hgd s x 24 ho 23 ie _ 32 32 Try.underlying24 hie hz hsz hby rfl (by omega) ar j j (valsH P) hs (fun e => ?_) (by rw [valsH_len P h32, hP]) (fun b hb k u hu => ?_) ⟨g1, 0, none⟩ 1 cap1 (valsH [y]) hx (by rw [valsH_len [y] hy.len]; rfl) (fun k u hk => ?_) (valsH_oneCell [y]) (by omega) (by unfold maxLen; omega) (by omega) (fun v' w' hown hg => ?_)
  · rcases hrow with ⟨a', cap, hv, h0⟩ | ⟨g, o, cap, hv, _, _⟩
    · rw [h0] at hP; simp at hP; omega
    · cases hv; cases e
  · have hk := (List.getElem?_eq_some_iff.1 hu).1
    rw [valsH_len P h32] at hk
    have hd : k / 32 < P.length := by omega
    have hh := h32 _ (List.getElem_mem hd)
    obtain ⟨g, o, he, hat⟩ := hashes_cellE hrow (k / 32) P[k / 32] (List.getElem?_eq_getElem hd)
    have hjm : k % 32 < (valsB P[k / 32]).length := by rw [valsB_len, hh]; omega
    have h1 := hat (k % 32) _ (List.getElem?_eq_getElem hjm)
    have h2 := valsH_at P h32 (k / 32) P[k / 32] (List.getElem?_eq_getElem hd) (k % 32) _ (List.getElem?_eq_getElem hjm)
    rw [show o + k / 32 * 32 + k % 32 = o + k by omega] at h1
    rw [show k / 32 * 32 + k % 32 = k by omega, hu] at h2
    rw [hb] at he
    cases he
    rw [Addr.add_mid, h1, h2]
  · have hj' := (List.getElem?_eq_some_iff.1 hk).1
    rw [valsH_len [y] hy.len] at hj'
    simp only [List.length_cons, List.length_nil] at hj'
    have hjm : k < (valsB y).length := by rw [valsB_len, hyl]; omega
    have h1 := hy.at_ 0 y rfl k _ (List.getElem?_eq_getElem hjm)
    have h2 := valsH_at [y] hy.len 0 y rfl k _ (List.getElem?_eq_getElem hjm)
    rw [Nat.zero_mul, Nat.zero_add] at h1 h2
    rw [hk] at h2
    rw [Addr.add_mid, Nat.zero_add, h1, h2]
  · have hl : (P ++ [y]).length = j + 1 := by rw [List.length_append, hP]; rfl
    exact h v' w' ⟨by rw [hl, show valsH (P ++ [y]) = valsH P ++ valsH [y] by simp [valsH]]; exact hown, fun z hz => (List.mem_append.1 hz).elim (h32 z) (hy.len z)⟩ ((Below.refl _ _).grown hg (Nat.le_refl _) (fun k hk => by cases hk))

theorem hashes_take {w : World} {a : Option Addr} {n c : Nat} {L : List (List UInt8)} (h : Hashes w (.slice a n c) L) (j c' : Nat) (hj : j ≤ n) : Hashes w (.slice a j c') (L.take j) := by
  have hl := hashes_form h
  by_cases h0 : j = 0
  · subst h0; exact Or.inl ⟨_, _, rfl, by simp⟩
  · rcases h with ⟨a', cap, hv, h1⟩ | ⟨g, o, cap, hv, h1, hc⟩
    · rw [h1] at hl; simp at hl; omega
    · cases hv
      refine Or.inr ⟨g, o, c', by rw [List.length_take, Nat.min_eq_left (by omega)], by rw [List.length_take]; omega, fun i x hx => ?_⟩
      have hi : i < j := by have := (List.getElem?_eq_some_iff.1 hx).1; rw [List.length_take] at this; omega
      rw [List.getElem?_take_of_lt hi] at hx
      exact hc i x hx
theorem h32_take {L : List (List UInt8)} (h : H32 L) (j : Nat) : H32 (L.take j) := fun x hx => h x (List.mem_of_mem_take hx)

/-- What the next key has: its leaf, Right, Side. -/
def nextT (d p j : Nat) (leaf : List UInt8) (R S : List (List UInt8)) : List UInt8 × List (List UInt8) × List (List UInt8) :=
  firstT d (j + 1) (R.getD j []) (R.take j ++ [zeroL]) (S.take j ++ [overE (digitsE d p) S (j + 1) d (pubK leaf)]) (d - (j + 1))

set_option maxRecDepth 100000 in
set_option maxHeartbeats 3200000 in
theorem code_NextE_no (d p : Int) (leaf : List UInt8) (hl : leaf.length = 32) (ar as_ : Option Addr) (nr cr ns cs : Nat) (R : List (List UInt8)) (w : World) (hR : Hashes w (.slice ar nr cr) R) (h32 : H32 R) (hno : ¬ mayP d p R ns) :
    Calls Try.prog 11 #[.agg (evRow d p leaf (.slice ar nr cr) (.slice as_ ns cs))] w fun e w' => e = .returned (.tuple #[.agg (evRow 0 0 zeroL (.slice none 0 0) (.slice none 0 0)), .int .i64 2]) ∧ Below w.heap.size w w' := by
  have HM := Lib.hid (fun w' (h : Below w.heap.size w w') => code_May d p leaf hl ar as_ nr cr ns cs R w' (hR.kept h) h32 false (by simp [hno]))
  have HEI := Lib.hid (ev_info d p leaf (.slice ar nr cr) (.slice as_ ns cs) hl)
  obtain ⟨E, hE⟩ : ∃ E, evRow d p leaf (.slice ar nr cr) (.slice as_ ns cs) = E := ⟨_, rfl⟩
  rw [hE] at HM HEI
  rw [hE]
  clear hE hR h32 hno
  go_enter Try.func11, Try.ntmps11
  go_upto_region 1 with (fail)
  rw [show #[Value.int .i64 0, Value.int .i64 0, Value.int .u8 0, Value.int .u8 0, Value.int .u8 0, Value.int .u8 0, Value.int .u8 0, Value.int .u8 0, Value.int .u8 0, Value.int .u8 0, Value.int .u8 0, Value.int .u8 0, Value.int .u8 0, Value.int .u8 0, Value.int .u8 0, Value.int .u8 0, Value.int .u8 0, Value.int .u8 0, Value.int .u8 0, Value.int .u8 0, Value.int .u8 0, Value.int .u8 0, Value.int .u8 0, Value.int .u8 0, Value.int .u8 0, Value.int .u8 0, Value.int .u8 0, Value.int .u8 0, Value.int .u8 0, Value.int .u8 0, Value.int .u8 0, Value.int .u8 0, Value.int .u8 0, Value.int .u8 0, Value.slice none 0 0, Value.slice none 0 0] = evRow 0 0 zeroL (.slice none 0 0) (.slice none 0 0) from rfl]
  have HE0 := Lib.hid (evRow_size 0 0 zeroL (.slice none 0 0) (.slice none 0 0) rfl)
  obtain ⟨ZE, hZE⟩ : ∃ Z, evRow 0 0 zeroL (.slice none 0 0) (.slice none 0 0) = Z := ⟨_, rfl⟩
  rw [hZE] at HE0
  rw [hZE]
  have HZE := Lib.hid hZE
  clear hZE
  have HA0 := Lib.hid (heap_alloc2_old w (.cells E 26) (.cells ZE 26))
  have HA1 := Lib.hid (heap_alloc2_new w (.cells E 26) (.cells ZE 26))
  have HBW := Lib.hid (show Below w.heap.size w ((w.alloc (.cells E 26)).alloc (.cells ZE 26)) from ((Below.refl _ _).alloc (Nat.le_refl _) _).alloc (by simp) _)
  have hs0 : ((w.alloc (.cells E 26)).alloc (.cells ZE 26)).heap.size = w.heap.size + 2 := by simp
  generalize ((w.alloc (.cells E 26)).alloc (.cells ZE 26)) = W at HA0 HA1 HBW hs0 ⊢
  obtain ⟨g1, hg1⟩ : ∃ x, w.heap.size = x := ⟨_, rfl⟩
  obtain ⟨g2, hg2⟩ : ∃ x, g1 + 1 = x := ⟨_, rfl⟩
  rw [hg1] at HA0 HA1 HBW hs0
  rw [hg2] at HA1
  rw [hg1, hg2]
  have HGE := Lib.hid hg1
  have HLT := Lib.hid (show g1 < g2 ∧ g2 < W.heap.size by omega)
  clear hg1 hg2 hs0
  have HBE := Lib.hid (fun a : Act => (show Try.prog.built 26 ((#[] : Array (Nat × Operand)).map fun (i, x) => (i, a.eval x)).toList = some ZE by rw [← HZE.out]; kernel_rfl))
  have HZI := Lib.hid (show (Try.prog.info? 26).map (·.size) = some ZE.size by rw [HE0.out]; exact info_ev)
  have HZA := Lib.hid (show ZE.all (·.oneCell') = true by rw [← HZE.out]; exact ev_one _ _ _ _ _ _ _ _ _)
  go_wp2_with (refine wpList_load_row rfl 26 (.tmp 1) rfl g1 rfl 26 E (0, 0) _ HA0.out Try.underlying26 rfl HEI.out ?_)
  refine (HM.out _ (HGE.out ▸ HBW.out)).mono ?_
  rintro e w3 ⟨rfl, hb3⟩
  have H2 := Lib.hid ((hb3.block _ HLT.out.2).trans HA1.out)
  have HB := Lib.hid (HBW.out.trans (hb3.mono (by have := HLT.out; omega)))
  clear hb3
  go_wp2_with (first
    | (refine wpList_build_as rfl 26 #[] rfl ZE (HBE.out _) ?_)
    | (refine wpList_store_row rfl 26 (.tmp 2) (.tmp 11) rfl g2 ZE rfl rfl 26 ZE H2.out HZI.out rfl HZA.out ?_))
  refine bodyPost_ret (Sha.results_cell_tmp (p := 2) (t := 3) (ty := 26) Try.results11 _ _ g2 26 ZE (0, 0) _ _ rfl rfl (setRow_heap _ _ _ _ _ _ H2.out) Try.underlying26 rfl HZI.out) rfl ⟨by rw [HZE.out]; rfl, HGE.out ▸ below_setRow HB.out (by have := HLT.out; omega) _⟩

set_option maxRecDepth 100000 in
set_option maxHeartbeats 6400000 in
theorem code_NextE_last (d p : Nat) (hd : d ≤ 4) (hp : p < 2 ^ d) (leaf : List UInt8) (hl : leaf.length = 32) (ar as_ : Option Addr) (cr cs : Nat) (R S : List (List UInt8)) (w : World) (hR : Hashes w (.slice ar d cr) R) (h32 : H32 R) (hS : Hashes w (.slice as_ d cs) S) (h32S : H32 S) (hm : ∀ i, i < d → rightAt d p i = true → R.getD i [] = zeroL) (hj : lastG d p d = -1) :
    Calls Try.prog 11 #[.agg (evRow d p leaf (.slice ar d cr) (.slice as_ d cs))] w fun e w' => e = .returned (.tuple #[.agg (evRow 0 0 zeroL (.slice none 0 0) (.slice none 0 0)), .int .i64 4]) ∧ Below w.heap.size w w' := by
  have HM := Lib.hid (fun w' (h : Below w.heap.size w w') => code_May_in d p hd hp leaf hl ar as_ cr cs R w' (hR.kept h) h32 true (by simpa using hm))
  have HEI := Lib.hid (ev_info d p leaf (.slice ar d cr) (.slice as_ d cs) hl)
  have HEV := Lib.hid (fun w g h => (⟨hl, h⟩ : EvAt w g d p leaf (.slice ar d cr) (.slice as_ d cs)))
  have hp16 : p < 16 := Nat.lt_of_lt_of_le hp (Nat.le_trans (Nat.pow_le_pow_right (by omega) hd) (by decide))
  have hSL := hashes_form hS
  have HS := Lib.hid hS
  have HH32 := Lib.hid h32S
  have HSL := Lib.hid hSL
  have HIL := Lib.hid (info_len leaf hl)
  have HWO := Lib.hid (fun w => code_wayOf d p leaf hl (.slice ar d cr) (.slice as_ d cs) w)
  have HLL := Lib.hid (fun w => code_lastLeft d p hd hp16 w)
  rw [hj] at HLL
  obtain ⟨E, hE⟩ : ∃ E, evRow d p leaf (.slice ar d cr) (.slice as_ d cs) = E := ⟨_, rfl⟩
  rw [hE] at HM HEI HEV HWO
  rw [hE]
  clear hE hR h32 hS h32S hm hSL
  go_enter Try.func11, Try.ntmps11
  go_upto_region 1 with (fail)
  rw [show #[Value.int .i64 0, Value.int .i64 0, Value.int .u8 0, Value.int .u8 0, Value.int .u8 0, Value.int .u8 0, Value.int .u8 0, Value.int .u8 0, Value.int .u8 0, Value.int .u8 0, Value.int .u8 0, Value.int .u8 0, Value.int .u8 0, Value.int .u8 0, Value.int .u8 0, Value.int .u8 0, Value.int .u8 0, Value.int .u8 0, Value.int .u8 0, Value.int .u8 0, Value.int .u8 0, Value.int .u8 0, Value.int .u8 0, Value.int .u8 0, Value.int .u8 0, Value.int .u8 0, Value.int .u8 0, Value.int .u8 0, Value.int .u8 0, Value.int .u8 0, Value.int .u8 0, Value.int .u8 0, Value.int .u8 0, Value.int .u8 0, Value.slice none 0 0, Value.slice none 0 0] = evRow 0 0 zeroL (.slice none 0 0) (.slice none 0 0) from rfl]
  have HE0 := Lib.hid (evRow_size 0 0 zeroL (.slice none 0 0) (.slice none 0 0) rfl)
  obtain ⟨ZE, hZE⟩ : ∃ Z, evRow 0 0 zeroL (.slice none 0 0) (.slice none 0 0) = Z := ⟨_, rfl⟩
  rw [hZE] at HE0
  rw [hZE]
  have HZE := Lib.hid hZE
  clear hZE
  have HA0 := Lib.hid (heap_alloc2_old w (.cells E 26) (.cells ZE 26))
  have HA1 := Lib.hid (heap_alloc2_new w (.cells E 26) (.cells ZE 26))
  have HBW := Lib.hid (show Below w.heap.size w ((w.alloc (.cells E 26)).alloc (.cells ZE 26)) from ((Below.refl _ _).alloc (Nat.le_refl _) _).alloc (by simp) _)
  have hs0 : ((w.alloc (.cells E 26)).alloc (.cells ZE 26)).heap.size = w.heap.size + 2 := by simp
  generalize ((w.alloc (.cells E 26)).alloc (.cells ZE 26)) = W at HA0 HA1 HBW hs0 ⊢
  obtain ⟨g1, hg1⟩ : ∃ x, w.heap.size = x := ⟨_, rfl⟩
  obtain ⟨g2, hg2⟩ : ∃ x, g1 + 1 = x := ⟨_, rfl⟩
  rw [hg1] at HA0 HA1 HBW hs0
  rw [hg2] at HA1
  rw [hg1, hg2]
  have HGE := Lib.hid hg1
  have HLT := Lib.hid (show g1 < g2 ∧ g2 < W.heap.size by omega)
  clear hg1 hg2 hs0
  have HBE := Lib.hid (fun a : Act => (show Try.prog.built 26 ((#[] : Array (Nat × Operand)).map fun (i, x) => (i, a.eval x)).toList = some ZE by rw [← HZE.out]; kernel_rfl))
  have HZI := Lib.hid (show (Try.prog.info? 26).map (·.size) = some ZE.size by rw [HE0.out]; exact info_ev)
  have HZA := Lib.hid (show ZE.all (·.oneCell') = true by rw [← HZE.out]; exact ev_one _ _ _ _ _ _ _ _ _)
  go_wp2_with (refine wpList_load_row rfl 26 (.tmp 1) rfl g1 rfl 26 E (0, 0) _ HA0.out Try.underlying26 rfl HEI.out ?_)
  refine (HM.out _ (HGE.out ▸ HBW.out)).mono ?_
  rintro e w3 ⟨rfl, hb3⟩
  have H20 := Lib.hid ((hb3.block _ HLT.out.2).trans HA1.out)
  have HB0 := Lib.hid (HBW.out.trans (hb3.mono (by have := HLT.out; omega)))
  have HL3 := Lib.hid (show g1 < g2 ∧ g2 < w3.heap.size by have := HLT.out; have := hb3.size; omega)
  have H1 := Lib.hid ((hb3.block _ (by have := HLT.out; omega)).trans HA0.out)
  clear hb3
  go_wp2_with (refine wpList_load_row rfl 26 (.tmp 1) rfl g1 rfl 26 E (0, 0) _ H1.out Try.underlying26 rfl HEI.out ?_)
  refine (HWO.out _).mono ?_
  rintro e w4 ⟨rfl, hb4⟩
  go_wp2_with fail
  refine (HLL.out _).mono ?_
  rintro e w5 ⟨rfl, hb5⟩
  have hb45 := hb4.trans (hb5.mono hb4.size)
  have H2 := Lib.hid ((hb45.block _ HL3.out.2).trans H20.out)
  have HB := Lib.hid (HB0.out.trans (hb45.mono (by have := HL3.out; omega)))
  clear hb4 hb5 hb45
  go_wp2_with (first
    | (refine wpList_build_as rfl 26 #[] rfl ZE (HBE.out _) ?_)
    | (refine wpList_store_row rfl 26 (.tmp 2) (.tmp 18) rfl g2 ZE rfl rfl 26 ZE H2.out HZI.out rfl HZA.out ?_))
  refine bodyPost_ret (Sha.results_cell_tmp (p := 2) (t := 3) (ty := 26) Try.results11 _ _ g2 26 ZE (0, 0) _ _ rfl rfl (setRow_heap _ _ _ _ _ _ H2.out) Try.underlying26 rfl HZI.out) rfl ⟨by rw [HZE.out]; rfl, HGE.out ▸ below_setRow HB.out (by have := HLT.out; omega) _⟩

set_option maxRecDepth 100000 in
set_option maxHeartbeats 6400000 in
theorem code_NextF (d p : Nat) (hd : d ≤ 4) (hp : p < 2 ^ d) (leaf : List UInt8) (hl : leaf.length = 32) (ar as_ : Option Addr) (cr cs : Nat) (R S : List (List UInt8)) (w : World) (hR : Hashes w (.slice ar d cr) R) (h32 : H32 R) (hS : Hashes w (.slice as_ d cs) S) (h32S : H32 S) (hm : ∀ i, i < d → rightAt d p i = true → R.getD i [] = zeroL) (hcr : d ≤ cr) (hcs : d ≤ cs) (j : Nat) (hj : lastG d p d = (j : Int)) (hjd : j < d) :
    Calls Try.prog 11 #[.agg (evRow d p leaf (.slice ar d cr) (.slice as_ d cs))] w fun e w' => ∃ a' b', e = .returned (.tuple #[.agg (evRow d ((p + 1 : Nat) : Int) (nextT d p j leaf R S).1 (.slice a' d d) (.slice b' d d)), .int .i64 0]) ∧ Hashes w' (.slice a' d d) (nextT d p j leaf R S).2.1 ∧ Hashes w' (.slice b' d d) (nextT d p j leaf R S).2.2 ∧ Below w.heap.size w w' ∧ (∀ k, (Value.slice a' d d).ownBlock = some k → w.heap.size ≤ k) ∧ (∀ k, (Value.slice b' d d).ownBlock = some k → w.heap.size ≤ k) := by
  have HM := Lib.hid (fun w' (h : Below w.heap.size w w') => code_May_in d p hd hp leaf hl ar as_ cr cs R w' (hR.kept h) h32 true (by simpa using hm))
  have HEI := Lib.hid (ev_info d p leaf (.slice ar d cr) (.slice as_ d cs) hl)
  have HEV := Lib.hid (fun w g h => (⟨hl, h⟩ : EvAt w g d p leaf (.slice ar d cr) (.slice as_ d cs)))
  have hp16 : p < 16 := Nat.lt_of_lt_of_le hp (Nat.le_trans (Nat.pow_le_pow_right (by omega) hd) (by decide))
  have hSL := hashes_form hS
  have HS := Lib.hid hS
  have HH32 := Lib.hid h32S
  have HSL := Lib.hid hSL
  have HIL := Lib.hid (info_len leaf hl)
  have HWO := Lib.hid (fun w => code_wayOf d p leaf hl (.slice ar d cr) (.slice as_ d cs) w)
  have HLL := Lib.hid (fun w => code_lastLeft d p hd hp16 w)
  rw [hj] at HLL
  have HBH := Lib.hid (fun w h => code_behind d p hd hp16 leaf hl (.slice ar d cr) as_ cs S (j + 1) (by omega) w h h32S)
  have hRL := hashes_form hR
  obtain ⟨sj, hsj⟩ : ∃ s, R[j]? = some s := ⟨R[j]'(by omega), List.getElem?_eq_getElem _⟩
  have hsjl := h32 sj (List.mem_of_getElem? hsj)
  obtain ⟨bh, hbh⟩ : ∃ x, overE (digitsE d p) S (j + 1) d (pubK leaf) = x := ⟨_, rfl⟩
  have hbhl : bh.length = 32 := by rw [← hbh]; exact overE_len _ _ _ _ _ (pubK_len leaf)
  have HNT := Lib.hid (show nextT d p j leaf R S = firstT d (j + 1) sj (R.take j ++ [zeroL]) (S.take j ++ [bh]) (d - (j + 1)) by
    unfold nextT
    rw [hbh, List.getD_eq_getElem?_getD, hsj]
    rfl)
  rw [hbh] at HBH
  have HFI := Lib.hid (fun B rv sv w h1 h2 h3 h4 => code_toFirst d (j + 1) ((p + 1 : Nat) : Int) hd (by omega) zeroL rfl sj hsjl B rv sv (R.take j ++ [zeroL]) (S.take j ++ [bh]) (by rw [List.length_append, List.length_take, hRL, Nat.min_eq_left (by omega)]; rfl) (by rw [List.length_append, List.length_take, hSL, Nat.min_eq_left (by omega)]; rfl) w h1 h2 h3 h4)
  rw [← HNT.out] at HFI
  have HFL := Lib.hid (show (nextT d p j leaf R S).1.length = 32 by rw [HNT.out]; exact (firstT_len _ _ _ _ _ hsjl _).1)
  have HRBH := Lib.hid (row32 bh hbhl)
  have HBHL := Lib.hid hbhl
  have HISJ := Lib.hid (info_len sj hsjl)
  have HBH32 := Lib.hid (show H32 [bh] from fun y hy => by simp at hy; subst hy; exact hbhl)
  have HRT32 := Lib.hid (h32_take h32 j)
  have HST32 := Lib.hid (h32_take h32S j)
  have HRR := Lib.hid hR
  have HSJ := Lib.hid hsj
  obtain ⟨CB, hCB⟩ : ∃ C, (valsB bh).toArray = C := ⟨_, rfl⟩
  obtain ⟨CJ, hCJ⟩ : ∃ C, (valsB sj).toArray = C := ⟨_, rfl⟩
  rw [hCB] at HBH HRBH
  rw [hCJ] at HFI
  have HCB := Lib.hid hCB
  have HCJ := Lib.hid hCJ
  obtain ⟨⟨T, R', S'⟩, hT⟩ : ∃ t, nextT d p j leaf R S = t := ⟨_, rfl⟩
  rw [hT] at HFI HFL
  rw [hT]
  obtain ⟨p1, hp1⟩ : ∃ x, p + 1 = x := ⟨_, rfl⟩
  rw [hp1] at HFI
  rw [hp1]
  obtain ⟨j1, hj1e⟩ : ∃ x, j + 1 = x := ⟨_, rfl⟩
  rw [hj1e] at HBH
  have hpi : (p : Int) + 1 = (p1 : Int) := by omega
  have hj1 : (j : Int) + 1 = (j1 : Int) := by omega
  have HP1 := Lib.hid hp1
  have HJ1 := Lib.hid hj1e
  clear hp1 hj1e
  clear hCB hCJ hsjl hbhl hbh hRL hsj hT
  have hj0 : (0 : Int) ≤ (j : Int) := by omega
  have hjd : (j : Int) < (d : Int) := by omega
  have hjr : (j : Int) ≤ (cr : Int) := by omega
  have hjs : (j : Int) ≤ (cs : Int) := by omega
  obtain ⟨E, hE⟩ : ∃ E, evRow d p leaf (.slice ar d cr) (.slice as_ d cs) = E := ⟨_, rfl⟩
  rw [hE] at HM HEI HEV HWO HBH
  rw [hE]
  clear hE hR h32 hS h32S hm hSL hj
  go_enter Try.func11, Try.ntmps11
  go_upto_region 1 with (fail)
  rw [show #[Value.int .i64 0, Value.int .i64 0, Value.int .u8 0, Value.int .u8 0, Value.int .u8 0, Value.int .u8 0, Value.int .u8 0, Value.int .u8 0, Value.int .u8 0, Value.int .u8 0, Value.int .u8 0, Value.int .u8 0, Value.int .u8 0, Value.int .u8 0, Value.int .u8 0, Value.int .u8 0, Value.int .u8 0, Value.int .u8 0, Value.int .u8 0, Value.int .u8 0, Value.int .u8 0, Value.int .u8 0, Value.int .u8 0, Value.int .u8 0, Value.int .u8 0, Value.int .u8 0, Value.int .u8 0, Value.int .u8 0, Value.int .u8 0, Value.int .u8 0, Value.int .u8 0, Value.int .u8 0, Value.int .u8 0, Value.int .u8 0, Value.slice none 0 0, Value.slice none 0 0] = evRow 0 0 zeroL (.slice none 0 0) (.slice none 0 0) from rfl]
  have HE0 := Lib.hid (evRow_size 0 0 zeroL (.slice none 0 0) (.slice none 0 0) rfl)
  obtain ⟨ZE, hZE⟩ : ∃ Z, evRow 0 0 zeroL (.slice none 0 0) (.slice none 0 0) = Z := ⟨_, rfl⟩
  rw [hZE] at HE0
  rw [hZE]
  have HZE := Lib.hid hZE
  clear hZE
  have HA0 := Lib.hid (heap_alloc2_old w (.cells E 26) (.cells ZE 26))
  have HA1 := Lib.hid (heap_alloc2_new w (.cells E 26) (.cells ZE 26))
  have HBW := Lib.hid (show Below w.heap.size w ((w.alloc (.cells E 26)).alloc (.cells ZE 26)) from ((Below.refl _ _).alloc (Nat.le_refl _) _).alloc (by simp) _)
  have hs0 : ((w.alloc (.cells E 26)).alloc (.cells ZE 26)).heap.size = w.heap.size + 2 := by simp
  generalize ((w.alloc (.cells E 26)).alloc (.cells ZE 26)) = W at HA0 HA1 HBW hs0 ⊢
  obtain ⟨g1, hg1⟩ : ∃ x, w.heap.size = x := ⟨_, rfl⟩
  obtain ⟨g2, hg2⟩ : ∃ x, g1 + 1 = x := ⟨_, rfl⟩
  rw [hg1] at HA0 HA1 HBW hs0
  rw [hg2] at HA1
  rw [hg1, hg2]
  have HGE := Lib.hid hg1
  have HLT := Lib.hid (show g1 < g2 ∧ g2 < W.heap.size by omega)
  clear hg1 hg2 hs0
  go_wp2_with (refine wpList_load_row rfl 26 (.tmp 1) rfl g1 rfl 26 E (0, 0) _ HA0.out Try.underlying26 rfl HEI.out ?_)
  refine (HM.out _ (HGE.out ▸ HBW.out)).mono ?_
  rintro e w3 ⟨rfl, hb3⟩
  have H20 := Lib.hid ((hb3.block _ HLT.out.2).trans HA1.out)
  have HB0 := Lib.hid (HBW.out.trans (hb3.mono (by have := HLT.out; omega)))
  have HL3 := Lib.hid (show g1 < g2 ∧ g2 < w3.heap.size ∧ W.heap.size ≤ w3.heap.size by have := HLT.out; have := hb3.size; omega)
  have H1 := Lib.hid ((hb3.block _ (by have := HLT.out; omega)).trans HA0.out)
  clear hb3
  go_wp2_with (refine wpList_load_row rfl 26 (.tmp 1) rfl g1 rfl 26 E (0, 0) _ H1.out Try.underlying26 rfl HEI.out ?_)
  refine (HWO.out _).mono ?_
  rintro e w4 ⟨rfl, hb4⟩
  go_wp2_with fail
  refine (HLL.out _).mono ?_
  rintro e w5 ⟨rfl, hb5⟩
  have hb45 := hb4.trans (hb5.mono hb4.size)
  have H15 := Lib.hid ((hb45.block _ (by have := HL3.out; omega)).trans H1.out)
  have H25 := Lib.hid ((hb45.block _ HL3.out.2.1).trans H20.out)
  have HB5 := Lib.hid (HB0.out.trans (hb45.mono (by have := HL3.out; omega)))
  have HL5 := Lib.hid (show g1 < g2 ∧ g2 < w5.heap.size ∧ W.heap.size ≤ w5.heap.size by have := HL3.out; have := hb45.size; omega)
  have hE5 := HEV.out _ _ H15.out
  have c0 := hE5.c0
  have c1 := hE5.c1
  obtain ⟨EN, hEN⟩ : ∃ E, evRow d (p1 : Int) zeroL (.slice none 0 0) (.slice none 0 0) = E := ⟨_, rfl⟩
  have HNB := Lib.hid (fun a : Act => fun (h1 : a.eval (.tmp 20) = .int .i64 d) (h2 : a.eval (.tmp 23) = .int .i64 (p1 : Int)) => (show Try.prog.built 26 ((#[(0, .tmp 20), (1, .tmp 23)] : Array (Nat × Operand)).map fun (i, x) => (i, a.eval x)).toList = some EN by
    simp only [List.map_toArray, List.map_cons, List.map_nil, h1, h2]
    rw [← hEN]
    kernel_rfl))
  have HNI := Lib.hid (show (Try.prog.info? 26).map (·.size) = some EN.size by rw [← hEN]; exact ev_info _ _ _ _ _ rfl)
  have HNZ := Lib.hid (show ZE.size = EN.size by rw [← hEN, HE0.out]; exact (evRow_size _ _ _ _ _ rfl).symm)
  have HNA := Lib.hid (show EN.all (·.oneCell') = true by rw [← hEN]; exact ev_one _ _ _ _ _ _ _ _ _)
  have HEN := Lib.hid hEN
  clear hb4 hb5 hb45 hEN hE5
  go_upto_region 8 with (first
    | (refine wpList_build_as rfl 26 #[(0, .tmp 20), (1, .tmp 23)] rfl EN (HNB.out _ rfl rfl) ?_)
    | (refine wpList_store_row rfl 26 (.tmp 6) (.tmp 24) rfl w5.heap.size EN rfl rfl 26 ZE (HZE.out ▸ heap_alloc_new w5 _) HNI.out HNZ.out HNA.out ?_; rw [World.setRow_alloc_new]))
  have hb6 : Below w5.heap.size w5 (w5.alloc (.cells EN 26)) := (Below.refl _ _).alloc (Nat.le_refl _) _
  have h66 := heap_alloc_new w5 (.cells EN 26)
  have hs6 : (w5.alloc (.cells EN 26)).heap.size = w5.heap.size + 1 := by simp
  generalize w5.alloc (.cells EN 26) = w6 at hb6 h66 hs6 ⊢
  obtain ⟨g6, hg6⟩ : ∃ x, w5.heap.size = x := ⟨_, rfl⟩
  rw [hg6] at h66 hs6
  rw [hg6]
  have H66 := Lib.hid h66
  have H16 := Lib.hid ((hb6.block _ (by have := HL5.out; omega)).trans H15.out)
  have H26 := Lib.hid ((hb6.block _ HL5.out.2.1).trans H25.out)
  have HB6 := Lib.hid (HB5.out.trans (hb6.mono (by have := HL5.out; omega)))
  have HL6 := Lib.hid (show g1 < g2 ∧ g2 < g6 ∧ g6 < w6.heap.size ∧ W.heap.size ≤ w6.heap.size by have := HL5.out; omega)
  have c34 := (HEV.out _ _ H16.out).c34
  have HR6 := Lib.hid (HRR.out.kept (HGE.out ▸ HB6.out))
  have HTJ := Lib.hid (show (R.take j ++ [zeroL]).length = j + 1 by rw [List.length_append, List.length_take, hashes_form HRR.out, Nat.min_eq_left (by omega)]; rfl)
  have HTS := Lib.hid (show (S.take j ++ [bh]).length = j + 1 by rw [List.length_append, List.length_take, HSL.out, Nat.min_eq_left (by omega)]; rfl)
  have HZB := Lib.hid (show Value.agg zeroB = Value.agg (valsB zeroL).toArray from rfl)
  have HZLL := Lib.hid (show zeroL.length = 32 from rfl)
  clear hb6 h66 hs6 hg6 c0 c1
  go_upto_region 9 with (first
    | (refine wpList_build_as rfl 23 #[] rfl zeroB (by kernel_rfl) ?_)
    | (refine wpList_build_hash1 rfl (.tmp 30) rfl zeroL HZLL.out HZB.out ?_; intro w7 hr7 hb7 _ _; refine wpList_append_fresh rfl (.tmp 29) (.tmp 31) rfl ar j (R.take j) rfl (hashes_take (HR6.out.kept hb7) j j (by omega)) HRT32.out _ 1 zeroL rfl hr7 (by omega) ?_; intro v8 w8 ho8 hb8; obtain ⟨ga, ca, hga⟩ := own_formE ho8; rw [HTJ.out] at hga; subst hga; have hb78 := hb7.trans (hb8.mono hb7.size); have hrow8 : w8.heap[g6]? = some (.cells (evRow d (p1 : Int) zeroL (.slice none 0 0) (.slice none 0 0)) 26 (0, 0)) := (by rw [HEN.out]; exact (hb78.block g6 HL6.out.2.2.1).trans H66.out); have hc8 : w8.cell? ⟨g6, 34, none⟩ = some (.slice none 0 0) := (by rw [Lib.cell_of_heap hrow8]; exact evRow_34 _ _ _ _ _ rfl); have hf8 : w8.frozen? ⟨g6, 34, none⟩ = false := Lib.frozen_of_heap hrow8 34))
  rw [setCell_eq_setRow w8 g6 34 _ _ _ _ hrow8, evRow_set34 _ _ _ _ _ _ rfl]
  have H69 := Lib.hid (setRow_heap w8 g6 _ (evRow d (p1 : Int) zeroL (.slice ga (j + 1) ca) (.slice none 0 0)) _ _ hrow8)
  have HO9 := Lib.hid (own_set_ne (g := g6) ho8 (fun k hk => by have := (own_lt ho8 k hk).1; have := hb7.size; have := HL6.out; omega) (evRow d (p1 : Int) zeroL (.slice ga (j + 1) ca) (.slice none 0 0)))
  have HB9 := Lib.hid (below_setRow (HB6.out.trans (hb78.mono (by have := HL6.out; omega))) (show g1 ≤ g6 by have := HL6.out; omega) (evRow d (p1 : Int) zeroL (.slice ga (j + 1) ca) (.slice none 0 0)))
  have H19 := Lib.hid (show (w8.setRow g6 (evRow d (p1 : Int) zeroL (.slice ga (j + 1) ca) (.slice none 0 0))).heap[g1]? = some (.cells E 26 (0, 0)) by rw [setRow_other _ _ _ _ (by have := HL6.out; omega)]; exact (hb78.block g1 (by have := HL6.out; omega)).trans H16.out)
  have H29 := Lib.hid (show (w8.setRow g6 (evRow d (p1 : Int) zeroL (.slice ga (j + 1) ca) (.slice none 0 0))).heap[g2]? = some (.cells ZE 26 (0, 0)) by rw [setRow_other _ _ _ _ (by have := HL6.out; omega)]; exact (hb78.block g2 (by have := HL6.out; omega)).trans H26.out)
  have HL9 := Lib.hid (show g1 < g2 ∧ g2 < g6 ∧ g6 < (w8.setRow g6 (evRow d (p1 : Int) zeroL (.slice ga (j + 1) ca) (.slice none 0 0))).heap.size ∧ W.heap.size ≤ (w8.setRow g6 (evRow d (p1 : Int) zeroL (.slice ga (j + 1) ca) (.slice none 0 0))).heap.size ∧ W.heap.size ≤ w7.heap.size by
    have h1 := HL6.out; have h2 := hb7.size; have h3 := hb78.size; rw [setRow_size]; omega)
  clear ho8 hb8 hr7 hb7 hb78 hrow8 hc8 hf8 c34
  generalize w8.setRow g6 (evRow d (p1 : Int) zeroL (.slice ga (j + 1) ca) (.slice none 0 0)) = w9 at H69 HO9 HB9 H19 H29 HL9 ⊢
  have HS9 := Lib.hid (HS.out.kept (HGE.out ▸ HB9.out))
  have HBQ := Lib.hid (fun dd os => HBH.out (Sort.grow (redrawn w9 dd) os) (HS9.out.kept (below_regrown w9 dd os)))
  have HBZ := Lib.hid (fun wz (h : Below w9.heap.size w9 wz) => HBH.out wz (HS9.out.kept h))
  have hwj : IntKind.i64.wrap (j1 : Int) = (j1 : Int) := by have := HJ1.out; unfold IntKind.wrap; simp [IntKind.bits, IntKind.signed]; omega
  have HL91 := Lib.hid (show g1 < w9.heap.size by have := HL9.out; omega)
  go_upto_region 9 with (fail)
  refine QT.wp_region_facts_tail 10 (by kernel_rfl) (fun w' => Below w9.heap.size w9 w') (fun n v w' => (([.val (.pointer (some ⟨g1, 35, none⟩)), .val (.slice as_ d cs), .val (.int .i64 j), .val (.int .i64 j), .val (.slice as_ j j), .val (.agg E), .val (.int .i64 j), .val (.int .i64 (j1 : Int)), .val (.agg CB), .row1 bh] : List FactE).getD n (.val undef) : FactE).holds v w') (by kernel_rfl) (by kernel_rfl) (Below.refl _ _).drew (fun w1 w2 h1 hb => h1.trans (hb.mono h1.size)) (fun n v w1 w2 h hb => FactE.kept _ v w1 w2 h hb) (fun n o hn ho a wz hI hag hdep => ?_) (fun a wz hI hag hf => ?_)
  · have t1 : a.eval (.tmp 1) = .pointer (some ⟨g1, 0, none⟩) := hag.old 1 _ (by kernel_rfl) rfl
    have t5 : a.eval (.tmp 5) = .int .i64 j := hag.old 5 _ (by kernel_rfl) rfl
    have c35 := (HEV.out _ _ ((hI.block g1 HL91.out).trans H19.out)).c35
    match n, ho with
    | 0, ho =>
      obtain rfl := (Option.some.inj ho).symm
      exact ⟨rfl, QT.wp_value (v := .pointer (some ⟨g1, 35, none⟩)) (by simp [go_sem, QT.nf t1]) ⟨_, rfl, rfl, Below.refl _ _⟩⟩
    | 1, ho =>
      obtain rfl := (Option.some.inj ho).symm
      have d34 : a.eval (.tmp 34) = .pointer (some ⟨g1, 35, none⟩) := hdep _ (Array.mem_of_getElem? (i := 0) rfl) rfl _ _ rfl rfl
      exact ⟨rfl, QT.wp_value (v := .slice as_ d cs) (by simp [go_sem, QT.nf d34, c35]) ⟨_, rfl, rfl, Below.refl _ _⟩⟩
    | 2, ho =>
      obtain rfl := (Option.some.inj ho).symm
      exact ⟨rfl, QT.wp_value (BigFrame.run_move (.tmp 5) rfl wz) ⟨_, rfl, t5, Below.refl _ _⟩⟩
    | 3, ho =>
      obtain rfl := (Option.some.inj ho).symm
      exact ⟨rfl, QT.wp_value (BigFrame.run_move (.tmp 5) rfl wz) ⟨_, rfl, t5, Below.refl _ _⟩⟩
    | 4, ho =>
      obtain rfl := (Option.some.inj ho).symm
      have d35 : a.eval (.tmp 35) = .slice as_ d cs := hdep _ (Array.mem_of_getElem? (i := 0) rfl) rfl _ _ rfl rfl
      have d36 : a.eval (.tmp 36) = .int .i64 j := hdep _ (Array.mem_of_getElem? (i := 1) rfl) rfl _ _ rfl rfl
      have d37 : a.eval (.tmp 37) = .int .i64 j := hdep _ (Array.mem_of_getElem? (i := 2) rfl) rfl _ _ rfl rfl
      exact ⟨rfl, QT.wp_value (v := .slice as_ j j) (by simp [go_sem, QT.nf d35, QT.nf d36, QT.nf d37, hj0, hjs]) ⟨_, rfl, rfl, Below.refl _ _⟩⟩
    | 5, ho =>
      obtain rfl := (Option.some.inj ho).symm
      exact ⟨rfl, wp_load_row 26 (.tmp 1) rfl g1 t1 26 E (0, 0) _ ((hI.block g1 HL91.out).trans H19.out) Try.underlying26 rfl HEI.out ⟨_, rfl, rfl, Below.refl _ _⟩⟩
    | 6, ho =>
      obtain rfl := (Option.some.inj ho).symm
      exact ⟨rfl, QT.wp_value (BigFrame.run_move (.tmp 5) rfl wz) ⟨_, rfl, t5, Below.refl _ _⟩⟩
    | 7, ho =>
      obtain rfl := (Option.some.inj ho).symm
      have d40 : a.eval (.tmp 40) = .int .i64 j := hdep _ (Array.mem_of_getElem? (i := 0) rfl) rfl _ _ rfl rfl
      exact ⟨rfl, QT.wp_value (v := .int .i64 (j1 : Int)) (by simp [go_sem, QT.nf d40, hj1, hwj]) ⟨_, rfl, rfl, Below.refl _ _⟩⟩
    | 8, ho =>
      obtain rfl := (Option.some.inj ho).symm
      have d39 : a.eval (.tmp 39) = .agg E := hdep _ (Array.mem_of_getElem? (i := 0) rfl) rfl _ _ rfl rfl
      have d41 : a.eval (.tmp 41) = .int .i64 (j1 : Int) := hdep _ (Array.mem_of_getElem? (i := 1) rfl) rfl _ _ rfl rfl
      exact ⟨rfl, QT.wp_enter (f := 31) (args := #[.agg E, .int .i64 (j1 : Int)]) (by simp [go_sem, QT.nf d39, QT.nf d41]) (HBZ.out wz hI) fun w' hb => ⟨_, rfl, rfl, hb⟩⟩
    | 9, ho =>
      obtain rfl := (Option.some.inj ho).symm
      have d42 : a.eval (.tmp 42) = .agg CB := hdep _ (Array.mem_of_getElem? (i := 0) rfl) rfl _ _ rfl rfl
      exact ⟨rfl, wp_build_k 1 #[(0, .tmp 42)] rfl [bh] HBH32.out rfl (by omega) (by omega) (by simp [d42, HCB.out]) fun w' hr hb => ⟨_, rfl, ⟨_, rfl, hr⟩, hb⟩⟩
    | n + 10, ho => omega
  · have f0 : a.eval (.tmp 34) = .pointer (some ⟨g1, 35, none⟩) := hf 0 _ _ (by omega) rfl rfl
    have f1 : a.eval (.tmp 35) = .slice as_ d cs := hf 1 _ _ (by omega) rfl rfl
    have f2 : a.eval (.tmp 36) = .int .i64 j := hf 2 _ _ (by omega) rfl rfl
    have f3 : a.eval (.tmp 37) = .int .i64 j := hf 3 _ _ (by omega) rfl rfl
    have f4 : a.eval (.tmp 38) = .slice as_ j j := hf 4 _ _ (by omega) rfl rfl
    have f5 : a.eval (.tmp 39) = .agg E := hf 5 _ _ (by omega) rfl rfl
    have f6 : a.eval (.tmp 40) = .int .i64 j := hf 6 _ _ (by omega) rfl rfl
    have f7 : a.eval (.tmp 41) = .int .i64 (j1 : Int) := hf 7 _ _ (by omega) rfl rfl
    have f8 : a.eval (.tmp 42) = .agg CB := hf 8 _ _ (by omega) rfl rfl
    have f9' : ((.row1 bh) : FactE).holds (a.eval (.tmp 43)) wz := hf 9 _ _ (by omega) rfl rfl
    obtain ⟨q9, f9, y9⟩ := f9'
    have ha := hag.puts [(34, .pointer (some ⟨g1, 35, none⟩)), (35, .slice as_ d cs), (36, .int .i64 j), (37, .int .i64 j), (38, .slice as_ j j), (39, .agg E), (40, .int .i64 j), (41, .int .i64 (j1 : Int)), (42, .agg CB), (43, .slice (some ⟨q9, 0, none⟩) 1 1)] rfl (by simp) (by simp only [List.forall_mem_cons, List.not_mem_nil, false_implies, implies_true, and_true]; exact ⟨f0, f1, f2, f3, f4, f5, f6, f7, f8, f9⟩)
    subst ha
    clear hag hf f0 f1 f2 f3 f4 f5 f6 f7 f8 f9
    simp only [List.foldl_cons, List.foldl_nil, Act.put, List.drop_succ_cons, List.drop_zero, List.setIfInBounds_toArray, List.set_cons_succ, List.set_cons_zero]
    have hO9 := HO9.out.kept hI
    have hS9 := HS9.out.kept hI
    have h69 := (hI.block g6 HL9.out.2.2.1).trans H69.out
    have h19 := (hI.block g1 HL91.out).trans H19.out
    have h29 := (hI.block g2 (by have := HL9.out; omega)).trans H29.out
    have hB9 := HB9.out.trans (hI.mono (Nat.le_of_lt HL91.out))
    have hl9 : g1 < g2 ∧ g2 < g6 ∧ g6 < wz.heap.size ∧ W.heap.size ≤ wz.heap.size ∧ W.heap.size ≤ w7.heap.size := by have := HL9.out; have := hI.size; omega
    have HZO := Lib.hid hO9
    have HZS := Lib.hid hS9
    have HZ6 := Lib.hid h69
    have HZ1 := Lib.hid h19
    have HZ2 := Lib.hid h29
    have HZB9 := Lib.hid hB9
    have HZL := Lib.hid hl9
    clear hI hO9 hS9 h69 h19 h29 hB9 hl9
    go_upto_region 10 with (refine wpList_append_fresh rfl (.tmp 38) (.tmp 43) rfl as_ j (S.take j) rfl (hashes_take HZS.out j j (by omega)) HST32.out q9 1 bh rfl y9 (by omega) ?_; intro v10 w10 ho10 hb10; obtain ⟨gb, cb, hgb⟩ := own_formE ho10; rw [HTS.out] at hgb; subst hgb; have hrow10 := (hb10.block g6 HZL.out.2.2.1).trans HZ6.out; have hc10 : w10.cell? ⟨g6, 35, none⟩ = some (.slice none 0 0) := (by rw [Lib.cell_of_heap hrow10]; exact evRow_35 _ _ _ _ _ rfl); have hf10 : w10.frozen? ⟨g6, 35, none⟩ = false := Lib.frozen_of_heap hrow10 35)
    rw [setCell_eq_setRow w10 g6 35 _ _ _ _ hrow10, evRow_set35 _ _ _ _ _ _ rfl]
    obtain ⟨EM, hEM⟩ : ∃ E, evRow d (p1 : Int) zeroL (.slice ga (j + 1) ca) (.slice gb (j + 1) cb) = E := ⟨_, rfl⟩
    have HMI := Lib.hid (show (Try.prog.info? 26).map (·.size) = some EM.size by rw [← hEM]; exact ev_info _ _ _ _ _ rfl)
    rw [hEM]
    have H6M := Lib.hid (setRow_heap w10 g6 _ EM _ _ hrow10)
    have HOR := Lib.hid (own_set_ne (g := g6) (HZO.out.kept hb10) (fun k hk => by have := (own_lt HZO.out k hk).1; have := HZL.out; have := HL6.out; omega) EM)
    have HOS := Lib.hid (own_set_ne (g := g6) ho10 (fun k hk => by have := (own_lt ho10 k hk).1; have := HZL.out; omega) EM)
    have HAP := Lib.hid (show ∀ k, (Value.slice ga (j + 1) ca).ownBlock = some k → (Value.slice gb (j + 1) cb).ownBlock ≠ some k from fun k hk hk2 => by have := (own_lt HZO.out k hk).2; have := (own_lt ho10 k hk2).1; omega)
    have HBM := Lib.hid (below_setRow (HZB9.out.trans (hb10.mono (by have := HZL.out; omega))) (show g1 ≤ g6 by have := HZL.out; omega) EM)
    have H1M := Lib.hid (show (w10.setRow g6 EM).heap[g1]? = some (.cells E 26 (0, 0)) by rw [setRow_other _ _ _ _ (by have := HZL.out; omega)]; exact (hb10.block g1 (by have := HZL.out; omega)).trans HZ1.out)
    have H2M := Lib.hid (show (w10.setRow g6 EM).heap[g2]? = some (.cells ZE 26 (0, 0)) by rw [setRow_other _ _ _ _ (by have := HZL.out; omega)]; exact (hb10.block g2 (by have := HZL.out; omega)).trans HZ2.out)
    have HLM := Lib.hid (show g1 < g2 ∧ g2 < W.heap.size ∧ W.heap.size ≤ (w10.setRow g6 EM).heap.size ∧ W.heap.size ≤ wz.heap.size ∧ g6 < (w10.setRow g6 EM).heap.size by have h1 := HZL.out; have h2 := hb10.size; have h3 := HLT.out; rw [setRow_size]; omega)
    have HEM := Lib.hid hEM
    clear ho10 hb10 hrow10 hc10 hf10 y9 hEM
    generalize w10.setRow g6 EM = w11 at H6M HOR HOS HBM H1M H2M HLM ⊢
    have HR11 := Lib.hid (HRR.out.kept (HGE.out ▸ HBM.out))
    obtain ⟨gr, or_, har, hrs⟩ := hashes_cellE HR11.out j sj HSJ.out
    subst har
    have HRSJ := Lib.hid hrs
    clear hrs
    have HLM1 := Lib.hid (show g1 < w11.heap.size ∧ g2 < w11.heap.size by have := HLM.out; omega)
    have HLM6 := Lib.hid HLM.out.2.2.2.2
    go_upto_region 10 with (fail)
    refine QT.wp_region_facts_tail 6 (by kernel_rfl) (fun w' => Below w11.heap.size w11 w') (fun n v w' => (([.val (.agg EM), .val (.pointer (some ⟨g1, 34, none⟩)), .val (.slice (some ⟨gr, or_, none⟩) d cr), .val (.int .i64 j), .val (.pointer (some ⟨gr, or_ + j * 32, none⟩)), .val (.agg CJ)] : List FactE).getD n (.val undef) : FactE).holds v w') (by kernel_rfl) (by kernel_rfl) (Below.refl _ _).drew (fun w1 w2 h1 hb => h1.trans (hb.mono h1.size)) (fun n v w1 w2 h hb => FactE.kept _ v w1 w2 h hb) (fun n o hn ho a wz hI hag hdep => ?_) (fun a wz hI hag hf => ?_)
    · have t1 : a.eval (.tmp 1) = .pointer (some ⟨g1, 0, none⟩) := hag.old 1 _ (by kernel_rfl) rfl
      have t5 : a.eval (.tmp 5) = .int .i64 j := hag.old 5 _ (by kernel_rfl) rfl
      have t6 : a.eval (.tmp 6) = .pointer (some ⟨g6, 0, none⟩) := hag.old 6 _ (by kernel_rfl) rfl
      have c34 := (HEV.out _ _ ((hI.block g1 HLM1.out.1).trans H1M.out)).c34
      match n, ho with
      | 0, ho =>
        obtain rfl := (Option.some.inj ho).symm
        exact ⟨rfl, wp_load_row 26 (.tmp 6) rfl g6 t6 26 EM (0, 0) _ ((hI.block g6 HLM6.out).trans H6M.out) Try.underlying26 rfl HMI.out ⟨_, rfl, rfl, Below.refl _ _⟩⟩
      | 1, ho =>
        obtain rfl := (Option.some.inj ho).symm
        exact ⟨rfl, QT.wp_value (v := .pointer (some ⟨g1, 34, none⟩)) (by simp [go_sem, QT.nf t1]) ⟨_, rfl, rfl, Below.refl _ _⟩⟩
      | 2, ho =>
        obtain rfl := (Option.some.inj ho).symm
        have d47 : a.eval (.tmp 47) = .pointer (some ⟨g1, 34, none⟩) := hdep _ (Array.mem_of_getElem? (i := 0) rfl) rfl _ _ rfl rfl
        exact ⟨rfl, QT.wp_value (v := .slice (some ⟨gr, or_, none⟩) d cr) (by simp [go_sem, QT.nf d47, c34]) ⟨_, rfl, rfl, Below.refl _ _⟩⟩
      | 3, ho =>
        obtain rfl := (Option.some.inj ho).symm
        exact ⟨rfl, QT.wp_value (BigFrame.run_move (.tmp 5) rfl wz) ⟨_, rfl, t5, Below.refl _ _⟩⟩
      | 4, ho =>
        obtain rfl := (Option.some.inj ho).symm
        have d48 : a.eval (.tmp 48) = .slice (some ⟨gr, or_, none⟩) d cr := hdep _ (Array.mem_of_getElem? (i := 0) rfl) rfl _ _ rfl rfl
        have d49 : a.eval (.tmp 49) = .int .i64 j := hdep _ (Array.mem_of_getElem? (i := 1) rfl) rfl _ _ rfl rfl
        exact ⟨rfl, QT.wp_value (v := .pointer (some ⟨gr, or_ + j * 32, none⟩)) (by simp [go_sem, QT.nf d48, QT.nf d49, hj0, hjd]) ⟨_, rfl, rfl, Below.refl _ _⟩⟩
      | 5, ho =>
        obtain rfl := (Option.some.inj ho).symm
        have d50 : a.eval (.tmp 50) = .pointer (some ⟨gr, or_ + j * 32, none⟩) := hdep _ (Array.mem_of_getElem? (i := 0) rfl) rfl _ _ rfl rfl
        exact ⟨rfl, wp_load_mid 23 (.tmp 50) rfl gr (or_ + j * 32) (by simpa [go_sem] using d50) (valsB sj) _ (range_kept hI HRSJ.out) Try.underlying23 rfl HISJ.out ⟨_, rfl, by rw [HCJ.out]; rfl, Below.refl _ _⟩⟩
      | n + 6, ho => omega
    · have f0 : a.eval (.tmp 46) = .agg EM := hf 0 _ _ (by omega) rfl rfl
      have f1 : a.eval (.tmp 47) = .pointer (some ⟨g1, 34, none⟩) := hf 1 _ _ (by omega) rfl rfl
      have f2 : a.eval (.tmp 48) = .slice (some ⟨gr, or_, none⟩) d cr := hf 2 _ _ (by omega) rfl rfl
      have f3 : a.eval (.tmp 49) = .int .i64 j := hf 3 _ _ (by omega) rfl rfl
      have f4 : a.eval (.tmp 50) = .pointer (some ⟨gr, or_ + j * 32, none⟩) := hf 4 _ _ (by omega) rfl rfl
      have f5 : a.eval (.tmp 51) = .agg CJ := hf 5 _ _ (by omega) rfl rfl
      have ha := hag.puts [(46, .agg EM), (47, .pointer (some ⟨g1, 34, none⟩)), (48, .slice (some ⟨gr, or_, none⟩) d cr), (49, .int .i64 j), (50, .pointer (some ⟨gr, or_ + j * 32, none⟩)), (51, .agg CJ)] rfl (by simp) (by simp only [List.forall_mem_cons, List.not_mem_nil, false_implies, implies_true, and_true]; exact ⟨f0, f1, f2, f3, f4, f5⟩)
      subst ha
      clear hag hf f0 f1 f2 f3 f4 f5
      simp only [List.foldl_cons, List.foldl_nil, Act.put, List.drop_succ_cons, List.drop_zero, List.setIfInBounds_toArray, List.set_cons_succ, List.set_cons_zero]
      have HFQ := Lib.hid (HFI.out W.heap.size (.slice ga (j + 1) ca) (.slice gb (j + 1) cb) wz (Nat.le_trans HLM.out.2.2.1 hI.size) (own_mono (HOR.out.kept hI) (by have := HZL.out; omega)) (own_mono (HOS.out.kept hI) (by have := HLM.out; omega)) HAP.out)
      have H2Z := Lib.hid ((hI.block g2 HLM1.out.2).trans H2M.out)
      have HBZ2 := Lib.hid (HBM.out.trans (hI.mono (Nat.le_of_lt HLM1.out.1)))
      rw [HEM.out] at HFQ
      clear hI
      go_wp2_with fail
      refine HFQ.out.mono ?_
      rintro e w12 ⟨a', b', rfl, h1, h2, hb12, h5, h6⟩
      have HVI := Lib.hid (ev_info d (p1 : Int) T (.slice a' d d) (.slice b' d d) HFL.out)
      have HVA := Lib.hid (ev_one d (p1 : Int) T a' b' d d d d)
      have HVZ := Lib.hid (show ZE.size = (evRow d (p1 : Int) T (.slice a' d d) (.slice b' d d)).size by rw [HE0.out, evRow_size _ _ _ _ _ HFL.out])
      obtain ⟨EV, hEV⟩ : ∃ E, evRow d (p1 : Int) T (.slice a' d d) (.slice b' d d) = E := ⟨_, rfl⟩
      rw [hEV] at HVI HVA HVZ
      rw [hEV]
      have HEVE := Lib.hid hEV
      have H2F := Lib.hid ((hb12.block g2 HLM.out.2.1).trans H2Z.out)
      have HBF := Lib.hid (HBZ2.out.trans (hb12.mono (by have := HLM.out; omega)))
      have HHR := Lib.hid (hashes_set (g := g2) h1 (fun k hk => by have := h5 k hk; have := HLM.out; omega) EV)
      have HHS := Lib.hid (hashes_set (g := g2) h2 (fun k hk => by have := h6 k hk; have := HLM.out; omega) EV)
      have HK5 := Lib.hid (show ∀ k, (Value.slice a' d d).ownBlock = some k → w.heap.size ≤ k from fun k hk => by have := h5 k hk; have := HLM.out; have := HGE.out; omega)
      have HK6 := Lib.hid (show ∀ k, (Value.slice b' d d).ownBlock = some k → w.heap.size ≤ k from fun k hk => by have := h6 k hk; have := HLM.out; have := HGE.out; omega)
      clear h1 h2 h5 h6 hb12 hEV
      go_wp2_with (refine wpList_store_row rfl 26 (.tmp 2) (.tmp 52) rfl g2 EV rfl rfl 26 ZE H2F.out HVI.out HVZ.out HVA.out ?_)
      refine bodyPost_ret (Sha.results_cell_tmp (p := 2) (t := 3) (ty := 26) Try.results11 _ _ g2 26 EV (0, 0) _ _ rfl rfl (setRow_heap _ _ _ _ _ _ H2F.out) Try.underlying26 rfl HVI.out) rfl ⟨a', b', by rw [HEVE.out]; rfl, HHR.out, HHS.out, HGE.out ▸ below_setRow HBF.out (by have := HLM.out; omega) _, HK5.out, HK6.out⟩

theorem code_NextE (d p : Nat) (hd : d ≤ 4) (hp : p < 2 ^ d) (leaf : List UInt8) (hl : leaf.length = 32) (ar as_ : Option Addr) (cr cs : Nat) (R S : List (List UInt8)) (w : World) (hR : Hashes w (.slice ar d cr) R) (h32 : H32 R) (hS : Hashes w (.slice as_ d cs) S) (h32S : H32 S) (hm : ∀ i, i < d → rightAt d p i = true → R.getD i [] = zeroL) (hcr : d ≤ cr) (hcs : d ≤ cs) (j : Nat) (hj : lastG d p d = (j : Int)) (hjd : j < d) :
    Calls Try.prog 11 #[.agg (evRow d p leaf (.slice ar d cr) (.slice as_ d cs))] w fun e w' => ∃ a' b', e = .returned (.tuple #[.agg (evRow d ((p + 1 : Nat) : Int) (nextT d p j leaf R S).1 (.slice a' d d) (.slice b' d d)), .int .i64 0]) ∧ Hashes w' (.slice a' d d) (nextT d p j leaf R S).2.1 ∧ Hashes w' (.slice b' d d) (nextT d p j leaf R S).2.2 ∧ Below w.heap.size w w' :=
  (code_NextF d p hd hp leaf hl ar as_ cr cs R S w hR h32 hS h32S hm hcr hcs j hj hjd).mono fun _ _ ⟨a', b', he, h1, h2, hb, _, _⟩ => ⟨a', b', he, h1, h2, hb⟩

end Go.Proofs.Ytpifjeghoapjbaa.Evolve
