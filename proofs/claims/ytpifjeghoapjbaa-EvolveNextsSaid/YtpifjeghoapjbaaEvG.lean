/- evolve: the document's Key. -/
import Derived.Test.YtpifjeghoapjbaaM6
namespace Go.Proofs.Ytpifjeghoapjbaa.Evolve
open Go.RowKit Go.Proofs.Ytpifjeghoapjbaa.Sha Go.Proofs.Ytpifjeghoapjbaa.Tree Go.Proofs.Ytpifjeghoapjbaa.Once

theorem wp_build_k {o : Oper} {a : Act} {w : World} {K : Act → World → Prop} {Q : Exit → Act → World → Prop} (len : Nat) (parts : Array (Nat × Operand)) (ho : o.op = .buildSlice 24 len parts)
    (L : List (List UInt8)) (h32 : H32 L) (hlen : L.length = len) (h0 : 0 < len) (h24 : len ≤ 1000)
    (hp : (parts.map fun (i, x) => (i, a.eval x)).toList = ((L.map fun h => Value.agg (valsB h).toArray).zipIdx 0).map fun x => (x.2, x.1))
    (h : ∀ w', RowOf w' w.heap.size len L → Below w.heap.size w w' → K (a.put o.dst (.slice (some ⟨w.heap.size, 0, none⟩) len len)) w') : o.wp Try.prog a w K Q := by
  obtain ⟨ie, hie, hz, hsz, _⟩ := info_row
  have hcs : ((Array.range (len * 32)).map ((Value.agg (List.replicate 32 (Value.int .u8 0)).toArray).cells[· % (Value.agg (List.replicate 32 (Value.int .u8 0)).toArray).cells.size]!)).size = len * 32 := by simp
  have hfill := Great.fill_whole (s := 32) (by omega) (L.map fun h => Value.agg (valsB h).toArray) ((Array.range (len * 32)).map ((Value.agg (List.replicate 32 (Value.int .u8 0)).toArray).cells[· % (Value.agg (List.replicate 32 (Value.int .u8 0)).toArray).cells.size]!)) (fun v hv => by
    obtain ⟨x, hx, rfl⟩ := List.mem_map.1 hv
    rw [cellsB, valsB_size, h32 x hx]) (by rw [hcs, List.length_map, hlen])
  have hflat : ((L.map fun h => Value.agg (valsB h).toArray).flatMap fun v => v.cells.toList) = valsH L := by
    rw [List.flatMap_map]
    rfl
  rw [hflat] at hfill
  refine wp_buildSlice 24 23 len parts ho (valsH L).toArray ie _ Try.underlying24 hie hz (by rw [hsz]; omega) (by rw [hsz]; omega) (by rw [hsz, hp]; exact hfill) ?_
  refine h _ ⟨h32, ⟨_, heap_alloc_new _ _, ?_⟩, fun i x hx j v hv => ?_⟩ ((Below.refl _ _).alloc (Nat.le_refl _) _)
  · rw [List.size_toArray, valsH_len L h32, hlen]
  · rw [cell_of_row _ _ _ _ _ _ (heap_alloc_new w _), List.getElem?_toArray]
    exact valsH_at L h32 i x hx j v hv

/-- What an operation leaves. -/
inductive FactE where
  | val (v : Value)
  | row1 (x : List UInt8)
def FactE.holds : FactE → Value → World → Prop
  | .val v0, v, _ => v = v0
  | .row1 x, v, w => ∃ g, v = .slice (some ⟨g, 0, none⟩) 1 1 ∧ RowOf w g 1 [x]
theorem FactE.kept (f : FactE) (v : Value) (w w' : World) (h : f.holds v w) (hb : Below w.heap.size w w') : f.holds v w' := by
  cases f with
  | val v0 => exact h
  | row1 x =>
    obtain ⟨g, hv, hr⟩ := h
    exact ⟨g, hv, hr.kept hb⟩

theorem own_formE {B : Nat} {v : Value} {P : List (List UInt8)} {w : World} (h : OwnH B v P w) : ∃ a c, v = .slice a P.length c := by
  rcases h.shape with ⟨rfl, rfl⟩ | ⟨g, cap, rfl, _, _⟩
  · exact ⟨_, _, rfl⟩
  · exact ⟨_, _, rfl⟩

theorem setCells_row (g : Nat) (t : TypeId) (fr : Nat × Nat) : ∀ (vs us pre post : List Value) (w : World), us.length = vs.length → w.heap[g]? = some (.cells (pre ++ us ++ post).toArray t fr) → w.setCells g pre.length vs = w.setRow g (pre ++ vs ++ post).toArray
  | [], us, pre, post, w, hl, hg => by
    obtain rfl := List.eq_nil_of_length_eq_zero hl
    exact (setRow_self w g _ t fr hg).symm
  | v :: vs, [], pre, post, w, hl, hg => by simp at hl
  | v :: vs, u :: us, pre, post, w, hl, hg => by
    rw [World.setCells, setCell_eq_setRow w g pre.length _ t fr v hg]
    have hs : (pre ++ u :: us ++ post).toArray.setIfInBounds pre.length v = ((pre ++ [v]) ++ us ++ post).toArray := by
      rw [List.setIfInBounds_toArray, List.append_assoc, List.set_append_right _ _ (Nat.le_refl _), Nat.sub_self]
      simp
    rw [hs, show pre.length + 1 = (pre ++ [v]).length by simp]
    rw [setCells_row g t fr vs us (pre ++ [v]) post _ (by simpa using hl) (setRow_heap _ _ _ _ _ _ hg), setRow_setRow]
    simp

theorem own_mono {B B' : Nat} {v : Value} {P : List (List UInt8)} {w : World} (h : OwnH B v P w) (hB : B' ≤ B) : OwnH B' v P w := by
  rcases h.own with ⟨a, ⟨hv, h0⟩ | ⟨g, cap, cur, hv, hB2, r⟩⟩
  · exact ⟨⟨a, Or.inl ⟨hv, h0⟩⟩, h.len⟩
  · exact ⟨⟨a, Or.inr ⟨g, cap, cur, hv, Nat.le_trans hB hB2, r⟩⟩, h.len⟩

theorem own_not {B : Nat} {v : Value} {P : List (List UInt8)} {w : World} {g : Nat} (h : OwnH B v P w) (hg : g < B) : v.ownBlock = none ∨ v.ownBlock ≠ some g := by
  cases hu : v.ownBlock with
  | none => exact Or.inl rfl
  | some k => exact Or.inr (fun e => by cases e; have := h.base g hu; omega)

theorem own_set {B : Nat} {v : Value} {P : List (List UInt8)} {w : World} {g : Nat} (h : OwnH B v P w) (hg : g < B) (cs : Array Value) : OwnH B v P (w.setRow g cs) := by
  refine ⟨h.own.kept (row := some g) ⟨rfl, rfl, rfl, by rw [setRow_size]; exact Nat.le_refl _, fun k _ hne => setRow_other _ _ _ _ (fun e => hne (by rw [e]))⟩ (own_not h hg), h.len⟩

set_option maxRecDepth 100000 in
set_option maxHeartbeats 12800000 in
theorem ref_Key (seed : List UInt8) (hs : seed.length = 32) (d p : Nat) (hd : d ≤ 100) (hp : p ≤ 1152921504606846976) (w : World) :
    Calls Try.prog 17 #[.agg (valsB seed).toArray, .int .i64 d, .int .i64 p] w fun e w' => ∃ rv sv, e = .returned (.agg (evRow d p (keyT (digitsE d p) d seed d).1 rv sv)) ∧ OwnH w.heap.size rv (keyT (digitsE d p) d seed d).2.1 w' ∧ OwnH w.heap.size sv (keyT (digitsE d p) d seed d).2.2 w' ∧ Below w.heap.size w w' := by
  have HDG := Lib.hid (fun w => ref_Digits d p (by omega) (by omega) w)
  have HRS := Lib.hid (row32 seed hs)
  have HSL := Lib.hid hs
  obtain ⟨C, hC⟩ : ∃ C, (valsB seed).toArray = C := ⟨_, rfl⟩
  rw [hC] at HRS
  rw [hC]
  have HC := Lib.hid hC
  clear hC hs
  go_enter Try.func17, Try.ntmps17
  go_upto_region 1 with (fail)
  rw [show #[Value.int .i64 0, Value.int .i64 0, Value.int .u8 0, Value.int .u8 0, Value.int .u8 0, Value.int .u8 0, Value.int .u8 0, Value.int .u8 0, Value.int .u8 0, Value.int .u8 0, Value.int .u8 0, Value.int .u8 0, Value.int .u8 0, Value.int .u8 0, Value.int .u8 0, Value.int .u8 0, Value.int .u8 0, Value.int .u8 0, Value.int .u8 0, Value.int .u8 0, Value.int .u8 0, Value.int .u8 0, Value.int .u8 0, Value.int .u8 0, Value.int .u8 0, Value.int .u8 0, Value.int .u8 0, Value.int .u8 0, Value.int .u8 0, Value.int .u8 0, Value.int .u8 0, Value.int .u8 0, Value.int .u8 0, Value.int .u8 0, Value.slice none 0 0, Value.slice none 0 0] = evRow 0 0 zeroL (.slice none 0 0) (.slice none 0 0) from rfl]
  have HE0 := Lib.hid (evRow_size 0 0 zeroL (.slice none 0 0) (.slice none 0 0) rfl)
  obtain ⟨ZE, hZE⟩ : ∃ Z, evRow 0 0 zeroL (.slice none 0 0) (.slice none 0 0) = Z := ⟨_, rfl⟩
  rw [hZE] at HE0
  rw [hZE]
  have HG3 := Lib.hid (heap_alloc2_old w (.cells C 23) (.cells ZE 26))
  have HG6 := Lib.hid (heap_alloc2_new w (.cells C 23) (.cells ZE 26))
  have HBW := Lib.hid (show Below w.heap.size w ((w.alloc (.cells C 23)).alloc (.cells ZE 26)) from ((Below.refl _ _).alloc (Nat.le_refl _) _).alloc (by simp) _)
  have hs0 : ((w.alloc (.cells C 23)).alloc (.cells ZE 26)).heap.size = w.heap.size + 2 := by simp
  generalize (w.alloc (.cells C 23)).alloc (.cells ZE 26) = W0 at HG3 HG6 HBW hs0 ⊢
  obtain ⟨E0, hE0⟩ : ∃ Z, evRow d p zeroL (.slice none 0 0) (.slice none 0 0) = Z := ⟨_, rfl⟩
  have HE1 := Lib.hid (show E0.size = 36 by rw [← hE0]; exact evRow_size _ _ _ _ _ rfl)
  have HEI := Lib.hid (show (Try.prog.info? 26).map (·.size) = some E0.size by rw [HE1.out]; exact info_ev)
  have HEA := Lib.hid (show E0.all (·.oneCell') = true by rw [← hE0]; simp [evRow, valsB, Value.oneCell'])
  have HEB := Lib.hid (fun a : Act => fun (h1 : a.eval (.tmp 10) = .int .i64 d) (h2 : a.eval (.tmp 11) = .int .i64 p) => (show Try.prog.built 26 ((#[(0, .tmp 10), (1, .tmp 11)] : Array (Nat × Operand)).map fun (i, x) => (i, a.eval x)).toList = some E0 by
    simp only [List.map_toArray, List.map_cons, List.map_nil, h1, h2]
    rw [← hE0]
    kernel_rfl))
  have HE0E := Lib.hid hE0
  have HZE := Lib.hid (show ZE.size = E0.size by rw [HE0.out, HE1.out])
  have HZEE := Lib.hid (show evRow 0 0 zeroL (.slice none 0 0) (.slice none 0 0) = ZE from hZE)
  have HS0 := Lib.hid hs0
  clear hE0 hZE hs0
  go_upto_region 2 with (first
    | (refine wpList_build_as rfl 26 #[(0, .tmp 10), (1, .tmp 11)] rfl E0 (HEB.out _ rfl rfl) ?_)
    | (refine wpList_store_row rfl 26 (.tmp 7) (.tmp 12) rfl W0.heap.size E0 rfl rfl 26 ZE (HZEE.out ▸ heap_alloc_new W0 _) HEI.out HZE.out HEA.out ?_; rw [World.setRow_alloc_new]))
  have hb7 : Below W0.heap.size W0 (W0.alloc (.cells E0 26)) := (Below.refl _ _).alloc (Nat.le_refl _) _
  have HG7 := Lib.hid (heap_alloc_new W0 (.cells E0 26))
  have HG33 := Lib.hid ((hb7.block _ (by have := HS0.out; omega)).trans HG3.out)
  have HG66 := Lib.hid ((hb7.block _ (by have := HS0.out; omega)).trans HG6.out)
  have HBW7 := Lib.hid (HBW.out.trans (hb7.mono (by have := HS0.out; omega)))
  have hs7 : (W0.alloc (.cells E0 26)).heap.size = w.heap.size + 3 := by simp [HS0.out]
  rw [HS0.out] at HG7
  generalize W0.alloc (.cells E0 26) = W at HG7 HG33 HG66 HBW7 hs7 ⊢
  rw [HS0.out]
  obtain ⟨g3, hg3⟩ : ∃ x, w.heap.size = x := ⟨_, rfl⟩
  obtain ⟨g6, hg6⟩ : ∃ x, g3 + 1 = x := ⟨_, rfl⟩
  obtain ⟨g7, hg7⟩ : ∃ x, g3 + 2 = x := ⟨_, rfl⟩
  rw [hg3] at HG33 HG66 HG7 HBW7 hs7
  rw [hg6] at HG66
  rw [hg7] at HG7
  rw [hg3, hg6, hg7]
  have HW3 := Lib.hid hg3
  have HLT := Lib.hid (show g3 < g6 ∧ g6 < g7 ∧ g7 < W.heap.size by omega)
  clear hg3 hg6 hg7 hb7 hs7
  go_wp2_with fail
  refine (HDG.out _).mono ?_
  rintro e w2 ⟨wv, rfl, hown, hb2⟩
  obtain ⟨aw, cw, rfl⟩ := hown.form
  have hwl := digitsE_len d p
  obtain ⟨way, hway⟩ : ∃ x, digitsE d p = x := ⟨_, rfl⟩
  rw [hway] at hown hwl
  rw [hway, hwl]
  rw [hwl] at hown
  have HWL := Lib.hid hwl
  have HWAY := Lib.hid (show ∀ (i : Nat) (b : Bool), way[i]? = some b → ∃ g, aw = some ⟨g, 0, none⟩ ∧ W.heap.size ≤ g ∧ g < w2.heap.size ∧ w2.cell? ⟨g, i, none⟩ = some (.bool b) from fun i b hi => by
    obtain ⟨g, hg, hc⟩ := bools_cell hown.bools i b hi
    subst hg
    have := World.ownsRow.lt hown g rfl
    exact ⟨g, rfl, this.1, this.2, hc⟩)
  obtain ⟨B, hB⟩ : ∃ B, w2.heap.size = B := ⟨_, rfl⟩
  have HB := Lib.hid (show W.heap.size ≤ B by rw [← hB]; exact hb2.size)
  have HK0 := Lib.hid (show KeyAt w w2 B g3 g7 d p seed (.slice none 0 0) (.slice none 0 0) [] [] w2 from
    { seed := by rw [HC.out]; exact (hb2.block g3 (by have := HLT.out; omega)).trans HG33.out
      row := by rw [HE0E.out]; exact (hb2.block g7 HLT.out.2.2).trans HG7.out
      r := OwnH.nil _ _
      s := OwnH.nil _ _
      apart := fun k hk => by simp [Value.ownBlock] at hk
      rest := fun k _ _ _ => rfl
      size := Nat.le_of_eq hB.symm
      lt := by have := HLT.out; have := HB.out; omega
      below := HBW7.out.trans (hb2.mono (by have := HLT.out; omega)) })
  have HG62 := Lib.hid ((hb2.block g6 (by have := HLT.out; omega)).trans HG66.out)
  rw [hB] at HWAY
  clear hown hb2 hB hwl
  go_wp2_with fail
  go_loopw [9] (fun iv wr => ∃ (i : Nat) (T : List UInt8) (R S : List (List UInt8)) (rv sv : Value), i ≤ d ∧ iv = .int .i64 i ∧ keyT way d seed i = (T, R, S) ∧ KeyAt w w2 B g3 g7 d p T rv sv R S wr) (fun iv _ => d - (intOf iv).toNat)
  case atStart => exact ⟨0, seed, [], [], _, _, by omega, rfl, rfl, HK0.out⟩
  case round =>
    obtain ⟨i, T, R, S, rv, sv, hi, rfl, hkt, hk⟩ := hrel
    have HK := Lib.hid hk
    have HKT := Lib.hid hkt
    have hlen := keyT_len way d seed HSL.out i
    rw [hkt] at hlen
    have HTL := Lib.hid hlen.1
    have HRL' := Lib.hid hlen.2.1
    have HSL' := Lib.hid hlen.2.2
    clear hk hkt hlen
    by_cases hlt : i < d
    · obtain ⟨b, hbw⟩ : ∃ b, way[i]? = some b := ⟨way[i]'(by rw [HWL.out]; omega), List.getElem?_eq_getElem _⟩
      obtain ⟨gw, rfl, hgw1, hgw2, hcw⟩ := HWAY.out i b hbw
      have hcw2 : wr.cell? ⟨gw, i, none⟩ = some (.bool b) := by
        have h1 := HK.out.rest gw hgw2 (by have := HLT.out; omega) (by have := HLT.out; omega)
        rw [← hcw]
        simp [World.cell?, h1]
      have HNX := Lib.hid (show keyT way d seed (i + 1) = if b then (rightF T, R ++ [zeroL], S ++ [rootE (d - 1 - i) (leftF T)]) else (leftF T, R ++ [rightF T], S ++ [rootE (d - 1 - i) (rightF T)]) by
        rw [keyT, HKT.out]
        have : way.getD i false = b := by rw [List.getD_eq_getElem?_getD, hbw]; rfl
        rw [this])
      have HLF := Lib.hid (fun w => ref_Left T HTL.out w)
      have HRI := Lib.hid (fun w => ref_Right T HTL.out w)
      obtain ⟨e, he⟩ : ∃ e, d - 1 - i = e := ⟨_, rfl⟩
      rw [he] at HNX
      have HRL := Lib.hid (fun w => ref_Root e (by omega) (leftF T) rfl w)
      have HRR := Lib.hid (fun w => ref_Root e (by omega) (rightF T) rfl w)
      have HRT := Lib.hid (row32 T HTL.out)
      have HCLR := Lib.hid (row32 (leftF T) rfl)
      have HCRR := Lib.hid (row32 (rightF T) rfl)
      obtain ⟨CT, hCT⟩ : ∃ C, (valsB T).toArray = C := ⟨_, rfl⟩
      obtain ⟨CL, hCL⟩ : ∃ C, (valsB (leftF T)).toArray = C := ⟨_, rfl⟩
      obtain ⟨CR, hCR⟩ : ∃ C, (valsB (rightF T)).toArray = C := ⟨_, rfl⟩
      rw [hCT] at HRT
      rw [hCT, hCL] at HLF
      rw [hCT, hCR] at HRI
      rw [hCL] at HRL HCLR
      rw [hCR] at HRR HCRR
      have HCT := Lib.hid hCT
      have HCLE := Lib.hid hCL
      have HCRE := Lib.hid hCR
      have HCLZ := Lib.hid (show CT.size = CL.size by rw [HRT.out.size, HCLR.out.size])
      have HCRZ := Lib.hid (show CT.size = CR.size by rw [HRT.out.size, HCRR.out.size])
      obtain ⟨d1, hd1e⟩ : ∃ x, d - 1 = x := ⟨_, rfl⟩
      have hd1 : (d : Int) - 1 = (d1 : Int) := by omega
      have hde : (d1 : Int) - (i : Int) = (e : Int) := by omega
      have hwd1 : IntKind.i64.wrap (d1 : Int) = (d1 : Int) := by unfold IntKind.wrap; simp [IntKind.bits, IntKind.signed]; omega
      have hwe : IntKind.i64.wrap (e : Int) = (e : Int) := by unfold IntKind.wrap; simp [IntKind.bits, IntKind.signed]; omega
      have hii : (i : Int) < (d : Int) := by omega
      have hi0 : (0 : Int) ≤ (i : Int) := by omega
      have c34 := HK.out.cell34
      have HPB := Lib.hid (show R.length ≤ 1099511627776 by rw [HRL'.out]; omega)
      have HPC := Lib.hid (show S.length ≤ 1099511627776 by rw [HSL'.out]; omega)
      have HZ32 := Lib.hid (show H32 [zeroL] from fun y hy => by simp at hy; subst hy; rfl)
      have HZB := Lib.hid (show Value.agg zeroB = Value.agg (valsB zeroL).toArray from rfl)
      have HZLL := Lib.hid (show zeroL.length = 32 from rfl)
      clear hbw hcw hCT hCL hCR hd1e he
      cases b with
      | true =>
        rw [if_pos rfl] at HNX
        obtain ⟨ro, hro⟩ : ∃ x, rootE e (leftF T) = x := ⟨_, rfl⟩
        have hrol : ro.length = 32 := by rw [← hro]; exact rootE_len _ _
        rw [hro] at HNX HRL
        have HRO32 := Lib.hid (show H32 [ro] from fun y hy => by simp at hy; subst hy; exact hrol)
        obtain ⟨CO, hCO⟩ : ∃ C, (valsB ro).toArray = C := ⟨_, rfl⟩
        rw [hCO] at HRL
        have HCO := Lib.hid hCO
        clear hro hrol hCO
        go_upto_region 8 with (first
          | (refine wpList_build_as rfl 23 #[] rfl zeroB (by kernel_rfl) ?_)
          | (refine wpList_build_hash1 rfl (.tmp 27) rfl zeroL HZLL.out HZB.out ?_; intro w3 hr3 hb3 _ _; have HZ := HK.out.kept hb3; refine wpList_append_one rfl (.tmp 26) (.tmp 28) rfl B rv R rfl HZ.r _ 1 zeroL rfl hr3 HPB.out HZ.size ?_; intro v4 w4 ho4 hg4 hk4; obtain ⟨ga, ca, rfl⟩ := own_formE ho4; have hrow4 := HZ.row_grown (fun k hk => (own_lt HZ.r k hk).1) hg4; have hc4 : w4.cell? ⟨g7, 34, none⟩ = some rv := (by rw [Lib.cell_of_heap hrow4]; exact evRow_34 _ _ _ _ _ rfl); have hf4 : w4.frozen? ⟨g7, 34, none⟩ = false := Lib.frozen_of_heap hrow4 34))
        rw [setCell_eq_setRow w4 g7 34 _ _ _ _ hrow4, evRow_set34 _ _ _ _ _ _ rfl]
        have HK5' := HZ.growR ho4 hg4 hk4
        simp only [List.length_append, List.length_singleton] at HK5'
        have HK5 := Lib.hid HK5'
        clear HK5'
        clear HZ ho4 hg4 hk4 hrow4 hc4 hf4
        generalize w4.setRow g7 (evRow d p zeroL (.slice ga (R.length + 1) ca) sv) = w5 at HK5 ⊢
        have H3 := Lib.hid (HCT.out ▸ HK5.out.seed)
        have H7 := Lib.hid HK5.out.row
        have HL3 := Lib.hid ((Array.getElem?_eq_some_iff.1 H3.out).1)
        have HL7 := Lib.hid ((Array.getElem?_eq_some_iff.1 H7.out).1)
        go_wp2_with fail
        refine QT.wp_region_facts_tail 10 (by kernel_rfl) (fun w' => Below w5.heap.size w5 w') (fun n v w' => (([.val (.pointer (some ⟨g7, 35, none⟩)), .val (sv), .val (.agg CT), .val (.agg CL), .val (.int .i64 d), .val (.int .i64 d1), .val (.int .i64 i), .val (.int .i64 e), .val (.agg CO), .row1 ro] : List FactE).getD n (.val undef) : FactE).holds v w') (by kernel_rfl) (by kernel_rfl) (Below.refl _ _).drew (fun w1 w2 h1 hb => h1.trans (hb.mono h1.size)) (fun n v w1 w2 h hb => FactE.kept _ v w1 w2 h hb) (fun n o hn ho a wz hI hag hdep => ?_) (fun a wz hI hag hf => ?_)
        · have t1 : a.eval (.tmp 1) = .int .i64 d := hag.old 1 _ (by kernel_rfl) rfl
          have t9 : a.eval (.tmp 9) = .int .i64 i := hag.old 9 _ (by kernel_rfl) rfl
          have t3 : a.eval (.tmp 3) = .pointer (some ⟨g3, 0, none⟩) := hag.old 3 _ (by kernel_rfl) rfl
          have t7 : a.eval (.tmp 7) = .pointer (some ⟨g7, 0, none⟩) := hag.old 7 _ (by kernel_rfl) rfl
          have c35 : wz.cell? ⟨g7, 35, none⟩ = some sv := by rw [Lib.cell_of_heap ((hI.block g7 HL7.out).trans H7.out)]; exact evRow_35 _ _ _ _ _ rfl
          match n, ho with
          | 0, ho =>
            obtain rfl := (Option.some.inj ho).symm
            exact ⟨rfl, QT.wp_value (v := .pointer (some ⟨g7, 35, none⟩)) (by simp [go_sem, QT.nf t7]) ⟨_, rfl, rfl, Below.refl _ _⟩⟩
          | 1, ho =>
            obtain rfl := (Option.some.inj ho).symm
            have d31 : a.eval (.tmp 31) = .pointer (some ⟨g7, 35, none⟩) := hdep _ (Array.mem_of_getElem? (i := 0) rfl) rfl _ _ rfl rfl
            exact ⟨rfl, QT.wp_value (v := sv) (by simp [go_sem, QT.nf d31, c35]) ⟨_, rfl, rfl, Below.refl _ _⟩⟩
          | 2, ho =>
            obtain rfl := (Option.some.inj ho).symm
            exact ⟨rfl, wp_load_row 23 (.tmp 3) rfl g3 t3 23 CT (0, 0) _ ((hI.block g3 HL3.out).trans H3.out) Try.underlying23 rfl HRT.out.info ⟨_, rfl, rfl, Below.refl _ _⟩⟩
          | 3, ho =>
            obtain rfl := (Option.some.inj ho).symm
            have d33 : a.eval (.tmp 33) = .agg CT := hdep _ (Array.mem_of_getElem? (i := 0) rfl) rfl _ _ rfl rfl
            exact ⟨rfl, QT.wp_enter (f := 13) (args := #[.agg CT]) (by simp [go_sem, QT.nf d33]) (HLF.out wz) fun w' hb => ⟨_, rfl, rfl, hb⟩⟩
          | 4, ho =>
            obtain rfl := (Option.some.inj ho).symm
            exact ⟨rfl, QT.wp_value (BigFrame.run_move (.tmp 1) rfl wz) ⟨_, rfl, t1, Below.refl _ _⟩⟩
          | 5, ho =>
            obtain rfl := (Option.some.inj ho).symm
            have d35 : a.eval (.tmp 35) = .int .i64 d := hdep _ (Array.mem_of_getElem? (i := 0) rfl) rfl _ _ rfl rfl
            exact ⟨rfl, QT.wp_value (v := .int .i64 d1) (by simp [go_sem, QT.nf d35, hd1, hwd1]) ⟨_, rfl, rfl, Below.refl _ _⟩⟩
          | 6, ho =>
            obtain rfl := (Option.some.inj ho).symm
            exact ⟨rfl, QT.wp_value (BigFrame.run_move (.tmp 9) rfl wz) ⟨_, rfl, t9, Below.refl _ _⟩⟩
          | 7, ho =>
            obtain rfl := (Option.some.inj ho).symm
            have d36 : a.eval (.tmp 36) = .int .i64 d1 := hdep _ (Array.mem_of_getElem? (i := 0) rfl) rfl _ _ rfl rfl
            have d37 : a.eval (.tmp 37) = .int .i64 i := hdep _ (Array.mem_of_getElem? (i := 1) rfl) rfl _ _ rfl rfl
            exact ⟨rfl, QT.wp_value (v := .int .i64 e) (by simp [go_sem, QT.nf d36, QT.nf d37, hde, hwe]) ⟨_, rfl, rfl, Below.refl _ _⟩⟩
          | 8, ho =>
            obtain rfl := (Option.some.inj ho).symm
            have d34 : a.eval (.tmp 34) = .agg CL := hdep _ (Array.mem_of_getElem? (i := 0) rfl) rfl _ _ rfl rfl
            have d38 : a.eval (.tmp 38) = .int .i64 e := hdep _ (Array.mem_of_getElem? (i := 1) rfl) rfl _ _ rfl rfl
            exact ⟨rfl, QT.wp_enter (f := 39) (args := #[.agg CL, .int .i64 e]) (by simp [go_sem, QT.nf d34, QT.nf d38]) (HRL.out wz) fun w' hb => ⟨_, rfl, rfl, hb⟩⟩
          | 9, ho =>
            obtain rfl := (Option.some.inj ho).symm
            have d39 : a.eval (.tmp 39) = .agg CO := hdep _ (Array.mem_of_getElem? (i := 0) rfl) rfl _ _ rfl rfl
            exact ⟨rfl, wp_build_k 1 #[(0, .tmp 39)] rfl [ro] HRO32.out rfl (by omega) (by omega) (by simp [d39, HCO.out]) fun w' hr hb => ⟨_, rfl, ⟨_, rfl, hr⟩, hb⟩⟩
          | n + 10, ho => omega
        · have f0 : a.eval (.tmp 31) = .pointer (some ⟨g7, 35, none⟩) := hf 0 _ _ (by omega) rfl rfl
          have f1 : a.eval (.tmp 32) = sv := hf 1 _ _ (by omega) rfl rfl
          have f2 : a.eval (.tmp 33) = .agg CT := hf 2 _ _ (by omega) rfl rfl
          have f3 : a.eval (.tmp 34) = .agg CL := hf 3 _ _ (by omega) rfl rfl
          have f4 : a.eval (.tmp 35) = .int .i64 d := hf 4 _ _ (by omega) rfl rfl
          have f5 : a.eval (.tmp 36) = .int .i64 d1 := hf 5 _ _ (by omega) rfl rfl
          have f6 : a.eval (.tmp 37) = .int .i64 i := hf 6 _ _ (by omega) rfl rfl
          have f7 : a.eval (.tmp 38) = .int .i64 e := hf 7 _ _ (by omega) rfl rfl
          have f8 : a.eval (.tmp 39) = .agg CO := hf 8 _ _ (by omega) rfl rfl
          have f9' : ((.row1 ro) : FactE).holds (a.eval (.tmp 40)) wz := hf 9 _ _ (by omega) rfl rfl
          obtain ⟨q9, f9, y9⟩ := f9'
          have ha := hag.puts [(31, .pointer (some ⟨g7, 35, none⟩)), (32, sv), (33, .agg CT), (34, .agg CL), (35, .int .i64 d), (36, .int .i64 d1), (37, .int .i64 i), (38, .int .i64 e), (39, .agg CO), (40, .slice (some ⟨q9, 0, none⟩) 1 1)] rfl (by simp) (by simp only [List.forall_mem_cons, List.not_mem_nil, false_implies, implies_true, and_true]; exact ⟨f0, f1, f2, f3, f4, f5, f6, f7, f8, f9⟩)
          subst ha
          clear hag hf f0 f1 f2 f3 f4 f5 f6 f7 f8 f9
          simp only [List.foldl_cons, List.foldl_nil, Act.put, List.drop_succ_cons, List.drop_zero, List.setIfInBounds_toArray, List.set_cons_succ, List.set_cons_zero]
          have HZ := HK5.out.kept hI
          clear hI
          go_upto_region 9 with (refine wpList_append_one rfl (.tmp 32) (.tmp 40) rfl B sv S rfl HZ.s q9 1 ro rfl y9 HPC.out HZ.size ?_; intro v6 w6 ho6 hg6 hk6; obtain ⟨gb, cb, rfl⟩ := own_formE ho6; have hrow6 := HZ.row_grown (fun k hk => (own_lt HZ.s k hk).1) hg6; have hc6 : w6.cell? ⟨g7, 35, none⟩ = some sv := (by rw [Lib.cell_of_heap hrow6]; exact evRow_35 _ _ _ _ _ rfl); have hf6 : w6.frozen? ⟨g7, 35, none⟩ = false := Lib.frozen_of_heap hrow6 35)
          rw [setCell_eq_setRow w6 g7 35 _ _ _ _ hrow6, evRow_set35 _ _ _ _ _ _ rfl]
          have HK8' := HZ.growS ho6 hg6 hk6
          simp only [List.length_append, List.length_singleton] at HK8'
          have HK8 := Lib.hid HK8'
          clear HK8'
          clear HZ ho6 hg6 hk6 hrow6 hc6 hf6
          generalize w6.setRow g7 (evRow d p zeroL (.slice ga (R.length + 1) ca) (.slice gb (S.length + 1) cb)) = w8 at HK8 ⊢
          have HS9 := Lib.hid (HCT.out ▸ HK8.out.seed)
          go_wp2_with (refine wpList_load_row rfl 23 (.tmp 3) rfl g3 rfl 23 CT (0, 0) _ HS9.out Try.underlying23 rfl HRT.out.info ?_)
          refine (HRI.out _).mono ?_
          rintro e w9 ⟨rfl, hb9⟩
          have HK9 := Lib.hid (HK8.out.kept hb9)
          have HS10 := Lib.hid (HCT.out ▸ HK9.out.seed)
          clear hb9
          go_wp2_with (refine wpList_store_row rfl 23 (.tmp 3) (.tmp 44) rfl g3 CR rfl rfl 23 CT HS10.out HCRR.out.info HCRZ.out HCRR.out.one ?_)
          go_roundw
          case rel => exact ⟨i + 1, rightF T, R ++ [zeroL], S ++ [ro], _, _, by omega, by go_num, HNX.out, HCRE.out ▸ HK9.out.goes (rightF T)⟩
          case measure => simp [intOf]; omega
      | false =>
        rw [if_neg (by decide)] at HNX
        obtain ⟨ro, hro⟩ : ∃ x, rootE e (rightF T) = x := ⟨_, rfl⟩
        have hrol : ro.length = 32 := by rw [← hro]; exact rootE_len _ _
        rw [hro] at HNX HRR
        have HRO32 := Lib.hid (show H32 [ro] from fun y hy => by simp at hy; subst hy; exact hrol)
        obtain ⟨CO, hCO⟩ : ∃ C, (valsB ro).toArray = C := ⟨_, rfl⟩
        rw [hCO] at HRR
        have HCO := Lib.hid hCO
        obtain ⟨rt, hrt⟩ : ∃ x, rightF T = x := ⟨_, rfl⟩
        have hrtl : rt.length = 32 := by rw [← hrt]; rfl
        rw [hrt] at HNX HCRE
        have HRT32 := Lib.hid (show H32 [rt] from fun y hy => by simp at hy; subst hy; exact hrtl)
        have H3 := Lib.hid (HCT.out ▸ HK.out.seed)
        have H7 := Lib.hid HK.out.row
        have HL3 := Lib.hid ((Array.getElem?_eq_some_iff.1 H3.out).1)
        have HL7 := Lib.hid ((Array.getElem?_eq_some_iff.1 H7.out).1)
        have HCR := Lib.hid HCRE.out
        clear hro hrol hCO hrt hrtl
        go_wp2_with fail
        refine QT.wp_region_facts_tail 5 (by kernel_rfl) (fun w' => Below wr.heap.size wr w') (fun n v w' => (([.val (.pointer (some ⟨g7, 34, none⟩)), .val (rv), .val (.agg CT), .val (.agg CR), .row1 rt] : List FactE).getD n (.val undef) : FactE).holds v w') (by kernel_rfl) (by kernel_rfl) (Below.refl _ _).drew (fun w1 w2 h1 hb => h1.trans (hb.mono h1.size)) (fun n v w1 w2 h hb => FactE.kept _ v w1 w2 h hb) (fun n o hn ho a wz hI hag hdep => ?_) (fun a wz hI hag hf => ?_)
        · have t3 : a.eval (.tmp 3) = .pointer (some ⟨g3, 0, none⟩) := hag.old 3 _ (by kernel_rfl) rfl
          have t7 : a.eval (.tmp 7) = .pointer (some ⟨g7, 0, none⟩) := hag.old 7 _ (by kernel_rfl) rfl
          have c34 : wz.cell? ⟨g7, 34, none⟩ = some rv := by rw [Lib.cell_of_heap ((hI.block g7 HL7.out).trans H7.out)]; exact evRow_34 _ _ _ _ _ rfl
          match n, ho with
          | 0, ho =>
            obtain rfl := (Option.some.inj ho).symm
            exact ⟨rfl, QT.wp_value (v := .pointer (some ⟨g7, 34, none⟩)) (by simp [go_sem, QT.nf t7]) ⟨_, rfl, rfl, Below.refl _ _⟩⟩
          | 1, ho =>
            obtain rfl := (Option.some.inj ho).symm
            have d45 : a.eval (.tmp 45) = .pointer (some ⟨g7, 34, none⟩) := hdep _ (Array.mem_of_getElem? (i := 0) rfl) rfl _ _ rfl rfl
            exact ⟨rfl, QT.wp_value (v := rv) (by simp [go_sem, QT.nf d45, c34]) ⟨_, rfl, rfl, Below.refl _ _⟩⟩
          | 2, ho =>
            obtain rfl := (Option.some.inj ho).symm
            exact ⟨rfl, wp_load_row 23 (.tmp 3) rfl g3 t3 23 CT (0, 0) _ ((hI.block g3 HL3.out).trans H3.out) Try.underlying23 rfl HRT.out.info ⟨_, rfl, rfl, Below.refl _ _⟩⟩
          | 3, ho =>
            obtain rfl := (Option.some.inj ho).symm
            have d47 : a.eval (.tmp 47) = .agg CT := hdep _ (Array.mem_of_getElem? (i := 0) rfl) rfl _ _ rfl rfl
            exact ⟨rfl, QT.wp_enter (f := 14) (args := #[.agg CT]) (by simp [go_sem, QT.nf d47]) (HRI.out wz) fun w' hb => ⟨_, rfl, rfl, hb⟩⟩
          | 4, ho =>
            obtain rfl := (Option.some.inj ho).symm
            have d48 : a.eval (.tmp 48) = .agg CR := hdep _ (Array.mem_of_getElem? (i := 0) rfl) rfl _ _ rfl rfl
            exact ⟨rfl, wp_build_k 1 #[(0, .tmp 48)] rfl [rt] HRT32.out rfl (by omega) (by omega) (by simp [d48, HCR.out]) fun w' hr hb => ⟨_, rfl, ⟨_, rfl, hr⟩, hb⟩⟩
          | n + 5, ho => omega
        · have f0 : a.eval (.tmp 45) = .pointer (some ⟨g7, 34, none⟩) := hf 0 _ _ (by omega) rfl rfl
          have f1 : a.eval (.tmp 46) = rv := hf 1 _ _ (by omega) rfl rfl
          have f2 : a.eval (.tmp 47) = .agg CT := hf 2 _ _ (by omega) rfl rfl
          have f3 : a.eval (.tmp 48) = .agg CR := hf 3 _ _ (by omega) rfl rfl
          have f4' : ((.row1 rt) : FactE).holds (a.eval (.tmp 49)) wz := hf 4 _ _ (by omega) rfl rfl
          obtain ⟨q4, f4, y4⟩ := f4'
          have ha := hag.puts [(45, .pointer (some ⟨g7, 34, none⟩)), (46, rv), (47, .agg CT), (48, .agg CR), (49, .slice (some ⟨q4, 0, none⟩) 1 1)] rfl (by simp) (by simp only [List.forall_mem_cons, List.not_mem_nil, false_implies, implies_true, and_true]; exact ⟨f0, f1, f2, f3, f4⟩)
          subst ha
          clear hag hf f0 f1 f2 f3 f4
          simp only [List.foldl_cons, List.foldl_nil, Act.put, List.drop_succ_cons, List.drop_zero, List.setIfInBounds_toArray, List.set_cons_succ, List.set_cons_zero]
          have HZ := HK.out.kept hI
          clear hI
          go_upto_region 11 with (refine wpList_append_one rfl (.tmp 46) (.tmp 49) rfl B rv R rfl HZ.r q4 1 rt rfl y4 HPB.out HZ.size ?_; intro v6 w6 ho6 hg6 hk6; obtain ⟨gb, cb, rfl⟩ := own_formE ho6; have hrow6 := HZ.row_grown (fun k hk => (own_lt HZ.r k hk).1) hg6; have hc6 : w6.cell? ⟨g7, 34, none⟩ = some rv := (by rw [Lib.cell_of_heap hrow6]; exact evRow_34 _ _ _ _ _ rfl); have hf6 : w6.frozen? ⟨g7, 34, none⟩ = false := Lib.frozen_of_heap hrow6 34)
          rw [setCell_eq_setRow w6 g7 34 _ _ _ _ hrow6, evRow_set34 _ _ _ _ _ _ rfl]
          have HK5' := HZ.growR ho6 hg6 hk6
          simp only [List.length_append, List.length_singleton] at HK5'
          have HK5 := Lib.hid HK5'
          clear HK5'
          clear HZ ho6 hg6 hk6 hrow6 hc6 hf6
          generalize w6.setRow g7 (evRow d p zeroL (.slice gb (R.length + 1) cb) sv) = w5 at HK5 ⊢
          have H3 := Lib.hid (HCT.out ▸ HK5.out.seed)
          have H7 := Lib.hid HK5.out.row
          have HL3 := Lib.hid ((Array.getElem?_eq_some_iff.1 H3.out).1)
          have HL7 := Lib.hid ((Array.getElem?_eq_some_iff.1 H7.out).1)
          go_wp2_with fail
          refine QT.wp_region_facts_tail 10 (by kernel_rfl) (fun w' => Below w5.heap.size w5 w') (fun n v w' => (([.val (.pointer (some ⟨g7, 35, none⟩)), .val (sv), .val (.agg CT), .val (.agg CR), .val (.int .i64 d), .val (.int .i64 d1), .val (.int .i64 i), .val (.int .i64 e), .val (.agg CO), .row1 ro] : List FactE).getD n (.val undef) : FactE).holds v w') (by kernel_rfl) (by kernel_rfl) (Below.refl _ _).drew (fun w1 w2 h1 hb => h1.trans (hb.mono h1.size)) (fun n v w1 w2 h hb => FactE.kept _ v w1 w2 h hb) (fun n o hn ho a wz hI hag hdep => ?_) (fun a wz hI hag hf => ?_)
          · have t1 : a.eval (.tmp 1) = .int .i64 d := hag.old 1 _ (by kernel_rfl) rfl
            have t9 : a.eval (.tmp 9) = .int .i64 i := hag.old 9 _ (by kernel_rfl) rfl
            have t3 : a.eval (.tmp 3) = .pointer (some ⟨g3, 0, none⟩) := hag.old 3 _ (by kernel_rfl) rfl
            have t7 : a.eval (.tmp 7) = .pointer (some ⟨g7, 0, none⟩) := hag.old 7 _ (by kernel_rfl) rfl
            have c35 : wz.cell? ⟨g7, 35, none⟩ = some sv := by rw [Lib.cell_of_heap ((hI.block g7 HL7.out).trans H7.out)]; exact evRow_35 _ _ _ _ _ rfl
            match n, ho with
            | 0, ho =>
              obtain rfl := (Option.some.inj ho).symm
              exact ⟨rfl, QT.wp_value (v := .pointer (some ⟨g7, 35, none⟩)) (by simp [go_sem, QT.nf t7]) ⟨_, rfl, rfl, Below.refl _ _⟩⟩
            | 1, ho =>
              obtain rfl := (Option.some.inj ho).symm
              have d52 : a.eval (.tmp 52) = .pointer (some ⟨g7, 35, none⟩) := hdep _ (Array.mem_of_getElem? (i := 0) rfl) rfl _ _ rfl rfl
              exact ⟨rfl, QT.wp_value (v := sv) (by simp [go_sem, QT.nf d52, c35]) ⟨_, rfl, rfl, Below.refl _ _⟩⟩
            | 2, ho =>
              obtain rfl := (Option.some.inj ho).symm
              exact ⟨rfl, wp_load_row 23 (.tmp 3) rfl g3 t3 23 CT (0, 0) _ ((hI.block g3 HL3.out).trans H3.out) Try.underlying23 rfl HRT.out.info ⟨_, rfl, rfl, Below.refl _ _⟩⟩
            | 3, ho =>
              obtain rfl := (Option.some.inj ho).symm
              have d54 : a.eval (.tmp 54) = .agg CT := hdep _ (Array.mem_of_getElem? (i := 0) rfl) rfl _ _ rfl rfl
              exact ⟨rfl, QT.wp_enter (f := 14) (args := #[.agg CT]) (by simp [go_sem, QT.nf d54]) (HRI.out wz) fun w' hb => ⟨_, rfl, rfl, hb⟩⟩
            | 4, ho =>
              obtain rfl := (Option.some.inj ho).symm
              exact ⟨rfl, QT.wp_value (BigFrame.run_move (.tmp 1) rfl wz) ⟨_, rfl, t1, Below.refl _ _⟩⟩
            | 5, ho =>
              obtain rfl := (Option.some.inj ho).symm
              have d56 : a.eval (.tmp 56) = .int .i64 d := hdep _ (Array.mem_of_getElem? (i := 0) rfl) rfl _ _ rfl rfl
              exact ⟨rfl, QT.wp_value (v := .int .i64 d1) (by simp [go_sem, QT.nf d56, hd1, hwd1]) ⟨_, rfl, rfl, Below.refl _ _⟩⟩
            | 6, ho =>
              obtain rfl := (Option.some.inj ho).symm
              exact ⟨rfl, QT.wp_value (BigFrame.run_move (.tmp 9) rfl wz) ⟨_, rfl, t9, Below.refl _ _⟩⟩
            | 7, ho =>
              obtain rfl := (Option.some.inj ho).symm
              have d57 : a.eval (.tmp 57) = .int .i64 d1 := hdep _ (Array.mem_of_getElem? (i := 0) rfl) rfl _ _ rfl rfl
              have d58 : a.eval (.tmp 58) = .int .i64 i := hdep _ (Array.mem_of_getElem? (i := 1) rfl) rfl _ _ rfl rfl
              exact ⟨rfl, QT.wp_value (v := .int .i64 e) (by simp [go_sem, QT.nf d57, QT.nf d58, hde, hwe]) ⟨_, rfl, rfl, Below.refl _ _⟩⟩
            | 8, ho =>
              obtain rfl := (Option.some.inj ho).symm
              have d55 : a.eval (.tmp 55) = .agg CR := hdep _ (Array.mem_of_getElem? (i := 0) rfl) rfl _ _ rfl rfl
              have d59 : a.eval (.tmp 59) = .int .i64 e := hdep _ (Array.mem_of_getElem? (i := 1) rfl) rfl _ _ rfl rfl
              exact ⟨rfl, QT.wp_enter (f := 39) (args := #[.agg CR, .int .i64 e]) (by simp [go_sem, QT.nf d55, QT.nf d59]) (HRR.out wz) fun w' hb => ⟨_, rfl, rfl, hb⟩⟩
            | 9, ho =>
              obtain rfl := (Option.some.inj ho).symm
              have d60 : a.eval (.tmp 60) = .agg CO := hdep _ (Array.mem_of_getElem? (i := 0) rfl) rfl _ _ rfl rfl
              exact ⟨rfl, wp_build_k 1 #[(0, .tmp 60)] rfl [ro] HRO32.out rfl (by omega) (by omega) (by simp [d60, HCO.out]) fun w' hr hb => ⟨_, rfl, ⟨_, rfl, hr⟩, hb⟩⟩
            | n + 10, ho => omega
          · have f0 : a.eval (.tmp 52) = .pointer (some ⟨g7, 35, none⟩) := hf 0 _ _ (by omega) rfl rfl
            have f1 : a.eval (.tmp 53) = sv := hf 1 _ _ (by omega) rfl rfl
            have f2 : a.eval (.tmp 54) = .agg CT := hf 2 _ _ (by omega) rfl rfl
            have f3 : a.eval (.tmp 55) = .agg CR := hf 3 _ _ (by omega) rfl rfl
            have f4 : a.eval (.tmp 56) = .int .i64 d := hf 4 _ _ (by omega) rfl rfl
            have f5 : a.eval (.tmp 57) = .int .i64 d1 := hf 5 _ _ (by omega) rfl rfl
            have f6 : a.eval (.tmp 58) = .int .i64 i := hf 6 _ _ (by omega) rfl rfl
            have f7 : a.eval (.tmp 59) = .int .i64 e := hf 7 _ _ (by omega) rfl rfl
            have f8 : a.eval (.tmp 60) = .agg CO := hf 8 _ _ (by omega) rfl rfl
            have f9' : ((.row1 ro) : FactE).holds (a.eval (.tmp 61)) wz := hf 9 _ _ (by omega) rfl rfl
            obtain ⟨q9, f9, y9⟩ := f9'
            have ha := hag.puts [(52, .pointer (some ⟨g7, 35, none⟩)), (53, sv), (54, .agg CT), (55, .agg CR), (56, .int .i64 d), (57, .int .i64 d1), (58, .int .i64 i), (59, .int .i64 e), (60, .agg CO), (61, .slice (some ⟨q9, 0, none⟩) 1 1)] rfl (by simp) (by simp only [List.forall_mem_cons, List.not_mem_nil, false_implies, implies_true, and_true]; exact ⟨f0, f1, f2, f3, f4, f5, f6, f7, f8, f9⟩)
            subst ha
            clear hag hf f0 f1 f2 f3 f4 f5 f6 f7 f8 f9
            simp only [List.foldl_cons, List.foldl_nil, Act.put, List.drop_succ_cons, List.drop_zero, List.setIfInBounds_toArray, List.set_cons_succ, List.set_cons_zero]
            have HZ := HK5.out.kept hI
            clear hI
            go_upto_region 12 with (refine wpList_append_one rfl (.tmp 53) (.tmp 61) rfl B sv S rfl HZ.s q9 1 ro rfl y9 HPC.out HZ.size ?_; intro v8 w8 ho8 hg8 hk8; obtain ⟨gd, cd, rfl⟩ := own_formE ho8; have hrow8 := HZ.row_grown (fun k hk => (own_lt HZ.s k hk).1) hg8; have hc8 : w8.cell? ⟨g7, 35, none⟩ = some sv := (by rw [Lib.cell_of_heap hrow8]; exact evRow_35 _ _ _ _ _ rfl); have hf8 : w8.frozen? ⟨g7, 35, none⟩ = false := Lib.frozen_of_heap hrow8 35)
            rw [setCell_eq_setRow w8 g7 35 _ _ _ _ hrow8, evRow_set35 _ _ _ _ _ _ rfl]
            have HK8' := HZ.growS ho8 hg8 hk8
            simp only [List.length_append, List.length_singleton] at HK8'
            have HK8 := Lib.hid HK8'
            clear HK8'
            clear HZ ho8 hg8 hk8 hrow8 hc8 hf8
            generalize w8.setRow g7 (evRow d p zeroL (.slice gb (R.length + 1) cb) (.slice gd (S.length + 1) cd)) = w8' at HK8 ⊢
            have HS9 := Lib.hid (HCT.out ▸ HK8.out.seed)
            go_wp2_with (refine wpList_load_row rfl 23 (.tmp 3) rfl g3 rfl 23 CT (0, 0) _ HS9.out Try.underlying23 rfl HRT.out.info ?_)
            refine (HLF.out _).mono ?_
            rintro e w9 ⟨rfl, hb9⟩
            have HK9 := Lib.hid (HK8.out.kept hb9)
            have HS10 := Lib.hid (HCT.out ▸ HK9.out.seed)
            clear hb9
            go_wp2_with (refine wpList_store_row rfl 23 (.tmp 3) (.tmp 65) rfl g3 CL rfl rfl 23 CT HS10.out HCLR.out.info HCLZ.out HCLR.out.one ?_)
            go_roundw
            case rel => exact ⟨i + 1, leftF T, R ++ [rt], S ++ [ro], _, _, by omega, by go_num, HNX.out, HCLE.out ▸ HK9.out.goes (leftF T)⟩
            case measure => simp [intOf]; omega
    · have hid : i = d := by omega
      have HKD := Lib.hid (show keyT way d seed d = (T, R, S) by have h := HKT.out; rwa [hid] at h)
      have hci : ¬ (i : Int) < (d : Int) := by omega
      have HRT := Lib.hid (row32 T HTL.out)
      obtain ⟨CT, hCT⟩ : ∃ C, (valsB T).toArray = C := ⟨_, rfl⟩
      rw [hCT] at HRT
      have H3 := Lib.hid (hCT ▸ HK.out.seed)
      have HTH := Lib.hid (show wr.there g7 2 CT.size from fun j hj => by
        have hs := HRT.out.size
        have hz := evRow_size d p zeroL rv sv rfl
        refine ⟨?_, Lib.frozen_of_heap HK.out.row _⟩
        rw [Lib.cell_of_heap HK.out.row, Array.getElem?_eq_getElem (by omega)]
        rfl)
      have HSC := Lib.hid (show wr.setCells g7 2 CT.toList = wr.setRow g7 (evRow d p T rv sv) by
        rw [← hCT]
        exact setCells_row g7 26 (0, 0) (valsB T) (valsB zeroL) [.int .i64 d, .int .i64 p] [rv, sv] wr (by simp [valsB, HTL.out, zeroL]) HK.out.row)
      have HK2 := Lib.hid (setRow_heap wr g7 _ (evRow d p T rv sv) _ _ HK.out.row)
      have HK6 := Lib.hid (show (wr.setRow g7 (evRow d p T rv sv)).heap[g6]? = some (.cells ZE 26 (0, 0)) by
        rw [setRow_other _ _ _ _ (Nat.ne_of_lt HLT.out.2.1), HK.out.rest g6 (by have := HLT.out; have := HB.out; omega) (Nat.ne_of_gt HLT.out.1) (Nat.ne_of_lt HLT.out.2.1)]
        exact HG62.out)
      obtain ⟨EV, hEV⟩ : ∃ E, evRow d p T rv sv = E := ⟨_, rfl⟩
      have HEZ := Lib.hid (show EV.size = 36 by rw [← hEV]; exact evRow_size _ _ _ _ _ HTL.out)
      have HEI2 := Lib.hid (show (Try.prog.info? 26).map (·.size) = some EV.size by rw [HEZ.out]; exact info_ev)
      have HE1C := Lib.hid (show (EV.all fun x => x.oneCell') = true from by
        rw [← hEV]
        refine all_oneCell_toArray fun v hv => ?_
        simp only [List.mem_append, List.mem_cons, List.not_mem_nil, or_false] at hv
        rcases hv with ((rfl | rfl) | hv) | (rfl | rfl)
        · rfl
        · rfl
        · obtain ⟨b, _, rfl⟩ := List.mem_map.1 hv
          rfl
        · rcases HK.out.r.shape with ⟨rfl, _⟩ | ⟨g, cap, rfl, _⟩ <;> rfl
        · rcases HK.out.s.shape with ⟨rfl, _⟩ | ⟨g, cap, rfl, _⟩ <;> rfl)
      have HZEV := Lib.hid (show ZE.size = EV.size by rw [HE0.out, HEZ.out])
      rw [hEV] at HSC HK2 HK6
      have HO : ∀ {v : Value} {P : List (List UInt8)}, OwnH B v P wr → OwnH w.heap.size v P ((wr.setRow g7 EV).setRow g6 EV) := fun {v P} hv => by
        have h2 : OwnH B v P ((wr.setRow g7 EV).setRow g6 EV) := own_set (own_set hv HK.out.lt.2.1 _) (by have := HLT.out; have := HB.out; omega) _
        exact own_mono h2 (by have := HLT.out; have := HB.out; have := HW3.out; omega)
      have HOR := Lib.hid (HO HK.out.r)
      have HOS := Lib.hid (HO HK.out.s)
      have HBW9 := Lib.hid (show Below w.heap.size w ((wr.setRow g7 EV).setRow g6 EV) from HW3.out ▸ below_setRow (below_setRow HK.out.below (Nat.le_of_lt HK.out.lt.2.2) _) (Nat.le_of_lt HLT.out.1) _)
      have HEV := Lib.hid hEV
      clear hid hCT hEV HO
      go_wp2_with (first
        | (refine wpList_load_row rfl 23 (.tmp 3) rfl g3 rfl 23 CT (0, 0) _ H3.out Try.underlying23 rfl HRT.out.info ?_)
        | (refine wpList_store_mid rfl 23 (.tmp 67) (.tmp 66) rfl g7 2 CT rfl rfl HTH.out HRT.out.info HRT.out.one ?_; rw [HSC.out])
        | (refine wpList_load_row rfl 26 (.tmp 7) rfl g7 rfl 26 EV (0, 0) _ HK2.out Try.underlying26 rfl HEI2.out ?_)
        | (refine wpList_store_row rfl 26 (.tmp 6) (.tmp 68) rfl g6 EV rfl rfl 26 ZE HK6.out HEI2.out HZEV.out HE1C.out ?_))
      refine bodyPost_ret (results_cell_row (p := 6) (ty := 26) Try.results17 _ _ g6 26 EV (0, 0) _ rfl (setRow_heap _ _ _ _ _ _ HK6.out) Try.underlying26 rfl HEI2.out) rfl ?_
      rw [HKD.out]
      exact ⟨rv, sv, by rw [HEV.out], HOR.out, HOS.out, HBW9.out⟩

end Go.Proofs.Ytpifjeghoapjbaa.Evolve
