/- frame: FrameSpoilt. -/
import Derived.Test.YtfemebdiailacaaDoorFrN
import Derived.Test.YtfemebdiailacaaDoorFrG
import Derived.Lib.ConvBytes
import Derived.StillTailTactics
namespace Go.Proofs.YtfemebdiailacaaDoor.Frame
open Go.RowKit Go.Proofs.YtfemebdiailacaaDoor.Gr

/-- A row of bytes, of which no cell is frozen. -/
def Row (w : World) (g n cap : Nat) (xs : List UInt8) : Prop :=
  ∃ cur fz, w.heap[g]? = some (.cells cur 5 fz) ∧ (∀ i, i < cap → ¬ (fz.1 ≤ i ∧ i < fz.2)) ∧ cur.size = cap ∧ n ≤ cap ∧ xs.length = n ∧ ∀ (i : Nat) (b : UInt8), xs[i]? = some b → cur[i]? = some (.int .u8 (b.toNat : Int))
theorem Row.lt {w : World} {g n cap : Nat} {xs : List UInt8} (h : Row w g n cap xs) : g < w.heap.size := by
  obtain ⟨cur, fz, hg, _⟩ := h
  exact (Array.getElem?_eq_some_iff.1 hg).1
theorem Row.kept {w w' : World} {g n cap : Nat} {xs : List UInt8} (h : Row w g n cap xs) (hb : Below w.heap.size w w') : Row w' g n cap xs := by
  have hl := h.lt
  obtain ⟨cur, fz, hg, r⟩ := h
  exact ⟨cur, fz, (hb.block g hl).trans hg, r⟩
theorem Row.cell {w : World} {g n cap : Nat} {xs : List UInt8} (h : Row w g n cap xs) {i : Nat} {b : UInt8} (hi : xs[i]? = some b) : w.cell? ⟨g, i, none⟩ = some (.int .u8 (b.toNat : Int)) := by
  obtain ⟨cur, fz, hg, _, _, _, _, hc⟩ := h
  rw [cell_of_row w g i cur _ _ hg]
  exact hc i b hi
theorem Row.fz {w : World} {g n cap : Nat} {xs : List UInt8} (h : Row w g n cap xs) {i : Nat} (hi : i < n) : w.frozen? ⟨g, i, none⟩ = false := by
  obtain ⟨cur, ⟨lo, hi'⟩, hg, hz, hs, hn, _⟩ := h
  have h2 := hz i (by omega)
  unfold World.frozen?
  rw [hg]
  simp only at h2 ⊢
  rw [Bool.eq_false_iff]
  intro k
  simp at k
  exact h2 k
theorem Row.set {w : World} {g n cap : Nat} {xs : List UInt8} (h : Row w g n cap xs) (i : Nat) (c : UInt8) (hi : i < n) : Row (w.setCell ⟨g, i, none⟩ (.int .u8 (c.toNat : Int))) g n cap (xs.set i c) := by
  obtain ⟨cur, fz, hg, hz, hs, hn, hl, hc⟩ := h
  refine ⟨cur.setIfInBounds i (.int .u8 (c.toNat : Int)), fz, ?_, hz, by simp [hs], hn, by simp [hl], ?_⟩
  · rw [setCell_eq_setRow w g i cur _ fz _ hg]
    exact setRow_heap w g cur _ _ fz hg
  · intro j b hb
    rw [List.getElem?_set] at hb
    rw [Array.getElem?_setIfInBounds]
    by_cases hij : i = j
    · subst hij
      rw [if_pos rfl, if_pos (by omega)] at hb
      rw [if_pos rfl, if_pos (by omega)]
      obtain rfl := Option.some.inj hb
      rfl
    · rw [if_neg hij] at hb
      rw [if_neg hij]
      exact hc j b hb
theorem Row.text {w : World} {g n cap : Nat} {xs : List UInt8} (h : Row w g n cap xs) : (convert 40 9 (.slice (some ⟨g, 0, none⟩) n cap)).run Tryd.prog w = .ok (.string (bs xs)) w := by
  have hl : xs.length = n := by obtain ⟨_, _, _, _, _, _, hl, _⟩ := h; exact hl
  have e := conv_row w g n cap (xs.map fun b => (b.toNat : Int)) (by simp [hl]) (fun i hi => by
    have hx : xs[i]? = some xs[i] := List.getElem?_eq_getElem (by omega)
    rw [h.cell hx, List.getD, List.getElem?_map, hx]
    rfl)
  rw [e, str_eq (m := xs) (by
    rw [List.map_map]
    conv => rhs; rw [← List.map_id xs]
    apply List.map_congr_left
    intro b _
    show UInt8.ofNat ((b.toNat : Int)).toNat = b
    rw [Int.toNat_natCast, UInt8.ofNat_toNat])]
/-- A text made a row of bytes. -/
theorem conv_text (w : World) (s : ByteArray) :
    ∃ cap W, (convert 9 40 (.string s)).run Tryd.prog w = .ok (.slice (some ⟨w.heap.size, 0, none⟩) s.size cap) W ∧ Row W w.heap.size s.size cap s.data.toList ∧ Below w.heap.size w W := by
  have hsz : s.data.toList.length = s.size := len_data s
  have hcs : (Lib.bytesCells w 5 s).size = grownCap w s.size 0 5 := by
    have := grownCap_ge w s.size 0 5
    simp [Lib.bytesCells]
    have e : s.data.size = s.size := rfl
    omega
  refine ⟨_, _, Lib.run_convert_string_bytes w 9 40 5 s Tryd.underlying9 Tryd.underlying40 Tryd.underlying5, ?_, ?_⟩
  · refine ⟨_, _, Lib.bytesWorld_at_new w 5 s, ?_, hcs, grownCap_ge _ _ _ _, hsz, fun j b hb => ?_⟩
    · intro i hi k
      simp only [hcs] at k
      omega
    · have hj : j < s.data.size := by
        have := (List.getElem?_eq_some_iff.1 hb).1
        simpa using this
      unfold Lib.bytesCells
      rw [Array.getElem?_append_left (by simpa using hj), Array.getElem?_map]
      rw [Array.getElem?_toList] at hb
      rw [hb]
      rfl
  · exact ⟨rfl, rfl, rfl, by rw [Lib.bytesWorld_size]; omega, fun k hk => Lib.bytesWorld_at_old w 5 s k hk⟩
theorem xor8 (x c : UInt8) : bits .xor .u8 ((x.toNat : Nat) : Int) ((c.toNat : Nat) : Int) = (((x ^^^ c).toNat : Nat) : Int) := by
  rw [u8_xor_nat _ _ x.toNat_lt c.toNat_lt, UInt8.toNat_xor]

theorem byte_size (w : World) : (sizeOf 5).run Tryd.prog w = .ok 1 w := by
  have h : (Tryd.prog.info? 5).map (·.size) = some 1 := by kernel_rfl
  cases hq : Tryd.prog.info? 5 with
  | none => simp [hq] at h
  | some i =>
    have hz : i.size = 1 := by simpa [hq] using h
    simp [sizeOf, typeInfo, hq, hz]
theorem index_row {P : Program} {t e : TypeId} {n : Nat} (ht : P.underlying t = some (.array n e)) {w : World} (h2 : (isAgg e).run P w = .ok false w) (h3 : (sizeOf e).run P w = .ok 1 w) {cs : Array Value} {f : Nat} {v : Value} (hf : f < n) (hv : cs[f]? = some v) (k : IntKind) : (Instr.index t (.agg cs) (.int k f)).run P w = .ok v w := by
  have h4 : (0 : Int) ≤ (f : Int) ∧ (f : Int) < (n : Int) := by omega
  simp only [Instr.index, asIntOf, Sem.run_bind, Sem.run_pure, Result.andThen_ok, run_underlying ht]
  rw [if_pos h4]
  simp only [Sem.run_bind, h3, Result.andThen_ok, part, h2, Int.toNat_natCast, Nat.mul_one]
  simp [hv]
theorem index_four (C : Array Value) (k : Nat) (hk : k < 4) (v : Value) (hv : C[k]? = some v) (w : World) : (Instr.index 39 (.agg C) (.int .i64 k)).run Tryd.prog w = .ok v w :=
  index_row Tryd.underlying39 (by simp [isAgg, run_underlying Tryd.underlying5]) (byte_size w) hk hv _

/-- The four bytes, by their places. -/
def fourD (c0 c1 c2 c3 : UInt8) (i : Nat) : UInt8 := match i with | 0 => c0 | 1 => c1 | 2 => c2 | _ => c3

set_option maxRecDepth 100000 in
set_option maxHeartbeats 3200000 in
theorem spoilt_any (s : ByteArray) (o : Int) (c0 c1 c2 c3 : UInt8) (w : World) (hs : s.size ≤ maxLen) (ht : Tab w) :
    Calls Tryd.prog 8 #[.string s, .int .i64 o, .agg #[.int .u8 (c0.toNat : Int), .int .u8 (c1.toNat : Int), .int .u8 (c2.toNat : Int), .int .u8 (c3.toNat : Int)]] w fun e w' => e = .returned (.bool true) ∧ Below w.heap.size w w' := by
  have HW := Lib.hid (fun (W : World) (hW : Below w.heap.size w W) => works_any W (ht.kept hW))
  unfold maxLen at hs
  have hba : Below w.heap.size w (w.alloc (.cells #[.int .u8 (c0.toNat : Int), .int .u8 (c1.toNat : Int), .int .u8 (c2.toNat : Int), .int .u8 (c3.toNat : Int)] 39)) := (Below.refl _ _).alloc (Nat.le_refl _) _
  by_cases hout : 16384 < s.size ∨ o < 0 ∨ (s.size : Int) ≤ o
  · have HBA := Lib.hid hba
    clear hba
    by_cases h1 : 16384 < s.size
    · go_enter Tryd.func8, Tryd.ntmps8
      go_wp2_with (go_at_call 13; refine (HW.out _ HBA.out).mono ?_; rintro e w1 ⟨rfl, hb1⟩)
      go_ret
      exact ⟨rfl, HBA.out.trans (hb1.mono HBA.out.size)⟩
    by_cases h2 : o < 0
    · go_enter Tryd.func8, Tryd.ntmps8
      go_wp2_with (go_at_call 13; refine (HW.out _ HBA.out).mono ?_; rintro e w1 ⟨rfl, hb1⟩)
      go_ret
      exact ⟨rfl, HBA.out.trans (hb1.mono HBA.out.size)⟩
    · have h3 : (s.size : Int) ≤ o := by omega
      clear hout
      go_enter Tryd.func8, Tryd.ntmps8
      go_wp2_with (go_at_call 13; refine (HW.out _ HBA.out).mono ?_; rintro e w1 ⟨rfl, hb1⟩)
      go_ret
      exact ⟨rfl, HBA.out.trans (hb1.mono HBA.out.size)⟩
  · obtain ⟨a, rfl⟩ : ∃ a : Nat, o = a := ⟨o.toNat, by omega⟩
    have has : a < s.size := by omega
    have hs16 : s.size ≤ 16384 := by omega
    clear hout
    obtain ⟨W0, hW0⟩ : ∃ W0, w.alloc (.cells #[.int .u8 (c0.toNat : Int), .int .u8 (c1.toNat : Int), .int .u8 (c2.toNat : Int), .int .u8 (c3.toNat : Int)] 39) = W0 := ⟨_, rfl⟩
    rw [hW0] at hba
    obtain ⟨cap, W1, hcv, hrow, hb1⟩ := conv_text W0 s
    have hcells : ∀ i v, (#[Value.int .u8 (c0.toNat : Int), .int .u8 (c1.toNat : Int), .int .u8 (c2.toNat : Int), .int .u8 (c3.toNat : Int)] : Array Value)[i]? = some v → W1.cell? ⟨w.heap.size, i, none⟩ = some v := fun i v hv => by
      rw [hb1.cell (p := ⟨w.heap.size, i, none⟩) (by subst hW0; simp)]
      subst hW0
      rw [World.cell?_alloc_mark]
      exact hv
    have hg0 : w.heap.size < W0.heap.size := by subst hW0; simp
    have hd0 := hcells 0 _ rfl
    have hd1 := hcells 1 _ rfl
    have hd2 := hcells 2 _ rfl
    have hd3 := hcells 3 _ rfl
    have HBOX := Lib.hid hcells
    have HRZ := Lib.hid hrow
    have HB1 := Lib.hid hb1
    have HBA := Lib.hid hba
    have HTT := Lib.hid ht
    have HLD := Lib.hid (len_data s)
    have HCC := Lib.hid (show ∀ k, k < 4 → (#[Value.int .u8 (c0.toNat : Int), .int .u8 (c1.toNat : Int), .int .u8 (c2.toNat : Int), .int .u8 (c3.toNat : Int)] : Array Value)[k]? = some (.int .u8 ((fourD c0 c1 c2 c3 k).toNat : Int)) by
      intro k hk
      match k, hk with
      | 0, _ => rfl
      | 1, _ => rfl
      | 2, _ => rfl
      | 3, _ => rfl)
    have HD0 := Lib.hid (show fourD c0 c1 c2 c3 0 = c0 from rfl)
    clear hcells hrow ht hb1 hba
    obtain ⟨D, hD⟩ : ∃ D, fourD c0 c1 c2 c3 = D := ⟨_, rfl⟩
    rw [hD] at HCC HD0
    clear hD
    obtain ⟨l, hl⟩ : ∃ l, s.data.toList = l := ⟨_, rfl⟩
    rw [hl] at HLD HRZ
    have HL := Lib.hid hl
    clear hl
    generalize hgg : W0.heap.size = g at *
    have HGG := Lib.hid hgg
    clear hgg
    go_enter Tryd.func8, Tryd.ntmps8
    go_wp2_with fail
    clear hcv hW0 hd0 hd1 hd2 hd3
    obtain ⟨C, hC⟩ : ∃ C, (#[Value.int .u8 (c0.toNat : Int), .int .u8 (c1.toNat : Int), .int .u8 (c2.toNat : Int), .int .u8 (c3.toNat : Int)] : Array Value) = C := ⟨_, rfl⟩
    have hCs : C.size = 4 := by rw [← hC]; rfl
    rw [hC] at HBOX HCC
    rw [hC]
    clear hC
    go_loopw [30] (fun iv wr => ∃ k : Nat, k ≤ 4 ∧ iv = .int .i64 k ∧ Row wr g s.size cap (spoilK l a k D) ∧ Below g W0 wr) (fun iv _ => 4 - (intOf iv).toNat)
    case atStart => exact ⟨0, by omega, rfl, by rw [spoilK_zero]; exact HRZ.out, HB1.out⟩
    case round =>
      obtain ⟨k, hk, rfl, hrow, hbg⟩ := hrel
      by_cases hk4 : k < 4
      · have hix := index_four C k hk4 _ (HCC.out k hk4) wr
        have hk0 : (0 : Int) ≤ (k : Int) := by omega
        have hk4' : (k : Int) < 4 := by omega
        by_cases hin : a + k < s.size
        · obtain ⟨x, hx⟩ : ∃ x, l[a + k]? = some x := ⟨l[a + k]'(by have := HLD.out; omega), List.getElem?_eq_getElem _⟩
          have hcx := hrow.cell (spoilK_here l a k D x hx)
          have hfz := hrow.fz hin
          have HNX := Lib.hid (hrow.set (a + k) (x ^^^ D k) hin)
          rw [spoilK_set l a k D x hx] at HNX
          have hxo := xor8 x (D k)
          have HBG := Lib.hid (hbg.setCell (p := ⟨g, a + k, none⟩) (Nat.le_refl _) (.int .u8 ((x ^^^ D k).toNat : Int)))
          clear hrow hbg hx
          go_wp2_with fail
          clear hix hcx hfz hxo
          go_roundw
          case rel => exact ⟨k + 1, by omega, by go_num, HNX.out, HBG.out⟩
          case measure => simp [intOf]; omega
        · have HNX := Lib.hid hrow
          rw [← spoilK_out l a k D (by have := HLD.out; omega)] at HNX
          have HBG := Lib.hid hbg
          clear hrow hbg
          go_wp2_with fail
          clear hix
          go_roundw
          case rel => exact ⟨k + 1, by omega, by go_num, HNX.out, HBG.out⟩
          case measure => simp [intOf]; omega
      · obtain rfl : k = 4 := by omega
        have HBG := Lib.hid hbg
        have HROW := Lib.hid hrow
        clear hrow hbg
        have hSz : (bs (spoilK l a 4 D)).size = s.size := by rw [bs_size, spoilK_len, HLD.out]
        have hsl : s = bs l := by rw [← HL.out]
        have HTW := Lib.hid (HTT.out.kept (HBA.out.trans (HBG.out.mono (Nat.le_of_lt hg0))))
        have HCS := Lib.hid (fun (d : Nat) (os : Array Obj) => code_Check (bs (spoilK l a 4 D)) (Sort.grow (redrawn wr d) os) (by rw [hSz]; unfold maxLen; omega) (HTW.out.kept (below_regrown wr d os)))
        have HCs := Lib.hid (fun (d : Nat) (os : Array Obj) => code_Check s (Sort.grow (redrawn wr d) os) (by unfold maxLen; omega) (HTW.out.kept (below_regrown wr d os)))
        rw [bs_list] at HCS
        rw [HL.out] at HCs
        have hconv : ∀ (d : Nat) (os : Array Obj), (convert 40 9 (.slice (some ⟨g, 0, none⟩) s.size cap)).run Tryd.prog (Sort.grow (redrawn wr d) os) = .ok (.string (bs (spoilK l a 4 D))) (Sort.grow (redrawn wr d) os) := fun d os => (HROW.out.kept (below_regrown wr d os)).text
        have hcs := check_spoil l a D
        obtain ⟨b, hb1, hb2⟩ : ∃ b, ((bs (spoilK l a 4 D)).toList == s.toList) = b ∧ (((checkN (spoilK l a 4 D) : Nat) : Int) == ((checkN l : Nat) : Int)) = b := by
          by_cases h : spoilK l a 4 D = l
          · exact ⟨true, by rw [h, ← hsl]; simp, by rw [h]; simp⟩
          · refine ⟨false, ?_, ?_⟩
            · rw [hsl, beq_eq_false_iff_ne]
              intro hc
              rw [ByteArray.toList_eq, ByteArray.toList_eq] at hc
              exact h hc
            · rw [beq_eq_false_iff_ne]
              intro hc
              exact h (hcs (by omega))
        clear hcs hSz
        generalize bs (spoilK l a 4 D) = S at *
        generalize checkN (spoilK l a 4 D) = k1 at *
        generalize checkN l = k2 at *
        clear hsl
        go_wp2_with fail
        refine wp_region_quiet_below (by kernel_rfl) (by kernel_rfl) ?_
        repeat (quiet_step (first | (with_reducible exact Calls.regrown_of (HCS.out _ _)) | (with_reducible exact Calls.regrown_of (HCs.out _ _))))
        refine wpQuiet_nil ?_
        intro _ hw'
        obtain ⟨⟨dq, osq⟩, hw''⟩ := hw'
        subst hw''
        have hbq := below_regrown wr dq osq
        dsimp only
        generalize Sort.grow (redrawn wr dq) osq = wz at hbq ⊢
        have HBZ := Lib.hid (HBG.out.trans (hbq.mono (by rw [← HGG.out]; exact HBG.out.size)))
        have HTZ := Lib.hid (HTW.out.kept hbq)
        clear hb1 hb2 hconv hbq HCS HCs
        have HP := code_Put_ok s wz (by omega) HTZ.out
        rw [HL.out] at HP
        have HPP := Lib.hid HP
        have hfz : (bs (frameL l)).size = s.size + 9 := by rw [bs_size, frameL_len, HLD.out]
        obtain ⟨F, hF, hFl⟩ : ∃ F, bs (frameL l) = F ∧ F.data.toList = frameL l := ⟨_, rfl, rfl⟩
        rw [hF] at HPP hfz
        have HFL := Lib.hid hFl
        clear HP hF hFl
        go_wp2_with (go_at_call 9; refine HPP.out.mono ?_; rintro e w5 ⟨rfl, hb5⟩; obtain ⟨cap2, W6, hcv2, hrow2, hb6⟩ := conv_text w5 F; have HB5 := Lib.hid hb5; have HB6 := Lib.hid hb6; have HR6 := Lib.hid hrow2; clear hb5 hb6 hrow2)
        have HBW := Lib.hid (HB5.out.trans (HB6.out.mono HB5.out.size))
        have hC0 : C[0]? = some (.int .u8 (c0.toNat : Int)) := by
          have := HCC.out 0 (by omega)
          rw [HD0.out] at this
          exact this
        have HBY := Lib.hid (show ∀ W, Below wz.heap.size wz W → W.cell? ⟨w.heap.size, 0, none⟩ = some (.int .u8 (c0.toNat : Int)) by
          intro W hW
          have h1 := HBOX.out 0 _ hC0
          rw [HB1.out.cell (p := ⟨w.heap.size, 0, none⟩) hg0] at h1
          have h2 : wz.cell? ⟨w.heap.size, 0, none⟩ = some (.int .u8 (c0.toNat : Int)) := by rw [HBZ.out.cell (p := ⟨w.heap.size, 0, none⟩) hg0]; exact h1
          rw [hW.cell (World.block_lt_of_cell? _ _ h2)]
          exact h2)
        have hby := HBY.out _ HBW.out
        have hxl : 4 + a < (frameL l).length := by rw [frameL_len, HLD.out]; omega
        obtain ⟨x, hx⟩ : ∃ x, (frameL l)[4 + a]? = some x := ⟨_, List.getElem?_eq_getElem hxl⟩
        have hROW := HR6.out
        rw [HFL.out, hfz] at hROW
        have hcx := hROW.cell hx
        have hfz2 := hROW.fz (show 4 + a < s.size + 9 by omega)
        have HSPO := Lib.hid (spoilt_frame l (by have := HLD.out; omega) a (by have := HLD.out; omega) c0 x hx)
        have hxo := xor8 x c0
        obtain ⟨y, hy⟩ : ∃ y, x ^^^ c0 = y := ⟨_, rfl⟩
        rw [hy] at hxo HSPO
        clear hy
        have hr1 : IntKind.i64.wrap ((s.size : Int) + 4) = (s.size : Int) + 4 := IntWalk.i64_in _ ⟨by omega, by omega⟩
        have hr2 : ((a : Int)).tmod ((s.size : Int) + 4) = (a : Int) := by rw [Int.tmod_eq_emod_of_nonneg (by omega)]; exact Int.emod_eq_of_lt (by omega) (by omega)
        have hr3 : ¬ ((s.size : Int) + 4 = 0) := by omega
        have hr4 : IntKind.i64.wrap (4 + (a : Int)) = 4 + (a : Int) := IntWalk.i64_in _ ⟨by omega, by omega⟩
        have hr5 : (0 : Int) ≤ 4 + (a : Int) := by omega
        have hr6 : (4 + (a : Int)).toNat = 4 + a := by omega
        have hr7 : 4 + (a : Int) < (s.size : Int) + 9 := by omega
        have hr8 : 4 + a < s.size + 9 := by omega
        have hr9 : IntKind.i64.wrap (a : Int) = (a : Int) := IntWalk.i64_in _ ⟨by omega, by omega⟩
        have HNR := Lib.hid ((show Row W6.drew w5.heap.size (s.size + 9) cap2 (frameL l) from hROW.kept ((Below.refl _ _).drew)).set (4 + a) y hr8)
        have HNB := Lib.hid (show Below wz.heap.size wz (W6.drew.setCell ⟨w5.heap.size, 4 + a, none⟩ (.int .u8 (y.toNat : Int))) from (HBW.out.drew).setCell (p := ⟨w5.heap.size, 4 + a, none⟩) HB5.out.size _)
        clear hROW hx hxl hC0 hcv2
        refine wp_region_still_tail 12 (by kernel_rfl) (by kernel_rfl) ?_
        simp only [List.take_succ_cons, List.take_zero, List.drop_succ_cons, List.drop_zero]
        have hby' : W6.drew.cell? ⟨w.heap.size, 0, none⟩ = some (.int .u8 (c0.toNat : Int)) := hby
        have hcx' : W6.drew.cell? ⟨w5.heap.size, 4 + a, none⟩ = some (.int .u8 (x.toNat : Int)) := hcx
        have hfz2' : W6.drew.frozen? ⟨w5.heap.size, 4 + a, none⟩ = false := hfz2
        clear hby hcx hfz2
        show wpStill _ _ W6.drew (fun a' => wpList _ _ _ _ a' W6.drew) _ _
        generalize W6.drew = W7 at *
        repeat still_step
        refine wpStill_nil ?_
        go_upto_region 17 with (fail)
        generalize W7.setCell ⟨w5.heap.size, 4 + a, none⟩ (.int .u8 (y.toNat : Int)) = W8 at HNR HNB ⊢
        clear hby' hcx' hfz2' hxo hr1 hr2 hr3 hr4 hr5 hr6 hr7 hr8 hr9 HR6
        have hconv2 := HNR.out.text
        obtain ⟨t, q, er, htk⟩ : ∃ t q er, takeL ((frameL l).set (4 + a) y) = (t, q, er) := ⟨_, _, _, rfl⟩
        have hspo := HSPO.out
        rw [htk] at hspo
        have hF'z : (bs ((frameL l).set (4 + a) y)).size = s.size + 9 := by rw [bs_size, List.length_set, frameL_len, HLD.out]
        have HTK := code_Take (bs ((frameL l).set (4 + a) y)) W8 (by rw [hF'z]; unfold maxLen; omega) (HTZ.out.kept HNB.out)
        rw [bs_list, htk] at HTK
        have HTKK := Lib.hid (show Calls Tryd.prog 10 #[.string (bs ((frameL l).set (4 + a) y))] W8 fun e w' => e = .returned (.tuple #[.string (bs t), .int .i64 (q : Int), .int .i64 (er : Int)]) ∧ Below W8.heap.size W8 w' from HTK)
        generalize bs ((frameL l).set (4 + a) y) = F2 at *
        obtain ⟨b, he1, he2⟩ : ∃ b, ((er : Int) == 0) = b ∧ (((c0.toNat : Nat) : Int) == 0) = b := by
          by_cases h : er = 0
          · have h2 := hspo.1 h
            exact ⟨true, by rw [h]; rfl, by rw [h2]; rfl⟩
          · refine ⟨false, by rw [beq_eq_false_iff_ne]; omega, ?_⟩
            rw [beq_eq_false_iff_ne]
            intro hc
            exact h (hspo.2 (UInt8.toNat_inj.1 (by have h0 : (0 : UInt8).toNat = 0 := rfl; rw [h0]; omega)))
        clear hspo htk HTK hF'z
        go_wp2_with (go_at_call 10; refine HTKK.out.mono ?_; rintro e w9 ⟨rfl, hb9⟩; have HB9 := Lib.hid (HNB.out.trans (hb9.mono HNB.out.size)); have hby9 := HBY.out _ HB9.out; clear hb9 hconv2)
        have HBF := Lib.hid (HBA.out.trans ((HBZ.out.trans (HB9.out.mono (by rw [← HGG.out]; exact HBZ.out.size))).mono (Nat.le_of_lt hg0)))
        refine (HW.out _ HBF.out).mono ?_
        rintro e w10 ⟨rfl, hb10⟩
        have HBG10 := Lib.hid (HBF.out.trans (hb10.mono HBF.out.size))
        clear hb10
        go_wp2
        go_ret
        exact ⟨rfl, HBG10.out⟩
end Go.Proofs.YtfemebdiailacaaDoor.Frame
