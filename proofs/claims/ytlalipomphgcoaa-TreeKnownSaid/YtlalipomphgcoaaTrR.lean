/- The tree: the document's own Rows, Root. -/
import Derived.Test.YtlalipomphgcoaaTrF
import Derived.Test.YtlalipomphgcoaaQTb
import Derived.Deep.Cut
import Derived.Deep.CutBlock
namespace Go.Proofs.Ytlalipomphgcoaa.Tree
open Go.RowKit Go.Proofs.Ytlalipomphgcoaa.Sha

theorem RowOf.same {w w' : World} {g n : Nat} {M : List (List UInt8)} (h : RowOf w g n M) (hb : w'.heap[g]? = w.heap[g]?) : RowOf w' g n M := by
  obtain ⟨hM, ⟨C, hg, hs⟩, hc⟩ := h
  refine ⟨hM, ⟨C, hb.trans hg, hs⟩, fun i x hi j v hv => ?_⟩
  rw [World.cell?_of_block (w := w) (a := ⟨g, i * 32 + j, none⟩) hb]
  exact hc i x hi j v hv
theorem OwnH.rowOf {B : Nat} {v : Value} {P : List (List UInt8)} {w : World} (h : OwnH B v P w) (h0 : 0 < P.length) : ∃ g cap, v = .slice (some ⟨g, 0, none⟩) P.length cap ∧ B ≤ g ∧ P.length ≤ cap ∧ cap ≤ 9223372036854775807 ∧ RowOf w g cap P := by
  obtain ⟨hown, hlen⟩ := h
  rcases hown.2 with ⟨_, hn⟩ | ⟨g, cap, cur, rfl, hB, hg, hc, hm, hs, _⟩
  · omega
  · refine ⟨g, cap, rfl, hB, hc, hm, hlen, ⟨cur, hg, hs⟩, fun i x hx j v hv => ?_⟩
    have hcc := hown.cells (g := g) rfl (i * 32 + j) v (valsH_at P hlen i x hx j v hv)
    rw [Addr.add_mid, Nat.zero_add] at hcc
    exact hcc

/-- Rows of hashes, each one behind a slice, in a row of one's own. -/
structure OwnR (B : Nat) (v : Value) (Rs : List (List (List UInt8))) (w : World) : Prop where
  own : ∃ vs : List Value, w.ownsRow B 28 1 v Rs.length vs ∧ ∀ (i : Nat) (R : List (List UInt8)), Rs[i]? = some R → ∃ g cap, vs[i]? = some (.slice (some ⟨g, 0, none⟩) R.length cap) ∧ RowOf w g cap R
theorem OwnR.nil (B : Nat) (w : World) : OwnR B (.slice none 0 0) [] w := ⟨[], ⟨rfl, Or.inl ⟨rfl, rfl⟩⟩, fun i R h => by simp at h⟩
theorem OwnR.shape {B : Nat} {v : Value} {Rs : List (List (List UInt8))} {w : World} (h : OwnR B v Rs w) : v = .slice none 0 0 ∧ Rs = [] ∨ ∃ g cap cur, v = .slice (some ⟨g, 0, none⟩) Rs.length cap ∧ B ≤ g ∧ w.heap[g]? = some (.cells cur 28 (0, 0)) := by
  obtain ⟨vs, hown, _⟩ := h.own
  rcases hown.2 with ⟨hv, h0⟩ | ⟨g, cap, cur, hv, hB, hg, _⟩
  · exact Or.inl ⟨hv, List.eq_nil_of_length_eq_zero h0⟩
  · exact Or.inr ⟨g, cap, cur, hv, hB, hg⟩
theorem OwnR.kept {B : Nat} {v : Value} {Rs : List (List (List UInt8))} {w w' : World} (h : OwnR B v Rs w) (hb : Below w.heap.size w w') : OwnR B v Rs w' := by
  obtain ⟨vs, hown, hr⟩ := h.own
  refine ⟨vs, hown.kept (row := none) ⟨hb.os, hb.tape, hb.output, hb.size, fun k hk _ => hb.block k hk⟩ (by cases v.ownBlock <;> simp), fun i R hi => ?_⟩
  obtain ⟨g, cap, h1, h2⟩ := hr i R hi
  exact ⟨g, cap, h1, h2.kept hb⟩
/-- A row of rows, read: the slice at a place. -/
theorem OwnR.get {B g cap : Nat} {Rs : List (List (List UInt8))} {w : World} (h : OwnR B (.slice (some ⟨g, 0, none⟩) Rs.length cap) Rs w) (i : Nat) (R : List (List UInt8)) (hi : Rs[i]? = some R) :
    ∃ gr cr, w.cell? ⟨g, i, none⟩ = some (.slice (some ⟨gr, 0, none⟩) R.length cr) ∧ RowOf w gr cr R := by
  obtain ⟨vs, hown, hr⟩ := h.own
  obtain ⟨gr, cr, h1, h2⟩ := hr i R hi
  have hc := hown.cells (g := g) rfl i _ h1
  rw [Addr.add_mid, Nat.zero_add] at hc
  exact ⟨gr, cr, hc, h2⟩

theorem info_slice : ∃ i, Try.prog.info? 28 = some i ∧ i.zero = some (.slice none 0 0) ∧ i.size = 1 ∧ i.bytes = 24 := by
  have h : (Try.prog.info? 28).map (fun i => (i.zero, i.size, i.bytes)) = some (some (.slice none 0 0), 1, 24) := by kernel_rfl
  obtain ⟨i, hi, hz⟩ := Option.map_eq_some_iff.1 h
  simp only [Prod.mk.injEq] at hz
  exact ⟨i, hi, hz.1, hz.2.1, hz.2.2⟩

/-- append of a row's slice onto a row of rows. -/
theorem wpList_append_rowv {ops : Array Oper} {rest : List Oper} {o : Oper} {a : Act} {w : World} {Q : Exit → Act → World → Prop} (hgd : o.guard = none) (s x : Operand)
    (ho : o.op = .call { callee := .builtin .append, args := #[s, x], argTypes := #[90, 90] })
    (B : Nat) (v : Value) (Rs : List (List (List UInt8))) (hs : a.eval s = v) (hown : OwnR B v Rs w) (ad : Addr) (c1 : Nat) (R : List (List UInt8)) (gr cr : Nat) (hx : a.eval x = .slice (some ad) 1 c1) (hcell : w.cell? ad = some (.slice (some ⟨gr, 0, none⟩) R.length cr)) (hrow : RowOf w gr cr R)
    (hn : Rs.length ≤ 1099511627776) (hB : B ≤ w.heap.size)
    (h : ∀ g cap w', OwnR B (.slice (some ⟨g, 0, none⟩) (Rs.length + 1) cap) (Rs ++ [R]) w' → Below B w w' → RowOf w' gr cr R → (∀ (k : Nat) (C : Array Value) (fz : Nat × Nat), w.heap[k]? = some (.cells C 23 fz) → w'.heap[k]? = w.heap[k]?) → wpList Try.prog ops Q rest (a.put o.dst (.slice (some ⟨g, 0, none⟩) (Rs.length + 1) cap)) w') : wpList Try.prog ops Q (o :: rest) a w := by
  obtain ⟨ie, hie, hz, hsz, hby⟩ := info_slice
  obtain ⟨vs, hrows, hr⟩ := hown.own
  have hvl : vs.length = Rs.length := by have := hrows.1; omega
  refine wpList_append_lies w hgd s x 90 ho B 28 ie _ 1 24 Try.underlying90 hie hz hsz hby rfl (by omega) v Rs.length vs hs hrows ad 1 c1 [.slice (some ⟨gr, 0, none⟩) R.length cr] hx rfl (fun j u hj => ?_) (fun u hu => by simp at hu; subst hu; rfl) (by omega) (by unfold maxLen; omega) (by omega) hB _ rfl ?_
  · match j, hj with
    | 0, hj =>
      simp at hj
      subst hj
      have : ad.add 0 = ad := by unfold Addr.add; simp
      rw [this]
      exact hcell
  · intro g cap w' hown' hgrow _ _
    have hblk : ∀ (k : Nat) (C : Array Value) (fz : Nat × Nat), w.heap[k]? = some (.cells C 23 fz) → w'.heap[k]? = w.heap[k]? := fun k C fz hk => by
      refine hgrow.block k (Array.getElem?_eq_some_iff.1 hk).1 (fun e => ?_)
      rcases hown.shape with ⟨rfl, _⟩ | ⟨g', cap', cur', rfl, _, hg'⟩
      · simp [Value.ownBlock] at e
      · simp [Value.ownBlock] at e
        subst e
        rw [hk] at hg'
        simp at hg'
    have hkeep : ∀ (g c : Nat) (M : List (List UInt8)), RowOf w g c M → RowOf w' g c M := fun g c M hM => by
      obtain ⟨C, hg, _⟩ := hM.row
      exact hM.same (hblk g C _ hg)
    refine h g cap w' ⟨vs ++ [.slice (some ⟨gr, 0, none⟩) R.length cr], by rw [List.length_append]; exact hown', fun i R' hi => ?_⟩ ((Below.refl _ _).grown hgrow hB ?_) (hkeep _ _ _ hrow) hblk
    · by_cases hlt : i < Rs.length
      · rw [List.getElem?_append_left hlt] at hi
        obtain ⟨g2, c2, h1, h2⟩ := hr i R' hi
        exact ⟨g2, c2, by rw [List.getElem?_append_left (by omega)]; exact h1, hkeep _ _ _ h2⟩
      · have hi2 : i = Rs.length := by
          have := (List.getElem?_eq_some_iff.1 hi).1
          simp at this
          omega
        subst hi2
        rw [List.getElem?_append_right (Nat.le_refl _), Nat.sub_self] at hi
        simp at hi
        subst hi
        exact ⟨gr, cr, by rw [List.getElem?_append_right (by omega), hvl, Nat.sub_self]; rfl, hkeep _ _ _ hrow⟩
    · intro k hk
      rcases hown.shape with ⟨rfl, _⟩ | ⟨g', cap', cur', rfl, hB', _⟩
      · simp [Value.ownBlock] at hk
      · simp [Value.ownBlock] at hk
        omega

/-- What Rows answers. -/
def RowsPost (L : List (List UInt8)) (w : World) (e : Ending) (w' : World) : Prop :=
  ∃ g cap Rs, Rs = (if L = [] then [[noneF]] else rowsA (L.map leafF)) ∧ e = .returned (.slice (some ⟨g, 0, none⟩) Rs.length cap) ∧ OwnR w.heap.size (.slice (some ⟨g, 0, none⟩) Rs.length cap) Rs w' ∧ Below w.heap.size w w'

set_option maxRecDepth 100000 in
set_option maxHeartbeats 3200000 in
/-- The document's leaves: the first loop of Rows; the loop of a row that goes up. -/
theorem ref_Rows (v : Value) (L : List (List UInt8)) (w : World) (hv : Hashes w v L) (h32 : H32 L) (hn : L.length ≤ 1048576) :
    Calls Try.prog 69 #[v] w (RowsPost L w) := by
  obtain ⟨a, n, cap, hv', hn', hcells⟩ : ∃ a n cap, v = .slice a n cap ∧ L.length = n ∧ ∀ (i : Nat) (s : List UInt8), L[i]? = some s → ∃ g o, a = some ⟨g, o, none⟩ ∧ w.rangeAt g (o + i * 32) (valsB s) := by
    rcases hv with ⟨a, cap, rfl, rfl⟩ | ⟨g, o, cap, rfl, _, hc⟩
    · exact ⟨a, 0, cap, rfl, rfl, fun i s h => by simp at h⟩
    · exact ⟨_, _, cap, rfl, rfl, fun i s h => ⟨g, o, rfl, hc i s h⟩⟩
  subst hv'
  rw [hn'] at hn
  have HN := Lib.hid hn'
  have HC := Lib.hid hcells
  have H3 := Lib.hid h32
  clear hv hcells h32 hn'
  go_enter Try.func69, Try.ntmps69
  go_wp2_with fail
  go_loopw [3, 4] (fun rv iv wr => ∃ k : Nat, k ≤ n ∧ iv = .int .i64 k ∧ OwnH w.heap.size rv ((L.take k).map leafF) wr ∧ Below w.heap.size w wr) (fun _ i _ => n - (intOf i).toNat)
  case atStart => exact ⟨0, by omega, rfl, OwnH.nil _ _, Below.refl _ _⟩
  case round =>
    obtain ⟨k, hk, rfl, hown, hbel⟩ := hrel
    obtain ⟨rv, hrv⟩ : ∃ r, u3 = r := ⟨_, rfl⟩
    subst hrv
    have HOWN := Lib.hid hown
    have HBEL := Lib.hid hbel
    clear hown hbel
    by_cases hlt : k < n
    · obtain ⟨h, hh⟩ : ∃ h, L[k]? = some h := ⟨L[k]'(by rw [HN.out]; exact hlt), List.getElem?_eq_getElem _⟩
      obtain ⟨g, o, rfl, hrg⟩ := HC.out k h hh
      have hl := H3.out h (List.mem_of_getElem? hh)
      have HTK := Lib.hid (show (L.take (k + 1)).map leafF = (L.take k).map leafF ++ [leafF h] by rw [List.take_add_one, hh]; simp)
      have hlen : ((L.take k).map leafF).length = k := by rw [List.length_map, List.length_take, HN.out]; omega
      have HL := Lib.hid hlen
      have HRG := Lib.hid (range_kept HBEL.out hrg)
      have HLF := Lib.hid (fun w => ref_leaf h hl w)
      have HIL := Lib.hid (info_len h hl)
      have hk0 : (0 : Int) ≤ (k : Int) := by omega
      have hkn : (k : Int) < (n : Int) := by omega
      clear hh hrg hlen
      go_wp2_with (refine wpList_load_mid rfl 23 (.tmp 17) rfl g (o + k * 32) rfl (valsB h) _ HRG.out Try.underlying23 rfl HIL.out ?_)
      refine (HLF.out _).mono ?_
      rintro e w3 ⟨rfl, hb3⟩
      have HO3 := Lib.hid (HOWN.out.kept hb3)
      have HB3 := Lib.hid (HBEL.out.trans (hb3.mono HBEL.out.size))
      clear hb3
      go_wp2_with (refine wpList_build_hash1 rfl (.tmp 19) rfl (leafF h) rfl rfl ?_; intro w4 hr4 hb4 _ _; refine wpList_append_hashes rfl (.tmp 14) (.tmp 20) rfl w.heap.size _ ((L.take k).map leafF) rfl (HO3.out.kept hb4) _ 1 1 1 [leafF h] rfl hr4 rfl (by omega) (by have := HL.out; omega) (by have := hb4.size; have := HB3.out.size; omega) ?_; intro v5 w5 hown5 hb5 hv5)
      obtain ⟨gp, cp, rfl⟩ := hv5
      have HB5 := Lib.hid ((HB3.out.trans (hb4.mono HB3.out.size)).trans hb5)
      have HO5 := Lib.hid hown5
      clear hb4 hb5 hr4 hown5
      go_wp2_with fail
      go_roundw
      case rel =>
        first
          | exact ⟨k + 1, by omega, by go_num, by rw [HTK.out]; exact HO5.out, HB5.out⟩
          | ((repeat apply Exists.intro)
             exact ⟨⟨k + 1, by omega, by go_num, by rw [HTK.out]; exact HO5.out, HB5.out⟩, rfl⟩)
      case measure => simp [intOf]; omega
    · obtain rfl : n = k := by omega
      rw [List.take_of_length_le (Nat.le_of_eq HN.out)] at HOWN
      obtain ⟨A, hA⟩ : ∃ A, L.map leafF = A := ⟨_, rfl⟩
      have hAl : A.length = n := by rw [← hA, List.length_map, HN.out]
      have HA := Lib.hid hA
      have HAL := Lib.hid hAl
      rw [hA] at HOWN
      clear hA hAl
      by_cases h0 : n = 0
      · subst h0
        obtain rfl : A = [] := List.eq_nil_of_length_eq_zero HAL.out
        have hLe : L = [] := List.eq_nil_of_length_eq_zero HN.out
        have HLE := Lib.hid hLe
        have hsh : ∃ x c, u3 = .slice x 0 c := by
          rcases HOWN.out.shape with ⟨h1, _⟩ | ⟨g, c, h1, _, _⟩
          · exact ⟨_, _, h1⟩
          · exact ⟨_, _, h1⟩
        obtain ⟨x, c, rfl⟩ := hsh
        have HOF := Lib.hid (fun w => ref_ofT noneT (.slice none 0 0) [] w (Or.inl ⟨none, 0, rfl, rfl⟩) (by decide) (by simp) (by simp))
        have HNF := Lib.hid (show (valsB (ofT noneT [])).toArray = (valsB noneF).toArray from rfl)
        rw [HNF.out] at HOF
        clear hLe hlt hk
        go_wp2_with fail
        go_loopw [3, 5] (fun r o w5 => r = .slice x 0 c ∧ o = .slice none 0 0 ∧ w5 = wr) (fun _ _ _ => 0)
        case atStart => exact ⟨rfl, rfl, rfl⟩
        case round =>
          obtain ⟨rfl, rfl, rfl⟩ := hrel
          go_wp2_with fail
          refine (HOF.out _).mono ?_
          rintro e w3 ⟨rfl, hb3⟩
          have HB3 := Lib.hid (HBEL.out.trans (hb3.mono HBEL.out.size))
          clear hb3
          go_upto_region 19 with (refine wpList_build_hash1 rfl (.tmp 64) rfl noneF rfl rfl ?_; intro w4 hr4 hb4 _ _)
          have HB4 := Lib.hid (HB3.out.trans (hb4.mono HB3.out.size))
          have hb5 : Below w4.heap.size w4 (w4.alloc (.cells #[.slice (some ⟨w3.heap.size, 0, none⟩) 1 1] 28)) := (Below.refl _ _).alloc (Nat.le_refl _) _
          have HR5 := Lib.hid (hr4.kept hb5)
          have HC5 := Lib.hid (show (w4.alloc (.cells #[.slice (some ⟨w3.heap.size, 0, none⟩) 1 1] 28)).cell? ⟨w4.heap.size, 0, none⟩ = some (.slice (some ⟨w3.heap.size, 0, none⟩) [noneF].length 1) by simp)
          have HB5 := Lib.hid (HB4.out.trans (hb5.mono HB4.out.size))
          clear hb5 hb4 hr4
          go_wp2_with (refine wpList_append_rowv rfl (.tmp 66) (.tmp 68) rfl w.heap.size _ [] rfl (OwnR.nil _ _) ⟨w4.heap.size, 0, none⟩ 1 [noneF] w3.heap.size 1 rfl HC5.out HR5.out (by simp) HB5.out.size ?_; intro go co w6 hown6 hb6 hrow6 _)
          go_ret
          exact ⟨go, co, [[noneF]], by rw [if_pos HLE.out], rfl, hown6, HB5.out.trans hb6⟩
      · have hn0 : 0 < n := by omega
        have hAp : 0 < A.length := by rw [HAL.out]; exact hn0
        obtain ⟨g0, c0, rfl, hg0, hc0, hm0, hr0⟩ := HOWN.out.rowOf hAp
        rw [HAL.out]
        have HR0 := Lib.hid hr0
        clear h0 hr0 hlt hk hAp
        go_wp2_with fail
        go_loopw [3, 5] (fun rv ov wr => ∃ (M : List (List UInt8)) (Rs : List (List (List UInt8))) (g c m : Nat), rv = .slice (some ⟨g, 0, none⟩) m c ∧ M.length = m ∧ 0 < m ∧ m ≤ n ∧ RowOf wr g c M ∧ OwnR w.heap.size ov Rs wr ∧ Rs ++ rowsA M = rowsA A ∧ Rs.length + m ≤ n ∧ Below w.heap.size w wr) (fun rv _ _ => sliceLen rv)
        case atStart => exact ⟨A, [], g0, c0, n, rfl, HAL.out, hn0, Nat.le_refl _, HR0.out, OwnR.nil _ _, rfl, by simp, HBEL.out⟩
        case round =>
          clear HOWN HBEL HR0
          obtain ⟨M, Rs, g, c, m, rfl, hM, hm0, hmn, hrow, hrows, hall, hRl, hbel⟩ := hrel
          have HM := Lib.hid hM
          have HROW := Lib.hid hrow
          have HROWS := Lib.hid hrows
          have HALL := Lib.hid hall
          have HBEL := Lib.hid hbel
          clear hM hrow hrows hall hbel
          by_cases h1 : 1 < m
          · have hb3 : Below wr.heap.size wr (wr.alloc (.cells #[.slice (some ⟨g, 0, none⟩) m c] 28)) := (Below.refl _ _).alloc (Nat.le_refl _) _
            have HRW3 := Lib.hid (HROWS.out.kept hb3)
            have HR3 := Lib.hid (HROW.out.kept hb3)
            have HC3 := Lib.hid (show (wr.alloc (.cells #[.slice (some ⟨g, 0, none⟩) m c] 28)).cell? ⟨wr.heap.size, 0, none⟩ = some (.slice (some ⟨g, 0, none⟩) M.length c) by rw [HM.out]; simp)
            have HB3 := Lib.hid (HBEL.out.trans (hb3.mono HBEL.out.size))
            clear hb3
            go_upto_region 9 with (refine wpList_append_rowv rfl (.tmp 25) (.tmp 27) rfl w.heap.size _ Rs rfl HRW3.out ⟨wr.heap.size, 0, none⟩ 1 M g c rfl HC3.out HR3.out (by omega) HB3.out.size ?_; intro go co w4 hown4 hb4 hrow4 _)
            have HO4 := Lib.hid hown4
            have HR4 := Lib.hid hrow4
            have HB4 := Lib.hid (HB3.out.trans hb4)
            clear hown4 hrow4 hb4 HRW3 HR3 HC3 HB3
            go_wp2_with fail
            go_loopw [6, 7] (fun nv iv wi => ∃ k f : Nat, iv = .int .i64 f ∧ f = 2 * k ∧ f ≤ m + 1 ∧ OwnH w4.heap.size nv ((upF M).take k) wi ∧ Below w4.heap.size w4 wi) (fun _ iv _ => m + 2 - (intOf iv).toNat)
            case atStart => exact ⟨0, 0, rfl, rfl, by omega, OwnH.nil _ _, Below.refl _ _⟩
            case round =>
              obtain ⟨k, f, rfl, hfk, hfm, hown, hbel⟩ := hrel
              have HOWN := Lib.hid hown
              have HBI := Lib.hid hbel
              have HFK := Lib.hid hfk
              have HRI := Lib.hid (HR4.out.kept hbel)
              have hkf : k ≤ f := by omega
              have hUL : (upF M).length = m / 2 + m % 2 := by rw [upF_len, HM.out]
              have HUL := Lib.hid hUL
              clear hown hbel hUL
              by_cases hlt : f < m
              · obtain ⟨x, hx⟩ : ∃ x, M[f]? = some x := ⟨M[f]'(by rw [HM.out]; exact hlt), List.getElem?_eq_getElem _⟩
                have hxl := HRI.out.len x (List.mem_of_getElem? hx)
                have HRX := Lib.hid (HRI.out.at_ f x hx)
                have HIX := Lib.hid (info_len x hxl)
                have HX := Lib.hid hx
                have HXL := Lib.hid hxl
                have hf0 : (0 : Int) ≤ (f : Int) := by omega
                have hfi : (f : Int) < (m : Int) := by omega
                have HTL := Lib.hid (show ((upF M).take k).length ≤ n by
                  rw [List.length_take]
                  omega)
                obtain ⟨q, hq⟩ : ∃ q, f + 1 = q := ⟨_, rfl⟩
                have hqi : (f : Int) + 1 = (q : Int) := by omega
                have hq0 : (0 : Int) ≤ (q : Int) := by omega
                have hqw : IntKind.i64.wrap ((f : Int) + 1) = (q : Int) := by rw [IntWalk.i64_in _ ⟨by omega, by omega⟩]; omega
                have hqw2 : IntKind.i64.wrap (q : Int) = (q : Int) := IntWalk.i64_in _ ⟨by omega, by omega⟩
                have HQ := Lib.hid hq
                clear hx hxl hq
                by_cases h2 : q < m
                · obtain ⟨y, hy⟩ : ∃ y, M[q]? = some y := ⟨M[q]'(by rw [HM.out]; exact h2), List.getElem?_eq_getElem _⟩
                  have hyl := HRI.out.len y (List.mem_of_getElem? hy)
                  have HRY := Lib.hid (HRI.out.at_ q y hy)
                  have HIY := Lib.hid (info_len y hyl)
                  have HP := Lib.hid (fun w => ref_pair x y HXL.out hyl w)
                  have HTK := Lib.hid (show (upF M).take (k + 1) = (upF M).take k ++ [pairF x y] by
                    have h3 := HFK.out
                    have h4 := HQ.out
                    rw [List.take_add_one, upF_two M k x y (by rw [← h3]; exact HX.out) (by rw [← h3, h4]; exact hy)]
                    rfl)
                  have hqm : (q : Int) < (m : Int) := by omega
                  clear hy hyl hfk
                  go_upto_region 14 with fail
                  refine QT.wp_region_below_tail1 11 (.tmp 6) rfl rfl (by kernel_rfl) (by kernel_rfl) (fun _ _ _ _ h => h) ?_
                  simp only [Act.put, Act.eval, Nat.reduceSub]
                  simp only [List.take_succ_cons, List.take_zero, List.drop_succ_cons, List.drop_zero]
                  repeat (first
                    | (refine wpQuiet_step (fun K hK => ?_); rw [if_pos (by rfl)]; refine quiet_load_mid 23 (.tmp 43) rfl g (f * 32) (by simp [Act.eval]) (valsB x) _ HRX.out Try.underlying23 rfl HIX.out ?_; refine hK _ ?_; clear hK K)
                    | (refine wpQuiet_step (fun K hK => ?_); rw [if_pos (by rfl)]; refine quiet_load_mid 23 (.tmp 48) rfl g (q * 32) (by simp [Act.eval]) (valsB y) _ HRY.out Try.underlying23 rfl HIY.out ?_; refine hK _ ?_; clear hK K)
                    | (quiet_step (with_reducible exact Calls.regrown_of (HP.out _))))
                  refine wpQuiet_nil ?_
                  intro _ hw'
                  obtain ⟨⟨dq, osq⟩, hw''⟩ := hw'
                  subst hw''
                  have hbq := below_regrown wr dq osq
                  dsimp only
                  generalize Sort.grow (redrawn wr dq) osq = w5 at hbq ⊢
                  have HO5 := Lib.hid (HOWN.out.kept hbq)
                  have HB5 := Lib.hid (HBI.out.trans (hbq.mono HBI.out.size))
                  clear hbq
                  go_wp2_with (refine wpList_build_hash1 rfl (.tmp 50) rfl (pairF x y) rfl (by simp [Act.eval]) ?_; intro w6 hr6 hb6 _ _; refine wpList_append_hashes rfl (.tmp 40) (.tmp 51) rfl w4.heap.size _ ((upF M).take k) rfl (HO5.out.kept hb6) _ 1 1 1 [pairF x y] rfl hr6 rfl (by omega) (by have := HTL.out; omega) (by have := hb6.size; have := HB5.out.size; omega) ?_; intro v7 w7 hown7 hb7 hv7)
                  obtain ⟨gp, cp, rfl⟩ := hv7
                  have HB7 := Lib.hid ((HB5.out.trans (hb6.mono HB5.out.size)).trans hb7)
                  have HO7 := Lib.hid hown7
                  clear hb6 hb7 hr6 hown7
                  go_wp2_with fail
                  go_roundw
                  case rel =>
                    have h3 := HFK.out
                    have h4 := HQ.out
                    first
                      | exact ⟨k + 1, f + 2, by go_num, by omega, by omega, by rw [HTK.out]; exact HO7.out, HB7.out⟩
                      | ((repeat apply Exists.intro)
                         exact ⟨⟨k + 1, f + 2, by go_num, by omega, by omega, by rw [HTK.out]; exact HO7.out, HB7.out⟩, rfl⟩)
                  case measure => simp [intOf]; omega
                · have hqm : ¬ (q : Int) < (m : Int) := by omega
                  have HTK := Lib.hid (show (upF M).take (k + 1) = (upF M).take k ++ [x] by
                    have h3 := HFK.out
                    have h4 := HQ.out
                    rw [List.take_add_one, upF_last M k x (by rw [← h3]; exact HX.out) (by rw [HM.out]; omega)]
                    rfl)
                  clear hfk
                  go_wp2_with (first
                    | (refine wpList_load_mid rfl 23 (.tmp 56) rfl g (f * 32) rfl (valsB x) _ HRX.out Try.underlying23 rfl HIX.out ?_)
                    | (refine wpList_build_hash1 rfl (.tmp 57) rfl x HXL.out rfl ?_; intro w6 hr6 hb6 _ _; refine wpList_append_hashes rfl (.tmp 53) (.tmp 58) rfl w4.heap.size _ ((upF M).take k) rfl (HOWN.out.kept hb6) _ 1 1 1 [x] rfl hr6 rfl (by omega) (by have := HTL.out; omega) (by have := hb6.size; have := HBI.out.size; omega) ?_; intro v7 w7 hown7 hb7 hv7))
                  obtain ⟨gp, cp, rfl⟩ := hv7
                  have HB7 := Lib.hid ((HBI.out.trans (hb6.mono HBI.out.size)).trans hb7)
                  have HO7 := Lib.hid hown7
                  clear hb6 hb7 hr6 hown7
                  go_wp2_with fail
                  go_roundw
                  case rel =>
                    have h3 := HFK.out
                    have h4 := HQ.out
                    first
                      | exact ⟨k + 1, f + 2, by go_num, by omega, by omega, by rw [HTK.out]; exact HO7.out, HB7.out⟩
                      | ((repeat apply Exists.intro)
                         exact ⟨⟨k + 1, f + 2, by go_num, by omega, by omega, by rw [HTK.out]; exact HO7.out, HB7.out⟩, rfl⟩)
                  case measure => simp [intOf]; omega
              · have hfi : ¬ (f : Int) < (m : Int) := by omega
                have hall : (upF M).take k = upF M := List.take_of_length_le (by rw [HUL.out]; omega)
                rw [hall] at HOWN
                have hup : 0 < (upF M).length := by rw [HUL.out]; omega
                obtain ⟨gn, cn, rfl, hgn, hcn, hmn', hrn⟩ := HOWN.out.rowOf hup
                obtain ⟨q, hq⟩ : ∃ q, (upF M).length = q := ⟨_, rfl⟩
                rw [hq]
                have HRN := Lib.hid hrn
                have HQ := Lib.hid hq
                have HRS := Lib.hid (HO4.out.kept HBI.out)
                have HBB := Lib.hid (HB4.out.trans (HBI.out.mono HB4.out.size))
                have HAL2 := Lib.hid (show Rs ++ [M] ++ rowsA (upF M) = rowsA A by
                  rw [← HALL.out, rowsA_step M (by rw [HM.out]; exact h1)]
                  simp)
                clear hall hq hrn hup hfk
                go_wp2_with fail
                go_roundw
                case rel =>
                  have h3 := HQ.out
                  have h4 := HUL.out
                  have h5 : (Rs ++ [M]).length = Rs.length + 1 := by simp
                  refine ⟨upF M, Rs ++ [M], gn, cn, q, rfl, h3, by omega, by omega, HRN.out, ?_, HAL2.out, by omega, HBB.out⟩
                  exact HRS.out
                case measure =>
                  have h3 := HQ.out
                  have h4 := HUL.out
                  simp [sliceLen]
                  omega
          · obtain rfl : m = 1 := by omega
            have HAL2 := Lib.hid (show Rs ++ [M] = rowsA A by rw [← HALL.out, rowsA_one M (by rw [HM.out]; exact Nat.le_refl _)])
            have hb3 : Below wr.heap.size wr (wr.alloc (.cells #[.slice (some ⟨g, 0, none⟩) 1 c] 28)) := (Below.refl _ _).alloc (Nat.le_refl _) _
            have HRW3 := Lib.hid (HROWS.out.kept hb3)
            have HR3 := Lib.hid (HROW.out.kept hb3)
            have HC3 := Lib.hid (show (wr.alloc (.cells #[.slice (some ⟨g, 0, none⟩) 1 c] 28)).cell? ⟨wr.heap.size, 0, none⟩ = some (.slice (some ⟨g, 0, none⟩) M.length c) by rw [HM.out]; simp)
            have HB3 := Lib.hid (HBEL.out.trans (hb3.mono HBEL.out.size))
            clear hb3
            go_wp2_with (refine wpList_append_rowv rfl (.tmp 66) (.tmp 68) rfl w.heap.size _ Rs rfl HRW3.out ⟨wr.heap.size, 0, none⟩ 1 M g c rfl HC3.out HR3.out (by omega) HB3.out.size ?_; intro go co w4 hown4 hb4 hrow4 _)
            go_ret
            have hne : ¬ L = [] := fun h => by
              have := HN.out
              rw [h] at this
              simp at this
              omega
            have hl : (Rs ++ [M]).length = Rs.length + 1 := by simp
            refine ⟨go, co, Rs ++ [M], by rw [if_neg hne, HAL2.out, HA.out], by rw [hl]; rfl, by rw [hl]; exact hown4, HB3.out.trans hb4⟩
end Go.Proofs.Ytlalipomphgcoaa.Tree
