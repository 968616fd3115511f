/- once: the code's secrets. -/
import Derived.Test.YtlalipomphgcoaaOnA
import Derived.BigQuiet
import Derived.Great.BuildSlice
namespace Go.Proofs.Ytlalipomphgcoaa.Once
open Go.RowKit Go.Proofs.Ytlalipomphgcoaa.Sha Go.Proofs.Ytlalipomphgcoaa.Tree

theorem one_cells (v : Value) (h : v.oneCell' = true) : v.cells = #[v] := by cases v <;> first | rfl | cases h

/-- A slice built of one value, of two, each of one cell. -/
theorem wp_slice1 {P : Program} {o : Oper} {a : Act} {w : World} {K : Act → World → Prop} {Q : Exit → Act → World → Prop} (t e : TypeId) (x : Operand) (ho : o.op = .buildSlice t 1 #[(0, x)])
    (z : Value) (hu : P.underlying t = some (.slice e)) (hie : (P.info? e).map (fun i => (i.zero, i.size)) = some (some z, 1)) (v : Value) (hx : a.eval x = v) (h1 : v.oneCell' = true)
    (h : K (a.put o.dst (.slice (some ⟨w.heap.size, 0, none⟩) 1 1)) (w.alloc (.cells #[v] e))) : o.wp P a w K Q := by
  obtain ⟨ie, hi, hq⟩ := Option.map_eq_some_iff.1 hie
  simp only [Prod.mk.injEq] at hq
  have hc := one_cells v h1
  refine wp_buildSlice t e 1 #[(0, x)] ho #[v] ie z hu hi hq.1 (by rw [hq.2]; decide) (by rw [hq.2]; decide) ?_ h
  rw [hq.2]
  have hf := Great.fill_whole (s := 1) (by omega) [v] ((Array.range (1 * 1)).map (z.cells[· % z.cells.size]!)) (fun y hy => by simp at hy; subst hy; rw [hc]; rfl) (by simp)
  simpa [hx, hc] using hf
theorem wp_slice2 {P : Program} {o : Oper} {a : Act} {w : World} {K : Act → World → Prop} {Q : Exit → Act → World → Prop} (t e : TypeId) (x y : Operand) (ho : o.op = .buildSlice t 2 #[(0, x), (1, y)])
    (z : Value) (hu : P.underlying t = some (.slice e)) (hie : (P.info? e).map (fun i => (i.zero, i.size)) = some (some z, 1)) (v u : Value) (hx : a.eval x = v) (hy : a.eval y = u) (h1 : v.oneCell' = true) (h2 : u.oneCell' = true)
    (h : K (a.put o.dst (.slice (some ⟨w.heap.size, 0, none⟩) 2 2)) (w.alloc (.cells #[v, u] e))) : o.wp P a w K Q := by
  obtain ⟨ie, hi, hq⟩ := Option.map_eq_some_iff.1 hie
  simp only [Prod.mk.injEq] at hq
  have hc := one_cells v h1
  have hd := one_cells u h2
  refine wp_buildSlice t e 2 #[(0, x), (1, y)] ho #[v, u] ie z hu hi hq.1 (by rw [hq.2]; decide) (by rw [hq.2]; decide) ?_ h
  rw [hq.2]
  have hf := Great.fill_whole (s := 1) (by omega) [v, u] ((Array.range (2 * 1)).map (z.cells[· % z.cells.size]!)) (fun y hy => by simp at hy; rcases hy with rfl | rfl <;> simp [hc, hd]) (by simp)
  simpa [hx, hy, hc, hd] using hf

/-- What an operation leaves. -/
inductive Fact where
  | val (v : Value)
  | cell (x : Value)
  | texts (P : List ByteArray)
  | fresh (lo : Nat) (c : Array Value) (t : TypeId)
def Fact.holds : Fact → Value → World → Prop
  | .val v0, v, _ => v = v0
  | .cell x, v, w => ∃ g, v = .slice (some ⟨g, 0, none⟩) 1 1 ∧ w.cell? ⟨g, 0, none⟩ = some x
  | .texts P, v, w => ∃ g, v = .slice (some ⟨g, 0, none⟩) P.length P.length ∧ Texts w (.slice (some ⟨g, 0, none⟩) P.length P.length) P
  | .fresh lo c t, v, w => ∃ g, v = .pointer (some ⟨g, 0, none⟩) ∧ lo ≤ g ∧ w.heap[g]? = some (.cells c t (0, 0))
theorem Fact.kept (f : Fact) (v : Value) (w w' : World) (h : f.holds v w) (hb : Below w.heap.size w w') : f.holds v w' := by
  cases f with
  | val v0 => exact h
  | cell x =>
    obtain ⟨g, hv, hc⟩ := h
    exact ⟨g, hv, (hb.cell (World.block_lt_of_cell? _ _ hc)).trans hc⟩
  | texts P =>
    obtain ⟨g, hv, hr⟩ := h
    exact ⟨g, hv, hr.kept hb⟩
  | fresh lo c t =>
    obtain ⟨g, hv, hl, hr⟩ := h
    exact ⟨g, hv, hl, (hb.block g ((Array.getElem?_eq_some_iff.1 hr).1)).trans hr⟩
theorem wp_runTo {P : Program} {o : Oper} {a : Act} {w : World} {K : Act → World → Prop} {Q : Exit → Act → World → Prop} (v : Value) (w' : World) (h : (execOp a.eval o).run P w = .ok (.value v) w') (hk : K (a.put o.dst v) w') : o.wp P a w K Q := by
  unfold Oper.wp
  rw [h]
  exact hk

theorem infoS : (Try.prog.info? 9).map (fun i => (i.zero, i.size)) = some (some (.string ⟨#[]⟩), 1) := by kernel_rfl
theorem infoU : (Try.prog.info? 5).map (fun i => (i.zero, i.size)) = some (some (.int .u8 0), 1) := by kernel_rfl
theorem info77 : (Try.prog.info? 77).map (·.size) = some 2 := by kernel_rfl

theorem conv_one (w : World) (g : Nat) (j : Nat) (hj : j < 256) (h : w.cell? ⟨g, 0, none⟩ = some (.int .u8 j)) :
    (convert 56 9 (.slice (some ⟨g, 0, none⟩) 1 1)).run Try.prog w = .ok (.string ⟨[UInt8.ofNat j].toArray⟩) w :=
  conv_bytes w g 1 1 [UInt8.ofNat j] rfl fun i b hb => by
    match i, hb with
    | 0, hb =>
      simp at hb
      subst hb
      rw [h, UInt8.toNat_ofNat', Nat.mod_eq_of_lt hj]
    | i + 1, hb => simp at hb

def secRow (S0 S1 : ByteArray) (k : Nat) : Array Value := #[.string (if 0 < k then S0 else ⟨#[]⟩), .string (if 1 < k then S1 else ⟨#[]⟩)]
theorem secRow_set (S0 S1 R : ByteArray) (k : Nat) (hk : k < 2) (h : R = if k = 0 then S0 else S1) : (secRow S0 S1 k).setIfInBounds k (.string R) = secRow S0 S1 (k + 1) := by
  have : k = 0 ∨ k = 1 := by omega
  rcases this with rfl | rfl <;> (subst h; rfl)

set_option maxRecDepth 100000 in
set_option maxHeartbeats 1600000 in
theorem code_secrets (seed : List UInt8) (hs : seed.length = 32) (i : Nat) (hi : i < 16) (w : World) :
    Calls Try.prog 57 #[.agg (valsB seed).toArray, .int .i64 i] w fun e w' => e = .returned (.agg #[.string ⟨(secF seed (2 * i)).toArray⟩, .string ⟨(secF seed (2 * i + 1)).toArray⟩]) ∧ Below w.heap.size w w' := by
  have HBY := Lib.hid (fun w => code_bytes seed hs w)
  have HSUM := Lib.hid (fun (g : Nat) (j : Nat) (w : World) (h : Texts w (.slice (some ⟨g, 0, none⟩) 2 2) [⟨seed.toArray⟩, ⟨[UInt8.ofNat j].toArray⟩]) => code_sum1 secretT (some ⟨g, 0, none⟩) 2 2 [⟨seed.toArray⟩, ⟨[UInt8.ofNat j].toArray⟩] w h (by decide) (by simp) (by simp [size_of seed 32 hs, size_of [UInt8.ofNat j] 1 rfl]))
  have HRC := Lib.hid (row32 seed hs)
  obtain ⟨C, hC⟩ : ∃ C, (valsB seed).toArray = C := ⟨_, rfl⟩
  rw [hC] at HBY HRC
  rw [hC]
  obtain ⟨S, hS⟩ : ∃ S : ByteArray, (⟨seed.toArray⟩ : ByteArray) = S := ⟨_, rfl⟩
  rw [hS] at HBY
  simp only [hS] at HSUM
  obtain ⟨S0, hS0⟩ : ∃ S0 : ByteArray, (⟨(secF seed (2 * i)).toArray⟩ : ByteArray) = S0 := ⟨_, rfl⟩
  obtain ⟨S1, hS1⟩ : ∃ S1 : ByteArray, (⟨(secF seed (2 * i + 1)).toArray⟩ : ByteArray) = S1 := ⟨_, rfl⟩
  have HSEC := Lib.hid (fun (k : Nat) (hk : k < 2) => (show (⟨(ofT secretT [S, ⟨[UInt8.ofNat (2 * i + k)].toArray⟩]).toArray⟩ : ByteArray) = if k = 0 then S0 else S1 by
    have : k = 0 ∨ k = 1 := by omega
    rcases this with rfl | rfl
    · rw [if_pos rfl, ← hS0, ← hS]; rfl
    · rw [if_neg (by decide), ← hS1, ← hS]; rfl))
  rw [hS0, hS1]
  clear hC hS hS0 hS1
  go_enter Try.func57, Try.ntmps57
  go_upto_region 1 with (fail)
  have hs0 : ((w.alloc (.cells C 23)).alloc (.cells (secRow S0 S1 0) 77)).heap.size = w.heap.size + 2 := by simp
  have HG0 := Lib.hid (heap_alloc2_old w (.cells C 23) (.cells (secRow S0 S1 0) 77))
  have HG1 := Lib.hid (heap_alloc2_new w (.cells C 23) (.cells (secRow S0 S1 0) 77))
  have HBW := Lib.hid (show Below w.heap.size w ((w.alloc (.cells C 23)).alloc (.cells (secRow S0 S1 0) 77)) from ((Below.refl _ _).alloc (Nat.le_refl _) _).alloc (by simp) _)
  have HS0 := Lib.hid hs0
  clear hs0
  have e0 : (w.alloc (.cells C 23)).alloc (.cells #[.string ⟨#[]⟩, .string ⟨#[]⟩] 77) = (w.alloc (.cells C 23)).alloc (.cells (secRow S0 S1 0) 77) := rfl
  rw [e0]
  clear e0
  generalize (w.alloc (.cells C 23)).alloc (.cells (secRow S0 S1 0) 77) = W at HG0 HG1 HBW HS0 ⊢
  obtain ⟨g0, hg0⟩ : ∃ g, w.heap.size = g := ⟨_, rfl⟩
  obtain ⟨g1, hg1⟩ : ∃ g, g0 + 1 = g := ⟨_, rfl⟩
  rw [hg0] at HG0 HG1 HBW HS0
  rw [hg1] at HG1
  rw [hg0, hg1]
  have HGE := Lib.hid (show g0 < g1 ∧ g1 < W.heap.size by rw [HS0.out]; omega)
  have HW0 := Lib.hid hg0
  clear hg0 hg1 HS0
  go_wp2_with fail
  go_loopw [6] (fun iv wr => ∃ k : Nat, k ≤ 2 ∧ iv = .int .i64 k ∧ wr.heap[g0]? = some (.cells C 23 (0, 0)) ∧ wr.heap[g1]? = some (.cells (secRow S0 S1 k) 77 (0, 0)) ∧ Below g0 w wr ∧ g1 < wr.heap.size) (fun iv _ => 2 - (intOf iv).toNat)
  case atStart => exact ⟨0, by omega, rfl, HG0.out, HG1.out, HBW.out, HGE.out.2⟩
  case round =>
    obtain ⟨k, hk, rfl, hc0, hc1, hbel, hlt⟩ := hrel
    have H0 := Lib.hid hc0
    have H1 := Lib.hid hc1
    have HBEL := Lib.hid hbel
    have HLT := Lib.hid hlt
    clear hc0 hc1 hbel hlt
    by_cases hk2 : k < 2
    · obtain ⟨j, hj⟩ : ∃ j, 2 * i + k = j := ⟨_, rfl⟩
      have hj32 : j < 32 := by omega
      have HR := HSEC.out k hk2
      rw [hj] at HR
      have HSJ := Lib.hid (fun g w h => HSUM.out g j w h)
      have HCV := Lib.hid (fun w g h => conv_one w g j (by omega) h)
      obtain ⟨J, hJ⟩ : ∃ J : ByteArray, (⟨[UInt8.ofNat j].toArray⟩ : ByteArray) = J := ⟨_, rfl⟩
      simp only [hJ] at HSJ HCV
      rw [hJ] at HR
      obtain ⟨R, hR⟩ : ∃ R : ByteArray, (⟨(ofT secretT [S, J]).toArray⟩ : ByteArray) = R := ⟨_, rfl⟩
      simp only [hR] at HSJ
      rw [hR] at HR
      have HROW := Lib.hid (secRow_set S0 S1 R k hk2 HR)
      have hji : (2 : Int) * (i : Int) + (k : Int) = (j : Int) := by omega
      have hk0 : (0 : Int) ≤ (k : Int) := by omega
      have hki : (k : Int) < 2 := by omega
      have hw8 : IntKind.u8.wrap (j : Int) = (j : Int) := by unfold IntKind.wrap; simp [IntKind.bits, IntKind.signed]; omega
      have hwj : IntKind.i64.wrap (j : Int) = (j : Int) := by unfold IntKind.wrap; simp [IntKind.bits, IntKind.signed]; omega
      clear hJ hR HR hj
      obtain ⟨i2, hi2⟩ : ∃ x, 2 * i = x := ⟨_, rfl⟩
      have hi2i : (2 : Int) * (i : Int) = (i2 : Int) := by omega
      have hij : (i2 : Int) + (k : Int) = (j : Int) := by omega
      have hw2 : IntKind.i64.wrap (i2 : Int) = (i2 : Int) := by unfold IntKind.wrap; simp [IntKind.bits, IntKind.signed]; omega
      clear hi2
      go_wp2_with fail
      refine QT.wp_region_facts_tail 12 (by kernel_rfl) (fun w' => Below wr.heap.size wr w') (fun n v w' => (([.val (.int .i64 k), .val (.agg C), .val (.string S), .val (.int .i64 i), .val (.int .i64 i2), .val (.int .i64 k), .val (.int .i64 j), .val (.int .u8 j), .cell (.int .u8 j), .val (.string J), .texts [S, J], .val (.string R)] : List Fact).getD n (.val undef) : Fact).holds v w') (by kernel_rfl) (by kernel_rfl) (Below.refl _ _).drew (fun w1 w2 h1 hb => h1.trans (hb.mono h1.size)) (fun n v w1 w2 h hb => Fact.kept _ v w1 w2 h hb) (fun n o hn ho a w hI hag hdep => ?_) (fun a wz hI hag hf => ?_)
      · have t1 : a.eval (.tmp 1) = .int .i64 i := hag.old 1 _ (by kernel_rfl) rfl
        have t2 : a.eval (.tmp 2) = .pointer (some ⟨g0, 0, none⟩) := hag.old 2 _ (by kernel_rfl) rfl
        have t5 : a.eval (.tmp 5) = .int .i64 k := hag.old 5 _ (by kernel_rfl) rfl
        match n, ho with
        | 0, ho =>
          obtain rfl := (Option.some.inj ho).symm
          exact ⟨rfl, QT.wp_value (BigFrame.run_move (.tmp 5) rfl w) ⟨_, rfl, t5, Below.refl _ _⟩⟩
        | 1, ho =>
          obtain rfl := (Option.some.inj ho).symm
          exact ⟨rfl, wp_load_row 23 (.tmp 2) rfl g0 t2 23 C (0, 0) _ ((hI.block g0 (Nat.lt_trans HGE.out.1 HLT.out)).trans H0.out) Try.underlying23 rfl HRC.out.info ⟨_, rfl, rfl, Below.refl _ _⟩⟩
        | 2, ho =>
          obtain rfl := (Option.some.inj ho).symm
          have d : a.eval (.tmp 10) = .agg C := hdep _ (Array.mem_of_getElem? (i := 0) rfl) rfl _ _ rfl rfl
          exact ⟨rfl, QT.wp_enter (f := 14) (args := #[.agg C]) (by simp [go_sem, QT.nf d]) (HBY.out w) fun w' hb => ⟨_, rfl, rfl, hb⟩⟩
        | 3, ho =>
          obtain rfl := (Option.some.inj ho).symm
          exact ⟨rfl, QT.wp_value (BigFrame.run_move (.tmp 1) rfl w) ⟨_, rfl, t1, Below.refl _ _⟩⟩
        | 4, ho =>
          obtain rfl := (Option.some.inj ho).symm
          have d : a.eval (.tmp 12) = .int .i64 i := hdep _ (Array.mem_of_getElem? (i := 0) rfl) rfl _ _ rfl rfl
          exact ⟨rfl, QT.wp_value (v := .int .i64 i2) (by simp [go_sem, QT.nf d, hi2i, hw2]) ⟨_, rfl, rfl, Below.refl _ _⟩⟩
        | 5, ho =>
          obtain rfl := (Option.some.inj ho).symm
          exact ⟨rfl, QT.wp_value (BigFrame.run_move (.tmp 5) rfl w) ⟨_, rfl, t5, Below.refl _ _⟩⟩
        | 6, ho =>
          obtain rfl := (Option.some.inj ho).symm
          have d : a.eval (.tmp 13) = .int .i64 i2 := hdep _ (Array.mem_of_getElem? (i := 0) rfl) rfl _ _ rfl rfl
          have d2 : a.eval (.tmp 14) = .int .i64 k := hdep _ (Array.mem_of_getElem? (i := 1) rfl) rfl _ _ rfl rfl
          exact ⟨rfl, QT.wp_value (v := .int .i64 j) (by simp [go_sem, QT.nf d, QT.nf d2, hij, hwj]) ⟨_, rfl, rfl, Below.refl _ _⟩⟩
        | 7, ho =>
          obtain rfl := (Option.some.inj ho).symm
          have d : a.eval (.tmp 15) = .int .i64 j := hdep _ (Array.mem_of_getElem? (i := 0) rfl) rfl _ _ rfl rfl
          exact ⟨rfl, QT.wp_value (v := .int .u8 j) (by simp [go_sem, QT.nf d, hw8]) ⟨_, rfl, rfl, Below.refl _ _⟩⟩
        | 8, ho =>
          obtain rfl := (Option.some.inj ho).symm
          have d : a.eval (.tmp 16) = .int .u8 j := hdep _ (Array.mem_of_getElem? (i := 0) rfl) rfl _ _ rfl rfl
          exact ⟨rfl, wp_slice1 56 5 (.tmp 16) rfl _ Try.underlying56 infoU _ d rfl ⟨_, rfl, ⟨_, rfl, by simp⟩, (Below.refl _ _).alloc (Nat.le_refl _) _⟩⟩
        | 9, ho =>
          obtain rfl := (Option.some.inj ho).symm
          obtain ⟨g, d, hc⟩ : ∃ g, a.eval (.tmp 17) = .slice (some ⟨g, 0, none⟩) 1 1 ∧ w.cell? ⟨g, 0, none⟩ = some (.int .u8 j) := hdep _ (Array.mem_of_getElem? (i := 0) rfl) rfl _ _ rfl rfl
          exact ⟨rfl, QT.wp_value (v := .string J) (by have := HCV.out w g hc; simp [go_sem, QT.nf d, this]) ⟨_, rfl, rfl, Below.refl _ _⟩⟩
        | 10, ho =>
          obtain rfl := (Option.some.inj ho).symm
          have d : a.eval (.tmp 11) = .string S := hdep _ (Array.mem_of_getElem? (i := 0) rfl) rfl _ _ rfl rfl
          have d2 : a.eval (.tmp 18) = .string J := hdep _ (Array.mem_of_getElem? (i := 1) rfl) rfl _ _ rfl rfl
          exact ⟨rfl, wp_slice2 54 9 (.tmp 11) (.tmp 18) rfl _ Try.underlying54 infoS _ _ d d2 rfl rfl ⟨_, rfl, ⟨_, rfl, texts_two w S J⟩, (Below.refl _ _).alloc (Nat.le_refl _) _⟩⟩
        | 11, ho =>
          obtain rfl := (Option.some.inj ho).symm
          obtain ⟨g, d, hT⟩ : ∃ g, a.eval (.tmp 19) = .slice (some ⟨g, 0, none⟩) 2 2 ∧ Texts w (.slice (some ⟨g, 0, none⟩) 2 2) [S, J] := hdep _ (Array.mem_of_getElem? (i := 0) rfl) rfl _ _ rfl rfl
          exact ⟨rfl, QT.wp_enter (f := 75) (args := #[.string secretT, .slice (some ⟨g, 0, none⟩) 2 2]) (by simp [go_sem, QT.nf d]) (HSJ.out g w hT) fun w' hb => ⟨_, rfl, rfl, hb⟩⟩
        | n + 12, ho => omega
      · obtain ⟨gu, f8, _⟩ : ∃ g, a.eval (.tmp 17) = .slice (some ⟨g, 0, none⟩) 1 1 ∧ wz.cell? ⟨g, 0, none⟩ = some (.int .u8 j) := hf 8 _ _ (by omega) rfl rfl
        obtain ⟨gt, f10, _⟩ : ∃ g, a.eval (.tmp 19) = .slice (some ⟨g, 0, none⟩) 2 2 ∧ Texts wz (.slice (some ⟨g, 0, none⟩) 2 2) [S, J] := hf 10 _ _ (by omega) rfl rfl
        have f0 : a.eval (.tmp 9) = .int .i64 k := hf 0 _ _ (by omega) rfl rfl
        have f1 : a.eval (.tmp 10) = .agg C := hf 1 _ _ (by omega) rfl rfl
        have f2 : a.eval (.tmp 11) = .string S := hf 2 _ _ (by omega) rfl rfl
        have f3 : a.eval (.tmp 12) = .int .i64 i := hf 3 _ _ (by omega) rfl rfl
        have f4 : a.eval (.tmp 13) = .int .i64 i2 := hf 4 _ _ (by omega) rfl rfl
        have f5 : a.eval (.tmp 14) = .int .i64 k := hf 5 _ _ (by omega) rfl rfl
        have f6 : a.eval (.tmp 15) = .int .i64 j := hf 6 _ _ (by omega) rfl rfl
        have f7 : a.eval (.tmp 16) = .int .u8 j := hf 7 _ _ (by omega) rfl rfl
        have f9 : a.eval (.tmp 18) = .string J := hf 9 _ _ (by omega) rfl rfl
        have f11 : a.eval (.tmp 20) = .string R := hf 11 _ _ (by omega) rfl rfl
        have ha := hag.puts [(9, .int .i64 k), (10, .agg C), (11, .string S), (12, .int .i64 i), (13, .int .i64 i2), (14, .int .i64 k), (15, .int .i64 j), (16, .int .u8 j), (17, .slice (some ⟨gu, 0, none⟩) 1 1), (18, .string J), (19, .slice (some ⟨gt, 0, none⟩) 2 2), (20, .string R)] rfl (by simp) (by simp only [List.forall_mem_cons, List.not_mem_nil, false_implies, implies_true, and_true]; exact ⟨f0, f1, f2, f3, f4, f5, f6, f7, f8, f9, f10, f11⟩)
        subst ha
        clear hag hf f0 f1 f2 f3 f4 f5 f6 f7 f8 f9 f10 f11
        simp only [List.foldl_cons, List.foldl_nil, Act.put]
        have hz1 := (hI.block g1 HLT.out).trans H1.out
        have hz0 := (hI.block g0 (Nat.lt_trans HGE.out.1 HLT.out)).trans H0.out
        obtain ⟨old, hold⟩ : ∃ v, (secRow S0 S1 k)[k]? = some v := by
          have : k = 0 ∨ k = 1 := by omega
          rcases this with rfl | rfl <;> exact ⟨_, rfl⟩
        have hzc : wz.cell? ⟨g1, k, none⟩ = some old := by rw [Lib.cell_of_heap hz1]; exact hold
        have hzf : wz.frozen? ⟨g1, k, none⟩ = false := Lib.frozen_of_heap hz1 k
        have HSET := Lib.hid (setCell_eq_setRow wz g1 k _ _ _ (.string R) hz1)
        rw [HROW.out] at HSET
        have HZ0 := Lib.hid hz0
        have HZ1 := Lib.hid hz1
        have HI := Lib.hid hI
        have HZS := Lib.hid (Nat.lt_of_lt_of_le HLT.out hI.size)
        clear hz0 hz1 hold hI
        go_wp2_with fail
        go_roundw
        case rel =>
          refine ⟨k + 1, by omega, by go_num, ?_, ?_, (HBEL.out.trans (HI.out.mono (Nat.le_of_lt (Nat.lt_trans HGE.out.1 HLT.out)))).setCell (p := ⟨g1, k, none⟩) (Nat.le_of_lt HGE.out.1) _, ?_⟩
          · rw [HSET.out, setRow_other _ _ _ _ (Nat.ne_of_lt HGE.out.1)]
            exact HZ0.out
          · rw [HSET.out]
            exact setRow_heap _ _ _ _ _ _ HZ1.out
          · rw [HSET.out, setRow_size]
            exact HZS.out
        case measure => simp [intOf]; omega
    · obtain rfl : k = 2 := by omega
      obtain ⟨D, hD⟩ : ∃ D, secRow S0 S1 2 = D := ⟨_, rfl⟩
      have HD := Lib.hid (show D = #[.string S0, .string S1] by rw [← hD]; rfl)
      have HDS := Lib.hid (show D.size = 2 by rw [HD.out]; rfl)
      have HDA := Lib.hid (show D.all (·.oneCell') = true by rw [HD.out]; simp [Value.oneCell'])
      have HDI := Lib.hid (show (Try.prog.info? 77).map (·.size) = some D.size by rw [HDS.out]; exact info77)
      rw [hD] at H1
      have HSELF := Lib.hid (setRow_self wr g1 D 77 (0, 0) H1.out)
      clear hD
      go_wp2_with (first
        | (refine wpList_load_row rfl 77 (.tmp 4) rfl g1 rfl 77 D (0, 0) _ H1.out Try.underlying77 rfl HDI.out ?_)
        | (refine wpList_store_row rfl 77 (.tmp 4) (.tmp 23) rfl g1 D rfl rfl 77 D H1.out HDI.out rfl HDA.out ?_; rw [HSELF.out]))
      refine bodyPost_ret (results_cell_row (p := 4) (ty := 77) Try.results57 _ _ g1 77 D (0, 0) _ rfl H1.out Try.underlying77 rfl HDI.out) rfl ⟨by rw [HD.out], HBEL.out.mono (Nat.le_of_eq HW0.out)⟩

end Go.Proofs.Ytlalipomphgcoaa.Once
