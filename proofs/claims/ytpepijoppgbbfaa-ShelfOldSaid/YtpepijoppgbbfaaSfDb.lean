/- shelf: joined: a new node over two trees. -/
import Derived.Test.YtpepijoppgbbfaaSfDa
namespace Go.Proofs.Ytpepijoppgbbfaa.Shf
open Go.RowKit Go.Proofs.Ytpepijoppgbbfaa.Gr

theorem wp_boxT {P : Program} {o : Oper} {a : Act} {w : World} {K : Act → World → Prop} {Q : Exit → Act → World → Prop} (t : TypeId) (x : Operand) (ho : o.op = .box t x) (cells : Array Value) (hx : (a.eval x).cells = cells)
    (h : K (a.put o.dst (.pointer (some ⟨w.heap.size, 0, none⟩))) (w.alloc (.cells cells t))) : o.wp P a w K Q := by
  subst hx
  unfold Oper.wp execOp
  simp only [ho, Sem.run_bind, Instr.box, newVar, newRow, run_newObj_alloc, Sem.run_pure, Result.andThen_ok]
  exact h
/-- A new block that holds a node. -/
theorem IsTr.new {w : World} {pl pr : Option Addr} {L R : Tr} (k : ByteArray) (z : Nat) (hL : IsTr w.heap.size w pl L) (hR : IsTr w.heap.size w pr R) :
    IsTr (w.alloc (.cells #[.string k, .int .u64 z, .pointer pl, .pointer pr, .int .i64 ((L.many : Int) + (R.many : Int) + 1)] 59)).heap.size (w.alloc (.cells #[.string k, .int .u64 z, .pointer pl, .pointer pr, .int .i64 ((L.many : Int) + (R.many : Int) + 1)] 59)) (some ⟨w.heap.size, 0, none⟩) (.node k z L R) :=
  have hb : Below w.heap.size w (w.alloc (.cells #[.string k, .int .u64 z, .pointer pl, .pointer pr, .int .i64 ((L.many : Int) + (R.many : Int) + 1)] 59)) := (Below.refl _ _).alloc (Nat.le_refl _) _
  ⟨w.heap.size, pl, pr, rfl, by simp, heap_alloc_new _ _, hL.go hb, hR.go hb⟩

/-- A block that holds a node's key and thing (and whatever beside). -/
structure NodeAt (w : World) (g : Nat) (k : ByteArray) (z : Nat) (a b c : Value) : Prop where
  cells : w.heap[g]? = some (.cells #[.string k, .int .u64 z, a, b, c] 59 (0, 0))
theorem NodeAt.lt {w : World} {g : Nat} {k : ByteArray} {z : Nat} {a b c : Value} (h : NodeAt w g k z a b c) : g < w.heap.size := (Array.getElem?_eq_some_iff.1 h.cells).1
theorem NodeAt.go {w w' : World} {g : Nat} {k : ByteArray} {z : Nat} {a b c : Value} (h : NodeAt w g k z a b c) (hb : Below w.heap.size w w') : NodeAt w' g k z a b c := ⟨(hb.block g h.lt).trans h.cells⟩

/-- A tree with anything in it is a node. -/
theorem TreeOf.node {w : World} {p : Option Addr} {l : List Th} (h : TreeOf w p l) (hl : l ≠ []) :
    ∃ (g : Nat) (a b : Option Addr) (k : ByteArray) (z : Nat) (la lb : List Th) (m : Value), p = some ⟨g, 0, none⟩ ∧ NodeAt w g k z (.pointer a) (.pointer b) m ∧ TreeOf w a la ∧ TreeOf w b lb ∧ l = la ++ (k, z) :: lb := by
  obtain ⟨T, hT, rfl⟩ := h
  cases T with
  | leaf => exact absurd rfl hl
  | node k z lo hi =>
    obtain ⟨g, a, b, rfl, _, hc, h1, h2⟩ := hT
    exact ⟨g, a, b, k, z, lo.list, hi.list, _, rfl, ⟨hc⟩, ⟨lo, h1, rfl⟩, ⟨hi, h2, rfl⟩, rfl⟩

set_option maxRecDepth 100000 in
set_option maxHeartbeats 3200000 in
attribute [local irreducible] Go.wpQuiet in
theorem code_joined (pl pr : Option Addr) (l r : List Th) (g : Nat) (k : ByteArray) (z : Nat) (x y u : Value) (w : World) (hl : TreeOf w pl l) (hr : TreeOf w pr r) (hg : NodeAt w g k z x y u) (hn : l.length + r.length ≤ 50000000000) :
    Calls Try.prog 31 #[.pointer pl, .pointer (some ⟨g, 0, none⟩), .pointer pr] w fun e w' => ∃ v, e = .returned v ∧ (FactN.tree (l ++ (k, z) :: r)).holds v w' ∧ Below w.heap.size w w' := by
  obtain ⟨L, hL, rfl⟩ := hl
  obtain ⟨R, hR, rfl⟩ := hr
  rw [show L.list.length = L.many from rfl, show R.list.length = R.many from rfl] at hn
  obtain ⟨na, ha⟩ : ∃ a : Int, (L.many : Int) + 1 = a := ⟨_, rfl⟩
  obtain ⟨nb, hb⟩ : ∃ a : Int, (R.many : Int) + 1 = a := ⟨_, rfl⟩
  obtain ⟨ns, hs⟩ : ∃ s : Int, na + nb = s := ⟨_, rfl⟩
  obtain ⟨nm, hm⟩ : ∃ m : Int, ns - 1 = m := ⟨_, rfl⟩
  have HWL := Lib.hid (fun (wz : World) (hI : Below w.heap.size w wz) => code_weight pl L.list wz ⟨L, hL.below hI hI.size, rfl⟩ (by simp only [Tr.many] at hn; omega))
  have HWR := Lib.hid (fun (wz : World) (hI : Below w.heap.size w wz) => code_weight pr R.list wz ⟨R, hR.below hI hI.size, rfl⟩ (by simp only [Tr.many] at hn; omega))
  rw [show L.list.length = L.many from rfl, ha] at HWL
  rw [show R.list.length = R.many from rfl, hb] at HWR
  have hwa : IntKind.i64.wrap (na + nb) = ns := by rw [wrap_in _ (by omega) (by omega)]; exact hs
  have hwb : IntKind.i64.wrap (ns - 1) = nm := by rw [wrap_in _ (by omega) (by omega)]; exact hm
  have HWA := Lib.hid hwa
  have HWB := Lib.hid hwb
  have HLL := Lib.hid (fun (wz : World) (hI : Below w.heap.size w wz) => hL.below hI hI.size)
  have HRR := Lib.hid (fun (wz : World) (hI : Below w.heap.size w wz) => hR.below hI hI.size)
  have Hg := Lib.hid hg.cells
  have Lg := Lib.hid hg.lt
  have HM := Lib.hid (show nm = (L.many : Int) + (R.many : Int) + 1 by omega)
  clear hL hR hg hwa hwb ha hb hs hm hn
  go_enter Try.func31, Try.ntmps31
  go_upto_region 1 with (fail)
  refine QT.wp_region_facts (by kernel_rfl) (fun w' => Below w.heap.size w w') (fun n v w' => (([.val (.pointer (some ⟨g, 0, none⟩)), .val (.pointer (some ⟨g, 0, none⟩)), .val (.pointer (some ⟨g, 0, none⟩)), .val (.string k), .val (.pointer (some ⟨g, 0, none⟩)), .val (.pointer (some ⟨g, 0, none⟩)), .val (.pointer (some ⟨g, 1, none⟩)), .val (.int .u64 z), .val (.pointer pl), .val (.pointer pr), .val (.pointer pl), .val (.int .i64 na), .val (.pointer pr), .val (.int .i64 nb), .val (.int .i64 ns), .val (.int .i64 nm), .val (.agg #[.string k, .int .u64 z, .pointer pl, .pointer pr, .int .i64 nm]), .tree (L.list ++ (k, z) :: R.list), .tree (L.list ++ (k, z) :: R.list)] : List FactN).getD n (.val undef) : FactN).holds v w') (by kernel_rfl) (by kernel_rfl) (Below.refl _ _).drew (fun w1 w2 h1 hb => h1.trans (hb.mono h1.size)) (fun n v w1 w2 h hb => FactN.kept _ v w1 w2 h hb) (fun n o ho a wz hI hag hdep => ?_) (fun a wz hI hag hf => ?_)
  · have t0 : a.eval (.tmp 0) = .pointer pl := hag.old 0 _ (by kernel_rfl) rfl
    have t1 : a.eval (.tmp 1) = .pointer (some ⟨g, 0, none⟩) := hag.old 1 _ (by kernel_rfl) rfl
    have t2 : a.eval (.tmp 2) = .pointer pr := hag.old 2 _ (by kernel_rfl) rfl
    have c_g_0 : wz.cell? ⟨g, 0, none⟩ = some (.string k) := by rw [Lib.cell_of_heap ((hI.block g Lg.out).trans Hg.out)]; rfl
    have c_g_1 : wz.cell? ⟨g, 1, none⟩ = some (.int .u64 z) := by rw [Lib.cell_of_heap ((hI.block g Lg.out).trans Hg.out)]; rfl
    match n, ho with
    | 0, ho =>
      obtain rfl := (Option.some.inj ho).symm
      exact ⟨rfl, QT.wp_value (BigFrame.run_move (.tmp 1) rfl wz) ⟨_, rfl, t1, Below.refl _ _⟩⟩
    | 1, ho =>
      obtain rfl := (Option.some.inj ho).symm
      have d7 : a.eval (.tmp 7) = .pointer (some ⟨g, 0, none⟩) := hdep _ (Array.mem_of_getElem? (i := 0) rfl) rfl _ _ rfl rfl
      exact ⟨rfl, QT.wp_value (v := .pointer (some ⟨g, 0, none⟩)) (by simp [go_sem, QT.nf d7]) ⟨_, rfl, rfl, Below.refl _ _⟩⟩
    | 2, ho =>
      obtain rfl := (Option.some.inj ho).symm
      have d8 : a.eval (.tmp 8) = .pointer (some ⟨g, 0, none⟩) := hdep _ (Array.mem_of_getElem? (i := 0) rfl) rfl _ _ rfl rfl
      exact ⟨rfl, QT.wp_value (v := .pointer (some ⟨g, 0, none⟩)) (by simp [go_sem, QT.nf d8]) ⟨_, rfl, rfl, Below.refl _ _⟩⟩
    | 3, ho =>
      obtain rfl := (Option.some.inj ho).symm
      have d9 : a.eval (.tmp 9) = .pointer (some ⟨g, 0, none⟩) := hdep _ (Array.mem_of_getElem? (i := 0) rfl) rfl _ _ rfl rfl
      exact ⟨rfl, QT.wp_value (v := .string k) (by simp [go_sem, QT.nf d9, c_g_0]) ⟨_, rfl, rfl, Below.refl _ _⟩⟩
    | 4, ho =>
      obtain rfl := (Option.some.inj ho).symm
      exact ⟨rfl, QT.wp_value (BigFrame.run_move (.tmp 1) rfl wz) ⟨_, rfl, t1, Below.refl _ _⟩⟩
    | 5, ho =>
      obtain rfl := (Option.some.inj ho).symm
      have d11 : a.eval (.tmp 11) = .pointer (some ⟨g, 0, none⟩) := hdep _ (Array.mem_of_getElem? (i := 0) rfl) rfl _ _ rfl rfl
      exact ⟨rfl, QT.wp_value (v := .pointer (some ⟨g, 0, none⟩)) (by simp [go_sem, QT.nf d11]) ⟨_, rfl, rfl, Below.refl _ _⟩⟩
    | 6, ho =>
      obtain rfl := (Option.some.inj ho).symm
      have d12 : a.eval (.tmp 12) = .pointer (some ⟨g, 0, none⟩) := hdep _ (Array.mem_of_getElem? (i := 0) rfl) rfl _ _ rfl rfl
      exact ⟨rfl, QT.wp_value (v := .pointer (some ⟨g, 1, none⟩)) (by simp [go_sem, QT.nf d12]) ⟨_, rfl, rfl, Below.refl _ _⟩⟩
    | 7, ho =>
      obtain rfl := (Option.some.inj ho).symm
      have d13 : a.eval (.tmp 13) = .pointer (some ⟨g, 1, none⟩) := hdep _ (Array.mem_of_getElem? (i := 0) rfl) rfl _ _ rfl rfl
      exact ⟨rfl, QT.wp_value (v := .int .u64 z) (by simp [go_sem, QT.nf d13, c_g_1]) ⟨_, rfl, rfl, Below.refl _ _⟩⟩
    | 8, ho =>
      obtain rfl := (Option.some.inj ho).symm
      exact ⟨rfl, QT.wp_value (BigFrame.run_move (.tmp 0) rfl wz) ⟨_, rfl, t0, Below.refl _ _⟩⟩
    | 9, ho =>
      obtain rfl := (Option.some.inj ho).symm
      exact ⟨rfl, QT.wp_value (BigFrame.run_move (.tmp 2) rfl wz) ⟨_, rfl, t2, Below.refl _ _⟩⟩
    | 10, ho =>
      obtain rfl := (Option.some.inj ho).symm
      exact ⟨rfl, QT.wp_value (BigFrame.run_move (.tmp 0) rfl wz) ⟨_, rfl, t0, Below.refl _ _⟩⟩
    | 11, ho =>
      obtain rfl := (Option.some.inj ho).symm
      have d17 : a.eval (.tmp 17) = .pointer pl := hdep _ (Array.mem_of_getElem? (i := 0) rfl) rfl _ _ rfl rfl
      exact ⟨rfl, QT.wp_enter (f := 26) (args := #[.pointer pl]) (by simp [go_sem, QT.nf d17]) (HWL.out wz hI) fun w' hb => ⟨_, rfl, rfl, hb⟩⟩
    | 12, ho =>
      obtain rfl := (Option.some.inj ho).symm
      exact ⟨rfl, QT.wp_value (BigFrame.run_move (.tmp 2) rfl wz) ⟨_, rfl, t2, Below.refl _ _⟩⟩
    | 13, ho =>
      obtain rfl := (Option.some.inj ho).symm
      have d19 : a.eval (.tmp 19) = .pointer pr := hdep _ (Array.mem_of_getElem? (i := 0) rfl) rfl _ _ rfl rfl
      exact ⟨rfl, QT.wp_enter (f := 26) (args := #[.pointer pr]) (by simp [go_sem, QT.nf d19]) (HWR.out wz hI) fun w' hb => ⟨_, rfl, rfl, hb⟩⟩
    | 14, ho =>
      obtain rfl := (Option.some.inj ho).symm
      have d18 : a.eval (.tmp 18) = .int .i64 na := hdep _ (Array.mem_of_getElem? (i := 0) rfl) rfl _ _ rfl rfl
      have d20 : a.eval (.tmp 20) = .int .i64 nb := hdep _ (Array.mem_of_getElem? (i := 1) rfl) rfl _ _ rfl rfl
      exact ⟨rfl, QT.wp_value (v := .int .i64 ns) (by simp [go_sem, QT.nf d18, QT.nf d20, HWA.out]) ⟨_, rfl, rfl, Below.refl _ _⟩⟩
    | 15, ho =>
      obtain rfl := (Option.some.inj ho).symm
      have d21 : a.eval (.tmp 21) = .int .i64 ns := hdep _ (Array.mem_of_getElem? (i := 0) rfl) rfl _ _ rfl rfl
      exact ⟨rfl, QT.wp_value (v := .int .i64 nm) (by simp [go_sem, QT.nf d21, HWB.out]) ⟨_, rfl, rfl, Below.refl _ _⟩⟩
    | 16, ho =>
      obtain rfl := (Option.some.inj ho).symm
      have d10 : a.eval (.tmp 10) = .string k := hdep _ (Array.mem_of_getElem? (i := 0) rfl) rfl _ _ rfl rfl
      have d14 : a.eval (.tmp 14) = .int .u64 z := hdep _ (Array.mem_of_getElem? (i := 1) rfl) rfl _ _ rfl rfl
      have d15 : a.eval (.tmp 15) = .pointer pl := hdep _ (Array.mem_of_getElem? (i := 2) rfl) rfl _ _ rfl rfl
      have d16 : a.eval (.tmp 16) = .pointer pr := hdep _ (Array.mem_of_getElem? (i := 3) rfl) rfl _ _ rfl rfl
      have d22 : a.eval (.tmp 22) = .int .i64 nm := hdep _ (Array.mem_of_getElem? (i := 4) rfl) rfl _ _ rfl rfl
      exact ⟨rfl, QT.wp_value (v := .agg #[.string k, .int .u64 z, .pointer pl, .pointer pr, .int .i64 nm]) (by simp [go_sem, QT.nf d10, QT.nf d14, QT.nf d15, QT.nf d16, QT.nf d22]) ⟨_, rfl, rfl, Below.refl _ _⟩⟩
    | 17, ho =>
      obtain rfl := (Option.some.inj ho).symm
      have d23 : a.eval (.tmp 23) = .agg #[.string k, .int .u64 z, .pointer pl, .pointer pr, .int .i64 nm] := hdep _ (Array.mem_of_getElem? (i := 0) rfl) rfl _ _ rfl rfl
      refine ⟨rfl, wp_boxT 59 (.tmp 23) rfl #[.string k, .int .u64 z, .pointer pl, .pointer pr, .int .i64 nm] (by rw [d23]; rfl) ⟨_, rfl, ⟨_, rfl, .node k z L R, ?_, rfl⟩, (Below.refl _ _).alloc (Nat.le_refl _) _⟩⟩
      rw [HM.out]
      exact IsTr.new k z (HLL.out wz hI) (HRR.out wz hI)
    | 18, ho =>
      obtain rfl := (Option.some.inj ho).symm
      have d24 : ((.tree (L.list ++ (k, z) :: R.list)) : FactN).holds (a.eval (.tmp 24)) wz := hdep _ (Array.mem_of_getElem? (i := 0) rfl) rfl _ _ rfl rfl
      exact ⟨rfl, QT.wp_value (BigFrame.run_assign (.tmp 24) rfl wz) ⟨_, rfl, d24, Below.refl _ _⟩⟩
    | n + 19, ho => simp at ho
  · have f0 : a.eval (.tmp 7) = .pointer (some ⟨g, 0, none⟩) := hf 0 _ _ rfl rfl
    have f1 : a.eval (.tmp 8) = .pointer (some ⟨g, 0, none⟩) := hf 1 _ _ rfl rfl
    have f2 : a.eval (.tmp 9) = .pointer (some ⟨g, 0, none⟩) := hf 2 _ _ rfl rfl
    have f3 : a.eval (.tmp 10) = .string k := hf 3 _ _ rfl rfl
    have f4 : a.eval (.tmp 11) = .pointer (some ⟨g, 0, none⟩) := hf 4 _ _ rfl rfl
    have f5 : a.eval (.tmp 12) = .pointer (some ⟨g, 0, none⟩) := hf 5 _ _ rfl rfl
    have f6 : a.eval (.tmp 13) = .pointer (some ⟨g, 1, none⟩) := hf 6 _ _ rfl rfl
    have f7 : a.eval (.tmp 14) = .int .u64 z := hf 7 _ _ rfl rfl
    have f8 : a.eval (.tmp 15) = .pointer pl := hf 8 _ _ rfl rfl
    have f9 : a.eval (.tmp 16) = .pointer pr := hf 9 _ _ rfl rfl
    have f10 : a.eval (.tmp 17) = .pointer pl := hf 10 _ _ rfl rfl
    have f11 : a.eval (.tmp 18) = .int .i64 na := hf 11 _ _ rfl rfl
    have f12 : a.eval (.tmp 19) = .pointer pr := hf 12 _ _ rfl rfl
    have f13 : a.eval (.tmp 20) = .int .i64 nb := hf 13 _ _ rfl rfl
    have f14 : a.eval (.tmp 21) = .int .i64 ns := hf 14 _ _ rfl rfl
    have f15 : a.eval (.tmp 22) = .int .i64 nm := hf 15 _ _ rfl rfl
    have f16 : a.eval (.tmp 23) = .agg #[.string k, .int .u64 z, .pointer pl, .pointer pr, .int .i64 nm] := hf 16 _ _ rfl rfl
    obtain ⟨u17, f17, y17⟩ := hf 17 _ _ rfl rfl
    obtain ⟨u18, f18, y18⟩ := hf 18 _ _ rfl rfl
    have ha := hag.puts [(7, .pointer (some ⟨g, 0, none⟩)), (8, .pointer (some ⟨g, 0, none⟩)), (9, .pointer (some ⟨g, 0, none⟩)), (10, .string k), (11, .pointer (some ⟨g, 0, none⟩)), (12, .pointer (some ⟨g, 0, none⟩)), (13, .pointer (some ⟨g, 1, none⟩)), (14, .int .u64 z), (15, .pointer pl), (16, .pointer pr), (17, .pointer pl), (18, .int .i64 na), (19, .pointer pr), (20, .int .i64 nb), (21, .int .i64 ns), (22, .int .i64 nm), (23, .agg #[.string k, .int .u64 z, .pointer pl, .pointer pr, .int .i64 nm]), (24, .pointer u17), (6, .pointer u18)] rfl (by simp) (by simp only [List.forall_mem_cons, List.not_mem_nil, false_implies, implies_true, and_true]; exact ⟨f0, f1, f2, f3, f4, f5, f6, f7, f8, f9, f10, f11, f12, f13, f14, f15, f16, f17, f18⟩)
    subst ha
    clear hag hf f0 f1 f2 f3 f4 f5 f6 f7 f8 f9 f10 f11 f12 f13 f14 f15 f16 f17 f18
    simp only [List.foldl_cons, List.foldl_nil, Act.put, List.setIfInBounds_toArray, List.set_cons_succ, List.set_cons_zero]
    rename World => w1
    go_wp2_with fail
    go_ret
    exact ⟨_, rfl, ⟨_, rfl, y18⟩, hI⟩

end Go.Proofs.Ytpepijoppgbbfaa.Shf
