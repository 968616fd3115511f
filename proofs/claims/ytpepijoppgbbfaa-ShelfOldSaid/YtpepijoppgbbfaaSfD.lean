/- shelf: All. -/
import Derived.Test.YtpepijoppgbbfaaSfDi
import Derived.Laws.EntriesVeiled
namespace Go.Proofs.Ytpepijoppgbbfaa.Shf
open Go.RowKit Go.Shelf Go.Proofs.Ytpepijoppgbbfaa.Gr

/-- What a range over a shelf is handed. -/
def encT (x : Th) : Array Value := #[.string x.1, .int .u64 x.2]

theorem room_of_none {F : Fence} (hd : F.depth = none) (k : Nat) : F.room k := fun d h => by rw [hd] at h; cases h
/-- Where no depth is asked the figures are all one. -/
theorem YieldAt.anyDepth {F : Fence} (hd : F.depth = none) {m : Nat} (m' : Nat) {P : Program} {l : Nat} {args : Array Value} {W : World} {R : Ending → World → Prop} (h : YieldAt F m P l args W R) : YieldAt F m' P l args W R := by
  obtain ⟨fn, tmps, assign, body, hy, hR⟩ := h
  exact ⟨fn, tmps, assign, body, hy, hR.1, fun c cs _ => hR.2 c cs (room_of_none hd _)⟩

set_option maxRecDepth 100000 in
set_option maxHeartbeats 3200000 in
theorem all1_any (ly n₀ n₁ bs : Nat) (p : Option Addr) (T : Tr) (J Jx : List Th → World → Prop) (W : World) (hab : ∀ s (A B : World), J s A → A.grownBy B none → J s B)
    (hY : ∀ m pre (x : Th) W, J pre W → pre.length < T.list.length → YieldAt Fence.wide m Try.prog ly #[.string x.1, .int .u64 x.2] W fun e W' =>
      (e = .returned (.bool true) ∧ J (pre ++ [x]) W' ∧ KeepC n₀ n₁ W W') ∨ (e = .returned (.bool false) ∧ Jx (pre ++ [x]) W'))
    (hn : n₁ ≤ W.heap.size) (hT : IsTr n₀ W p T) (hn0 : n₀ ≤ W.heap.size) (hbs : W.heap[bs]? = some (.cells #[.pointer p] 24 (0, 0))) (hJ : J [] W) :
    Calls Try.prog 27 #[.func (.yield ly) #[] #[], .pointer (some ⟨bs, 0, none⟩)] W fun e W' => (∃ v, e = .returned v) ∧ ((∃ ys, ys = T.list ∧ J ys W') ∨ (∃ pre, pre <+: T.list ∧ Jx pre W')) := by
  have HG := Lib.hid (fun gw gy (hgw : n₁ ≤ gw) (hgy : n₁ ≤ gy) => goes_any ly n₀ n₁ T.list.length gw gy J Jx hab hgw hgy hY T p [])
  have HT := Lib.hid hT
  have HB := Lib.hid hbs
  have HJ := Lib.hid hJ
  have HN := Lib.hid hn
  clear hY hT hbs hJ hn
  go_enter Try.func27, Try.ntmps27
  go_upto_region 3 with (fail)
  obtain ⟨W3, hW3⟩ : ∃ X, (W.alloc (.cells #[.func (.yield ly) #[] #[]] 63)).alloc (.cells #[.func (.func 28) #[] #[.pointer (some ⟨W.heap.size + 1, 0, none⟩), .pointer (some ⟨W.heap.size, 0, none⟩)]] 64) = X := ⟨_, rfl⟩
  have hb3 : Below W.heap.size W W3 := by rw [← hW3]; exact ((Below.refl _ _).alloc (Nat.le_refl _) _).alloc (by simp) _
  have hj3 : J [] W3 := by rw [← hW3]; exact hab _ _ _ (hab _ _ _ HJ.out (World.grownBy_alloc W _ none)) (World.grownBy_alloc _ _ none)
  have h1 : W3.heap[W.heap.size]? = some (.cells #[.func (.yield ly) #[] #[]] 63 (0, 0)) := by
    rw [← hW3]
    exact heap_alloc2_old W _ _
  have h2 : W3.heap[W.heap.size + 1]? = some (.cells #[.func (.func 28) #[] #[.pointer (some ⟨W.heap.size + 1, 0, none⟩), .pointer (some ⟨W.heap.size, 0, none⟩)]] 64 (0, 0)) := by
    rw [← hW3]
    exact heap_alloc2_new W _ _
  rw [hW3]
  clear hW3
  have hn1 : n₁ ≤ W.heap.size + 1 := Nat.le_trans HN.out (Nat.le_succ _)
  have hn2 := HN.out
  have hT3 : IsTr n₀ W3 p T := HT.out.kept fun k hk cs t fr hc => (hb3.block k (Nat.lt_of_lt_of_le hk hn0)).trans hc
  have hbs3 := (hb3.block bs (Array.getElem?_eq_some_iff.1 HB.out).1).trans HB.out
  have cb : W3.cell? ⟨bs, 0, none⟩ = some (.pointer p) := by rw [Lib.cell_of_heap hbs3]; rfl
  generalize W.heap.size = gy at h1 h2 hn1 hn2 ⊢
  obtain ⟨gw, hgw⟩ : ∃ x, gy + 1 = x := ⟨_, rfl⟩
  rw [hgw] at h2 hn1 ⊢
  have cw : W3.cell? ⟨gw, 0, none⟩ = some (walkF gw gy) := by rw [Lib.cell_of_heap h2]; rfl
  unfold walkF at cw
  have HG2 := Lib.hid (HG.out gw gy hn1 hn2 W3 hT3 h2 h1 hj3 (by simp))
  clear h1 h2 hn1 hn2 hT3 hbs3 hb3 hj3 hgw HG hab hn0
  go_wp2_with fail
  refine HG2.out.mono ?_
  rintro e w4 (⟨rfl, hj, _⟩ | ⟨rfl, q, hq, hx⟩)
  · have HJ4 := Lib.hid hj
    clear hj
    go_wp2_with fail
    go_end0
    exact ⟨⟨_, rfl⟩, Or.inl ⟨_, rfl, HJ4.out⟩⟩
  · have HX := Lib.hid hx
    have HQ := Lib.hid hq
    clear hx hq
    go_wp2_with fail
    go_end0
    exact ⟨⟨_, rfl⟩, Or.inr ⟨q, HQ.out, HX.out⟩⟩

set_option maxRecDepth 100000 in
set_option maxHeartbeats 1600000 in
theorem code_AllS (S : Array Value) (l : List Th) (n₀ : Nat) (w : World) (hS : ShelfAt n₀ w S l) (hn : n₀ ≤ w.heap.size) :
    Calls Try.prog 21 #[.agg S] w fun e w' => ∃ f lb, e = .returned (.func (.func f) #[] lb) ∧ Below w.heap.size w w' ∧
      (∀ args W, (callFunc f args).run Try.prog W = .ok (.enter f args) W) ∧ ∀ n, SeqStopsK Fence.wide n Try.prog f lb encT (KeepC n₀ w.heap.size) (fun ys => ys = l) (fun pre => pre <+: l) l.length w' := by
  obtain ⟨p, T, rfl, hT, rfl, hs⟩ := hS
  have hb1 : Below w.heap.size w (w.alloc (.cells #[.pointer p] 24)) := (Below.refl _ _).alloc (Nat.le_refl _) _
  have h1 := heap_alloc_new w (.cells #[.pointer p] 24)
  have HB1 := Lib.hid hb1
  have H1 := Lib.hid h1
  have HT := Lib.hid hT
  have HN := Lib.hid hn
  clear hb1 h1 hT hn hs
  go_enter Try.func21, Try.ntmps21
  go_wp2_with fail
  go_ret
  refine ⟨_, _, rfl, HB1.out, enters_of Try.func27 (by kernel_rfl) rfl, fun n l J Jx W hW hJ _ hY h0 => ?_⟩
  have hbw := HB1.out.trans (hW.mono HB1.out.size)
  exact callsIn_wide.2 (all1_any l n₀ w.heap.size w.heap.size p T J Jx W (fun s A B h hg => hJ s A B none h hg (fun r e => by cases e)) (fun m pre x W hj hl => YieldAt.anyDepth rfl m (hY pre x W hj hl)) hbw.size
    (HT.out.kept fun k hk cs t fr hc => (hbw.block k (Nat.lt_of_lt_of_le hk HN.out)).trans hc) (Nat.le_trans HN.out hbw.size) ((hW.block w.heap.size (Array.getElem?_eq_some_iff.1 H1.out).1).trans H1.out) h0)

end Go.Proofs.Ytpepijoppgbbfaa.Shf
