/- shelf: All: a closure that calls itself. -/
import Derived.Test.YtpepijoppgbbfaaSfDh
import Derived.Test.YtpepijoppgbbfaaQPh
namespace Go.Proofs.Ytpepijoppgbbfaa.Shf
open Go.RowKit Go.Shelf Go.Proofs.Ytpepijoppgbbfaa.Gr

theorem wpIn_value {P : Program} {o : Oper} {a : Act} {w : World} {n : Nat} {K : Act → World → Prop} {Q : Exit → Act → World → Prop} {v : Value} (h : (execOp a.eval o).run P w = .ok (.value v) w) (hk : K (a.put o.dst v) w) : o.wpIn Fence.wide n P a w K Q :=
  ⟨fun _ _ => trivial, by
    show o.uponIn Fence.wide n P a K Q ((execOp a.eval o).run P w)
    rw [h]
    exact hk⟩
theorem wpIn_enter {P : Program} {o : Oper} {a : Act} {w : World} {n : Nat} {K : Act → World → Prop} {Q : Exit → Act → World → Prop} {f : FuncId} {args : Array Value} {R : Value → World → Prop} (h : (execOp a.eval o).run P w = .ok (.enter f args) w)
    (hc : CallsIn Fence.wide (n - 1) P f args w fun e w' => ∃ v, e = .returned v ∧ R v w') (hk : ∀ v w', R v w' → K (a.put o.dst v) w') : o.wpIn Fence.wide n P a w K Q :=
  ⟨fun _ _ => trivial, by
    show o.uponIn Fence.wide n P a K Q ((execOp a.eval o).run P w)
    rw [h]
    exact ⟨fun h => (by cases h), hc.mono fun e w' ⟨v, he, hr⟩ => by subst he; exact hk v w' hr⟩⟩
theorem wpIn_round {P : Program} {o : Oper} {a : Act} {w : World} {n : Nat} {K : Act → World → Prop} {Q : Exit → Act → World → Prop} {l : Nat} {fn : FuncId} {tmps : Array Value} {assign body : Code} {R : Value → World → Prop} (h : (execOp a.eval o).run P w = .ok (.round l fn tmps assign body) w)
    (hc : RoundIn Fence.wide (n - 1) P l fn tmps assign body w fun e w' => ∃ v, e = .returned v ∧ R v w') (hk : ∀ v w', R v w' → K (a.put o.dst v) w') : o.wpIn Fence.wide n P a w K Q :=
  ⟨fun _ _ => trivial, by
    show o.uponIn Fence.wide n P a K Q ((execOp a.eval o).run P w)
    rw [h]
    exact ⟨fun h => (by cases h), hc.mono fun e w' ⟨v, he, hr⟩ => by subst he; exact hk v w' hr⟩⟩

def ifT (x v : Value) : Value := match x with | .bool true => v | _ => undef
def andT (x y : Value) : Value := match x with | .bool true => y | _ => .bool false
theorem getD_snoc {r : List Value} {x : Value} {k : Nat} (h : k < r.length) : (r ++ [x]).getD k undef = r.getD k undef := by
  simp [List.getD_eq_getElem?_getD, List.getElem?_append_left h]
theorem getD_last {r : List Value} {x : Value} {k : Nat} (h : r.length = k) : (r ++ [x]).getD k undef = x := by
  subst h
  simp [List.getD_eq_getElem?_getD]

abbrev walkF (gw gy : Nat) : Value := .func (.func 28) #[] #[.pointer (some ⟨gw, 0, none⟩), .pointer (some ⟨gy, 0, none⟩)]

section
variable (J Jx : List Th → World → Prop) (pre lo hi : List Th) (x : Th) (n₀ n₁ : Nat) (W0 : World)
/-- What the calls of one node have come to. -/
def walkH : List Value → World → Prop
  | [], w => J pre w ∧ KeepC n₀ n₁ W0 w
  | [a], w => (a = .bool true ∧ J (pre ++ lo) w ∧ KeepC n₀ n₁ W0 w) ∨ (a = .bool false ∧ ∃ q, q <+: lo ∧ Jx (pre ++ q) w)
  | [a, b], w => (a = .bool true ∧ ((b = .bool true ∧ J (pre ++ lo ++ [x]) w ∧ KeepC n₀ n₁ W0 w) ∨ (b = .bool false ∧ Jx (pre ++ lo ++ [x]) w))) ∨ (a = .bool false ∧ b = undef ∧ ∃ q, q <+: lo ∧ Jx (pre ++ q) w)
  | [a, b, c], w => (a = .bool true ∧ b = .bool true ∧ ((c = .bool true ∧ J (pre ++ lo ++ [x] ++ hi) w ∧ KeepC n₀ n₁ W0 w) ∨ (c = .bool false ∧ ∃ q, q <+: hi ∧ Jx (pre ++ lo ++ [x] ++ q) w))) ∨
      (a = .bool true ∧ b = .bool false ∧ c = undef ∧ Jx (pre ++ lo ++ [x]) w) ∨ (a = .bool false ∧ b = undef ∧ c = undef ∧ ∃ q, q <+: lo ∧ Jx (pre ++ q) w)
  | _, _ => False
end

theorem ifT_yes (v : Value) : ifT (.bool true) v = v := rfl
theorem ifT_no {x : Value} (h : x ≠ .bool true) (v : Value) : ifT x v = undef := by
  unfold ifT
  split
  · exact absurd rfl h
  · rfl
theorem wanted_no {ops : Array Oper} {a : Act} {o og : Oper} {g : Nat} {b : Bool} {d : Tmp} {v : Value} (hg : o.guard = some (g, b)) (ho : ops[g]? = some og) (hd : og.dst = some d) (h : a.eval (.tmp d) = v) (hv : v ≠ .bool b) : Region.wanted o (yielded ops a.tmps) = false := by
  unfold Region.wanted
  rw [hg]
  simp only
  unfold yielded
  rw [ho]
  simp only [Option.bind_some, hd]
  unfold Act.eval at h
  cases ht : a.tmps[d]? with
  | none => rfl
  | some u =>
    simp [ht] at h
    subst h
    cases u <;> first | rfl | skip
    rename_i c
    cases c <;> cases b <;> first | rfl | exact absurd rfl hv
theorem one_of {r : List Value} (h : r.length = 1) : ∃ x, r = [x] := by
  match r, h with
  | [x], _ => exact ⟨x, rfl⟩
theorem two_of {r : List Value} (h : r.length = 2) : ∃ x y, r = [x, y] := by
  match r, h with
  | [x, y], _ => exact ⟨x, y, rfl⟩
theorem three_of {r : List Value} (h : r.length = 3) : ∃ x y z, r = [x, y, z] := by
  match r, h with
  | [x, y, z], _ => exact ⟨x, y, z, rfl⟩
theorem walkH_a {J Jx : List Th → World → Prop} {pre lo hi : List Th} {x : Th} {n₀ n₁ : Nat} {W0 w : World} {r : List Value} (h : walkH J Jx pre lo hi x n₀ n₁ W0 r w) (h1 : 1 ≤ r.length) : r.getD 0 undef = .bool true ∨ r.getD 0 undef = .bool false := by
  match r, h with
  | [a], h => exact h.elim (fun h => Or.inl h.1) (fun h => Or.inr h.1)
  | [a, b], h => exact h.elim (fun h => Or.inl h.1) (fun h => Or.inr h.1)
  | [a, b, c], h => exact h.elim (fun h => Or.inl h.1) (fun h => h.elim (fun h => Or.inl h.1) (fun h => Or.inr h.1))
theorem walkH_b {J Jx : List Th → World → Prop} {pre lo hi : List Th} {x : Th} {n₀ n₁ : Nat} {W0 w : World} {r : List Value} (h : walkH J Jx pre lo hi x n₀ n₁ W0 r w) (h1 : 2 ≤ r.length) (ha : r.getD 0 undef = .bool true) : r.getD 1 undef = .bool true ∨ r.getD 1 undef = .bool false := by
  match r, h with
  | [a, b], h => exact h.elim (fun h => h.2.elim (fun h => Or.inl h.1) (fun h => Or.inr h.1)) (fun h => by obtain ⟨rfl, _⟩ := h; cases ha)
  | [a, b, c], h => exact h.elim (fun h => Or.inl h.2.1) (fun h => h.elim (fun h => Or.inr h.2.1) (fun h => by obtain ⟨rfl, _⟩ := h; cases ha))
theorem walkH_c {J Jx : List Th → World → Prop} {pre lo hi : List Th} {x : Th} {n₀ n₁ : Nat} {W0 w : World} {r : List Value} (h : walkH J Jx pre lo hi x n₀ n₁ W0 r w) (h1 : 3 ≤ r.length) (ha : r.getD 0 undef = .bool true) (hb : r.getD 1 undef = .bool true) : r.getD 2 undef = .bool true ∨ r.getD 2 undef = .bool false := by
  match r, h with
  | [a, b, c], h => exact h.elim (fun h => h.2.2.elim (fun h => Or.inl h.1) (fun h => Or.inr h.1)) (fun h => h.elim (fun h => by obtain ⟨_, rfl, _⟩ := h; cases hb) (fun h => by obtain ⟨rfl, _⟩ := h; cases ha))

def walkV (g gw gy ly : Nat) (pl pr : Option Addr) (k : ByteArray) (z : Nat) : Nat → List Value → Value := fun i r => match i with | 0 => .pointer (some ⟨g, 0, none⟩) | 1 => .bool false | 2 => .bool false | 3 => walkF gw gy | 4 => .pointer (some ⟨g, 0, none⟩) | 5 => .pointer (some ⟨g, 0, none⟩) | 6 => .pointer (some ⟨g, 2, none⟩) | 7 => .pointer pl | 8 => r.getD 0 undef | 9 => r.getD 0 undef | 10 => ifT (r.getD 0 undef) (.func (.yield ly) #[] #[]) | 11 => ifT (r.getD 0 undef) (.pointer (some ⟨g, 0, none⟩)) | 12 => ifT (r.getD 0 undef) (.pointer (some ⟨g, 0, none⟩)) | 13 => ifT (r.getD 0 undef) (.pointer (some ⟨g, 0, none⟩)) | 14 => ifT (r.getD 0 undef) (.string k) | 15 => ifT (r.getD 0 undef) (.pointer (some ⟨g, 0, none⟩)) | 16 => ifT (r.getD 0 undef) (.pointer (some ⟨g, 0, none⟩)) | 17 => ifT (r.getD 0 undef) (.pointer (some ⟨g, 1, none⟩)) | 18 => ifT (r.getD 0 undef) (.int .u64 z) | 19 => r.getD 1 undef | 20 => andT (r.getD 0 undef) (r.getD 1 undef) | 21 => andT (r.getD 0 undef) (r.getD 1 undef) | 22 => ifT (andT (r.getD 0 undef) (r.getD 1 undef)) (walkF gw gy) | 23 => ifT (andT (r.getD 0 undef) (r.getD 1 undef)) (.pointer (some ⟨g, 0, none⟩)) | 24 => ifT (andT (r.getD 0 undef) (r.getD 1 undef)) (.pointer (some ⟨g, 0, none⟩)) | 25 => ifT (andT (r.getD 0 undef) (r.getD 1 undef)) (.pointer (some ⟨g, 3, none⟩)) | 26 => ifT (andT (r.getD 0 undef) (r.getD 1 undef)) (.pointer pr) | 27 => r.getD 2 undef | 28 => andT (andT (r.getD 0 undef) (r.getD 1 undef)) (r.getD 2 undef) | 29 => andT (andT (r.getD 0 undef) (r.getD 1 undef)) (r.getD 2 undef) | 30 => andT (andT (r.getD 0 undef) (r.getD 1 undef)) (r.getD 2 undef) | _ => undef
def walkC : Nat → Nat := fun i => ([0, 0, 0, 0, 0, 0, 0, 0, 1, 1, 1, 1, 1, 1, 1, 1, 1, 1, 1, 2, 2, 2, 2, 2, 2, 2, 2, 3, 3, 3, 3] : List Nat).getD i 0
def walkU : Nat → Nat := fun i => ([3, 3, 3, 0, 3, 3, 3, 0, 3, 3, 1, 3, 3, 3, 1, 3, 3, 3, 1, 3, 3, 3, 2, 3, 3, 3, 2, 3, 3, 3, 3] : List Nat).getD i 3
theorem walkV_snoc (g gw gy ly : Nat) (pl pr : Option Addr) (k : ByteArray) (z : Nat) (i : Nat) (r : List Value) (x : Value) (h : walkC i ≤ r.length) : walkV g gw gy ly pl pr k z i (r ++ [x]) = walkV g gw gy ly pl pr k z i r := by
  match i, h with
  | 0, _ => rfl
  | 1, _ => rfl
  | 2, _ => rfl
  | 3, _ => rfl
  | 4, _ => rfl
  | 5, _ => rfl
  | 6, _ => rfl
  | 7, _ => rfl
  | 8, h =>
    have h : 1 ≤ r.length := h
    simp only [walkV, getD_snoc (show 0 < r.length by omega)]
  | 9, h =>
    have h : 1 ≤ r.length := h
    simp only [walkV, getD_snoc (show 0 < r.length by omega)]
  | 10, h =>
    have h : 1 ≤ r.length := h
    simp only [walkV, getD_snoc (show 0 < r.length by omega)]
  | 11, h =>
    have h : 1 ≤ r.length := h
    simp only [walkV, getD_snoc (show 0 < r.length by omega)]
  | 12, h =>
    have h : 1 ≤ r.length := h
    simp only [walkV, getD_snoc (show 0 < r.length by omega)]
  | 13, h =>
    have h : 1 ≤ r.length := h
    simp only [walkV, getD_snoc (show 0 < r.length by omega)]
  | 14, h =>
    have h : 1 ≤ r.length := h
    simp only [walkV, getD_snoc (show 0 < r.length by omega)]
  | 15, h =>
    have h : 1 ≤ r.length := h
    simp only [walkV, getD_snoc (show 0 < r.length by omega)]
  | 16, h =>
    have h : 1 ≤ r.length := h
    simp only [walkV, getD_snoc (show 0 < r.length by omega)]
  | 17, h =>
    have h : 1 ≤ r.length := h
    simp only [walkV, getD_snoc (show 0 < r.length by omega)]
  | 18, h =>
    have h : 1 ≤ r.length := h
    simp only [walkV, getD_snoc (show 0 < r.length by omega)]
  | 19, h =>
    have h : 2 ≤ r.length := h
    simp only [walkV, getD_snoc (show 1 < r.length by omega)]
  | 20, h =>
    have h : 2 ≤ r.length := h
    simp only [walkV, getD_snoc (show 0 < r.length by omega), getD_snoc (show 1 < r.length by omega)]
  | 21, h =>
    have h : 2 ≤ r.length := h
    simp only [walkV, getD_snoc (show 0 < r.length by omega), getD_snoc (show 1 < r.length by omega)]
  | 22, h =>
    have h : 2 ≤ r.length := h
    simp only [walkV, getD_snoc (show 0 < r.length by omega), getD_snoc (show 1 < r.length by omega)]
  | 23, h =>
    have h : 2 ≤ r.length := h
    simp only [walkV, getD_snoc (show 0 < r.length by omega), getD_snoc (show 1 < r.length by omega)]
  | 24, h =>
    have h : 2 ≤ r.length := h
    simp only [walkV, getD_snoc (show 0 < r.length by omega), getD_snoc (show 1 < r.length by omega)]
  | 25, h =>
    have h : 2 ≤ r.length := h
    simp only [walkV, getD_snoc (show 0 < r.length by omega), getD_snoc (show 1 < r.length by omega)]
  | 26, h =>
    have h : 2 ≤ r.length := h
    simp only [walkV, getD_snoc (show 0 < r.length by omega), getD_snoc (show 1 < r.length by omega)]
  | 27, h =>
    have h : 3 ≤ r.length := h
    simp only [walkV, getD_snoc (show 2 < r.length by omega)]
  | 28, h =>
    have h : 3 ≤ r.length := h
    simp only [walkV, getD_snoc (show 0 < r.length by omega), getD_snoc (show 1 < r.length by omega), getD_snoc (show 2 < r.length by omega)]
  | 29, h =>
    have h : 3 ≤ r.length := h
    simp only [walkV, getD_snoc (show 0 < r.length by omega), getD_snoc (show 1 < r.length by omega), getD_snoc (show 2 < r.length by omega)]
  | 30, h =>
    have h : 3 ≤ r.length := h
    simp only [walkV, getD_snoc (show 0 < r.length by omega), getD_snoc (show 1 < r.length by omega), getD_snoc (show 2 < r.length by omega)]
  | i + 31, _ => rfl
theorem and_yes {x y : Value} (h : andT x y = .bool true) : x = .bool true ∧ y = .bool true := by
  unfold andT at h
  split at h
  · exact ⟨rfl, h⟩
  · simp at h
theorem and_else {x y : Value} (hx : x = .bool true ∨ x = .bool false) (hy : x = .bool true → y = .bool true ∨ y = .bool false) (h : andT x y ≠ .bool true) : andT x y = .bool false := by
  rcases hx with rfl | rfl
  · rcases hy rfl with rfl | rfl
    · exact absurd rfl h
    · rfl
  · rfl
def walkW : Nat → List Value → Value := fun i _ => match i with | 0 => .pointer none | 1 => .bool true | 2 => .bool true | 29 => .bool true | 30 => .bool true | _ => undef

attribute [local go_sem] Oper.semAt_some
set_option maxRecDepth 100000 in
set_option maxHeartbeats 12800000 in
theorem goes_any (ly n₀ n₁ N gw gy : Nat) (J Jx : List Th → World → Prop) (hab : ∀ s (A B : World), J s A → A.grownBy B none → J s B) (hgw : n₁ ≤ gw) (hgy : n₁ ≤ gy)
    (hY : ∀ m pre (x : Th) W, J pre W → pre.length < N → YieldAt Fence.wide m Try.prog ly #[.string x.1, .int .u64 x.2] W fun e W' =>
      (e = .returned (.bool true) ∧ J (pre ++ [x]) W' ∧ KeepC n₀ n₁ W W') ∨ (e = .returned (.bool false) ∧ Jx (pre ++ [x]) W')) (T : Tr) :
    ∀ (p : Option Addr) (pre : List Th) (W : World), IsTr n₀ W p T → W.heap[gw]? = some (.cells #[walkF gw gy] 64 (0, 0)) → W.heap[gy]? = some (.cells #[.func (.yield ly) #[] #[]] 63 (0, 0)) → J pre W → pre.length + T.list.length ≤ N →
      Calls Try.prog 28 #[.pointer p, .pointer (some ⟨gw, 0, none⟩), .pointer (some ⟨gy, 0, none⟩)] W fun e W' =>
        (e = .returned (.bool true) ∧ J (pre ++ T.list) W' ∧ KeepC n₀ n₁ W W') ∨ (e = .returned (.bool false) ∧ ∃ q, q <+: T.list ∧ Jx (pre ++ q) W') := by
  induction T with
  | leaf =>
    intro p pre W ht _ _ hJ _
    obtain rfl : p = none := ht
    have HJ := Lib.hid (show J (pre ++ Tr.leaf.list) W by rw [show Tr.leaf.list = [] from rfl, List.append_nil]; exact hJ)
    clear hJ hY
    go_enter Try.func28, Try.ntmps28
    go_upto_region 1 with (fail)
    refine (wpIn_wide (n := 4)).1 ?_
    refine QT.wpIn_region_phases [] (fun _ => 0) (fun _ => 0) walkW (fun _ w' => J (pre ++ Tr.leaf.list) w' ∧ KeepC n₀ n₁ W w') (by kernel_rfl) (fun _ => trivial) (by kernel_rfl) (by kernel_rfl) (by kernel_rfl) (fun _ _ _ _ => rfl) (fun k i r x h => by simp at h) ⟨hab _ _ _ HJ.out ⟨rfl, rfl, rfl, Nat.le_refl _, fun _ _ _ => rfl⟩, ⟨Nat.le_refl _, fun _ _ _ _ _ h => h⟩⟩ (fun i o _ ho r a wz _ _ hH hag hdep => ?_) (fun k i o h => by simp at h) (fun r a wz _ hH hag hf => ?_)
    · match i, ho with
      | 0, ho =>
        obtain rfl := (Option.some.inj ho).symm
        have t0 : a.eval (.tmp 0) = .pointer none := hag.old 0 _ (by kernel_rfl) rfl
        exact Or.inl ⟨rfl, wpIn_value (v := .pointer none) (by simp [go_sem, QT.nf t0]) ⟨rfl, hH⟩⟩
      | 1, ho =>
        obtain rfl := (Option.some.inj ho).symm
        have d5 : a.eval (.tmp 5) = walkW 0 r := hdep _ (Array.mem_of_getElem? (i := 0) rfl) rfl _ _ rfl rfl
        have d5 : a.eval (.tmp 5) = .pointer none := d5
        exact Or.inl ⟨rfl, wpIn_value (v := .bool true) (by simp [go_sem, QT.nf d5]) ⟨rfl, hH⟩⟩
      | 2, ho =>
        obtain rfl := (Option.some.inj ho).symm
        have d6 : a.eval (.tmp 6) = walkW 1 r := hdep _ (Array.mem_of_getElem? (i := 0) rfl) rfl _ _ rfl rfl
        have d6 : a.eval (.tmp 6) = .bool true := d6
        exact Or.inl ⟨rfl, wpIn_value (v := .bool true) (by simp [go_sem, QT.nf d6]) ⟨rfl, hH⟩⟩
      | 3, ho =>
        obtain rfl := (Option.some.inj ho).symm
        have d7 : a.eval (.tmp 7) = walkW 2 r := hdep _ (Array.mem_of_getElem? (i := 0) rfl) rfl _ _ rfl rfl
        exact Or.inr ⟨wanted_no rfl rfl rfl d7 (by simp [walkW]), rfl⟩
      | 4, ho =>
        obtain rfl := (Option.some.inj ho).symm
        have d7 : a.eval (.tmp 7) = walkW 2 r := hdep _ (Array.mem_of_getElem? (i := 0) rfl) rfl _ _ rfl rfl
        exact Or.inr ⟨wanted_no rfl rfl rfl d7 (by simp [walkW]), rfl⟩
      | 5, ho =>
        obtain rfl := (Option.some.inj ho).symm
        have d9 : a.eval (.tmp 9) = walkW 4 r := hdep _ (Array.mem_of_getElem? (i := 0) rfl) rfl _ _ rfl rfl
        have d7 : a.eval (.tmp 7) = walkW 2 r := hdep _ (Array.mem_of_getElem? (i := 1) rfl) rfl _ _ rfl rfl
        exact Or.inr ⟨wanted_no rfl rfl rfl d7 (by simp [walkW]), rfl⟩
      | 6, ho =>
        obtain rfl := (Option.some.inj ho).symm
        have d10 : a.eval (.tmp 10) = walkW 5 r := hdep _ (Array.mem_of_getElem? (i := 0) rfl) rfl _ _ rfl rfl
        have d7 : a.eval (.tmp 7) = walkW 2 r := hdep _ (Array.mem_of_getElem? (i := 1) rfl) rfl _ _ rfl rfl
        exact Or.inr ⟨wanted_no rfl rfl rfl d7 (by simp [walkW]), rfl⟩
      | 7, ho =>
        obtain rfl := (Option.some.inj ho).symm
        have d11 : a.eval (.tmp 11) = walkW 6 r := hdep _ (Array.mem_of_getElem? (i := 0) rfl) rfl _ _ rfl rfl
        have d7 : a.eval (.tmp 7) = walkW 2 r := hdep _ (Array.mem_of_getElem? (i := 1) rfl) rfl _ _ rfl rfl
        exact Or.inr ⟨wanted_no rfl rfl rfl d7 (by simp [walkW]), rfl⟩
      | 8, ho =>
        obtain rfl := (Option.some.inj ho).symm
        have d8 : a.eval (.tmp 8) = walkW 3 r := hdep _ (Array.mem_of_getElem? (i := 0) rfl) rfl _ _ rfl rfl
        have d12 : a.eval (.tmp 12) = walkW 7 r := hdep _ (Array.mem_of_getElem? (i := 1) rfl) rfl _ _ rfl rfl
        have d7 : a.eval (.tmp 7) = walkW 2 r := hdep _ (Array.mem_of_getElem? (i := 3) rfl) rfl _ _ rfl rfl
        exact Or.inr ⟨wanted_no rfl rfl rfl d7 (by simp [walkW]), rfl⟩
      | 9, ho =>
        obtain rfl := (Option.some.inj ho).symm
        have d13 : a.eval (.tmp 13) = walkW 8 r := hdep _ (Array.mem_of_getElem? (i := 0) rfl) rfl _ _ rfl rfl
        have d7 : a.eval (.tmp 7) = walkW 2 r := hdep _ (Array.mem_of_getElem? (i := 2) rfl) rfl _ _ rfl rfl
        exact Or.inr ⟨wanted_no rfl rfl rfl d7 (by simp [walkW]), rfl⟩
      | 10, ho =>
        obtain rfl := (Option.some.inj ho).symm
        have d14 : a.eval (.tmp 14) = walkW 9 r := hdep _ (Array.mem_of_getElem? (i := 0) rfl) rfl _ _ rfl rfl
        exact Or.inr ⟨wanted_no rfl rfl rfl d14 (by simp [walkW, undef]), rfl⟩
      | 11, ho =>
        obtain rfl := (Option.some.inj ho).symm
        have d14 : a.eval (.tmp 14) = walkW 9 r := hdep _ (Array.mem_of_getElem? (i := 0) rfl) rfl _ _ rfl rfl
        exact Or.inr ⟨wanted_no rfl rfl rfl d14 (by simp [walkW, undef]), rfl⟩
      | 12, ho =>
        obtain rfl := (Option.some.inj ho).symm
        have d16 : a.eval (.tmp 16) = walkW 11 r := hdep _ (Array.mem_of_getElem? (i := 0) rfl) rfl _ _ rfl rfl
        have d14 : a.eval (.tmp 14) = walkW 9 r := hdep _ (Array.mem_of_getElem? (i := 1) rfl) rfl _ _ rfl rfl
        exact Or.inr ⟨wanted_no rfl rfl rfl d14 (by simp [walkW, undef]), rfl⟩
      | 13, ho =>
        obtain rfl := (Option.some.inj ho).symm
        have d17 : a.eval (.tmp 17) = walkW 12 r := hdep _ (Array.mem_of_getElem? (i := 0) rfl) rfl _ _ rfl rfl
        have d14 : a.eval (.tmp 14) = walkW 9 r := hdep _ (Array.mem_of_getElem? (i := 1) rfl) rfl _ _ rfl rfl
        exact Or.inr ⟨wanted_no rfl rfl rfl d14 (by simp [walkW, undef]), rfl⟩
      | 14, ho =>
        obtain rfl := (Option.some.inj ho).symm
        have d18 : a.eval (.tmp 18) = walkW 13 r := hdep _ (Array.mem_of_getElem? (i := 0) rfl) rfl _ _ rfl rfl
        have d14 : a.eval (.tmp 14) = walkW 9 r := hdep _ (Array.mem_of_getElem? (i := 1) rfl) rfl _ _ rfl rfl
        exact Or.inr ⟨wanted_no rfl rfl rfl d14 (by simp [walkW, undef]), rfl⟩
      | 15, ho =>
        obtain rfl := (Option.some.inj ho).symm
        have d14 : a.eval (.tmp 14) = walkW 9 r := hdep _ (Array.mem_of_getElem? (i := 0) rfl) rfl _ _ rfl rfl
        exact Or.inr ⟨wanted_no rfl rfl rfl d14 (by simp [walkW, undef]), rfl⟩
      | 16, ho =>
        obtain rfl := (Option.some.inj ho).symm
        have d20 : a.eval (.tmp 20) = walkW 15 r := hdep _ (Array.mem_of_getElem? (i := 0) rfl) rfl _ _ rfl rfl
        have d14 : a.eval (.tmp 14) = walkW 9 r := hdep _ (Array.mem_of_getElem? (i := 1) rfl) rfl _ _ rfl rfl
        exact Or.inr ⟨wanted_no rfl rfl rfl d14 (by simp [walkW, undef]), rfl⟩
      | 17, ho =>
        obtain rfl := (Option.some.inj ho).symm
        have d21 : a.eval (.tmp 21) = walkW 16 r := hdep _ (Array.mem_of_getElem? (i := 0) rfl) rfl _ _ rfl rfl
        have d14 : a.eval (.tmp 14) = walkW 9 r := hdep _ (Array.mem_of_getElem? (i := 1) rfl) rfl _ _ rfl rfl
        exact Or.inr ⟨wanted_no rfl rfl rfl d14 (by simp [walkW, undef]), rfl⟩
      | 18, ho =>
        obtain rfl := (Option.some.inj ho).symm
        have d22 : a.eval (.tmp 22) = walkW 17 r := hdep _ (Array.mem_of_getElem? (i := 0) rfl) rfl _ _ rfl rfl
        have d14 : a.eval (.tmp 14) = walkW 9 r := hdep _ (Array.mem_of_getElem? (i := 1) rfl) rfl _ _ rfl rfl
        exact Or.inr ⟨wanted_no rfl rfl rfl d14 (by simp [walkW, undef]), rfl⟩
      | 19, ho =>
        obtain rfl := (Option.some.inj ho).symm
        have d15 : a.eval (.tmp 15) = walkW 10 r := hdep _ (Array.mem_of_getElem? (i := 0) rfl) rfl _ _ rfl rfl
        have d19 : a.eval (.tmp 19) = walkW 14 r := hdep _ (Array.mem_of_getElem? (i := 1) rfl) rfl _ _ rfl rfl
        have d23 : a.eval (.tmp 23) = walkW 18 r := hdep _ (Array.mem_of_getElem? (i := 2) rfl) rfl _ _ rfl rfl
        have d14 : a.eval (.tmp 14) = walkW 9 r := hdep _ (Array.mem_of_getElem? (i := 4) rfl) rfl _ _ rfl rfl
        exact Or.inr ⟨wanted_no rfl rfl rfl d14 (by simp [walkW, undef]), rfl⟩
      | 20, ho =>
        obtain rfl := (Option.some.inj ho).symm
        have d14 : a.eval (.tmp 14) = walkW 9 r := hdep _ (Array.mem_of_getElem? (i := 0) rfl) rfl _ _ rfl rfl
        have d24 : a.eval (.tmp 24) = walkW 19 r := hdep _ (Array.mem_of_getElem? (i := 1) rfl) rfl _ _ rfl rfl
        have d7 : a.eval (.tmp 7) = walkW 2 r := hdep _ (Array.mem_of_getElem? (i := 2) rfl) rfl _ _ rfl rfl
        exact Or.inr ⟨wanted_no rfl rfl rfl d7 (by simp [walkW]), rfl⟩
      | 21, ho =>
        obtain rfl := (Option.some.inj ho).symm
        have d25 : a.eval (.tmp 25) = walkW 20 r := hdep _ (Array.mem_of_getElem? (i := 0) rfl) rfl _ _ rfl rfl
        have d7 : a.eval (.tmp 7) = walkW 2 r := hdep _ (Array.mem_of_getElem? (i := 2) rfl) rfl _ _ rfl rfl
        exact Or.inr ⟨wanted_no rfl rfl rfl d7 (by simp [walkW]), rfl⟩
      | 22, ho =>
        obtain rfl := (Option.some.inj ho).symm
        have d26 : a.eval (.tmp 26) = walkW 21 r := hdep _ (Array.mem_of_getElem? (i := 0) rfl) rfl _ _ rfl rfl
        exact Or.inr ⟨wanted_no rfl rfl rfl d26 (by simp [walkW, undef]), rfl⟩
      | 23, ho =>
        obtain rfl := (Option.some.inj ho).symm
        have d26 : a.eval (.tmp 26) = walkW 21 r := hdep _ (Array.mem_of_getElem? (i := 0) rfl) rfl _ _ rfl rfl
        exact Or.inr ⟨wanted_no rfl rfl rfl d26 (by simp [walkW, undef]), rfl⟩
      | 24, ho =>
        obtain rfl := (Option.some.inj ho).symm
        have d28 : a.eval (.tmp 28) = walkW 23 r := hdep _ (Array.mem_of_getElem? (i := 0) rfl) rfl _ _ rfl rfl
        have d26 : a.eval (.tmp 26) = walkW 21 r := hdep _ (Array.mem_of_getElem? (i := 1) rfl) rfl _ _ rfl rfl
        exact Or.inr ⟨wanted_no rfl rfl rfl d26 (by simp [walkW, undef]), rfl⟩
      | 25, ho =>
        obtain rfl := (Option.some.inj ho).symm
        have d29 : a.eval (.tmp 29) = walkW 24 r := hdep _ (Array.mem_of_getElem? (i := 0) rfl) rfl _ _ rfl rfl
        have d26 : a.eval (.tmp 26) = walkW 21 r := hdep _ (Array.mem_of_getElem? (i := 1) rfl) rfl _ _ rfl rfl
        exact Or.inr ⟨wanted_no rfl rfl rfl d26 (by simp [walkW, undef]), rfl⟩
      | 26, ho =>
        obtain rfl := (Option.some.inj ho).symm
        have d30 : a.eval (.tmp 30) = walkW 25 r := hdep _ (Array.mem_of_getElem? (i := 0) rfl) rfl _ _ rfl rfl
        have d26 : a.eval (.tmp 26) = walkW 21 r := hdep _ (Array.mem_of_getElem? (i := 1) rfl) rfl _ _ rfl rfl
        exact Or.inr ⟨wanted_no rfl rfl rfl d26 (by simp [walkW, undef]), rfl⟩
      | 27, ho =>
        obtain rfl := (Option.some.inj ho).symm
        have d27 : a.eval (.tmp 27) = walkW 22 r := hdep _ (Array.mem_of_getElem? (i := 0) rfl) rfl _ _ rfl rfl
        have d31 : a.eval (.tmp 31) = walkW 26 r := hdep _ (Array.mem_of_getElem? (i := 1) rfl) rfl _ _ rfl rfl
        have d26 : a.eval (.tmp 26) = walkW 21 r := hdep _ (Array.mem_of_getElem? (i := 3) rfl) rfl _ _ rfl rfl
        exact Or.inr ⟨wanted_no rfl rfl rfl d26 (by simp [walkW, undef]), rfl⟩
      | 28, ho =>
        obtain rfl := (Option.some.inj ho).symm
        have d26 : a.eval (.tmp 26) = walkW 21 r := hdep _ (Array.mem_of_getElem? (i := 0) rfl) rfl _ _ rfl rfl
        have d32 : a.eval (.tmp 32) = walkW 27 r := hdep _ (Array.mem_of_getElem? (i := 1) rfl) rfl _ _ rfl rfl
        have d7 : a.eval (.tmp 7) = walkW 2 r := hdep _ (Array.mem_of_getElem? (i := 2) rfl) rfl _ _ rfl rfl
        exact Or.inr ⟨wanted_no rfl rfl rfl d7 (by simp [walkW]), rfl⟩
      | 29, ho =>
        obtain rfl := (Option.some.inj ho).symm
        have d7 : a.eval (.tmp 7) = walkW 2 r := hdep _ (Array.mem_of_getElem? (i := 0) rfl) rfl _ _ rfl rfl
        have d33 : a.eval (.tmp 33) = walkW 28 r := hdep _ (Array.mem_of_getElem? (i := 1) rfl) rfl _ _ rfl rfl
        have d7 : a.eval (.tmp 7) = .bool true := d7
        exact Or.inl ⟨rfl, wpIn_value (v := .bool true) (by simp [go_sem, QT.nf d7]) ⟨rfl, hH⟩⟩
      | 30, ho =>
        obtain rfl := (Option.some.inj ho).symm
        have d34 : a.eval (.tmp 34) = walkW 29 r := hdep _ (Array.mem_of_getElem? (i := 0) rfl) rfl _ _ rfl rfl
        have d34 : a.eval (.tmp 34) = .bool true := d34
        exact Or.inl ⟨rfl, wpIn_value (v := .bool true) (by simp [go_sem, QT.nf d34]) ⟨rfl, hH⟩⟩
      | i + 31, ho => simp at ho
    · have f30 : a.eval (.tmp 4) = .bool true := hf 30 _ _ rfl rfl
      have HDF := Lib.hid hag.defers
      have HR := Lib.hid (show a.tmps.getD 4 undef = .bool true by simpa [Act.eval] using f30)
      clear hag hf f30
      go_wp2_with fail
      refine bodyPost_ret (results_tmp rfl _ _ _) HDF.out (Or.inl ⟨by rw [HR.out], hH.1, hH.2⟩)
  | node k z lo hi ihl ihr =>
    intro p pre W ht hgW hyW hJ hN
    obtain ⟨g, pl, pr, rfl, hg0, hc, hlo, hhi⟩ := ht
    rw [show (Tr.node k z lo hi).list = lo.list ++ (k, z) :: hi.list from rfl] at hN ⊢
    simp only [List.length_append, List.length_cons] at hN
    have HCG := Lib.hid (fun (w : World) (h : KeepC n₀ n₁ W w) => h.same gw _ _ _ (Or.inr hgw) hgW)
    have HCY := Lib.hid (fun (w : World) (h : KeepC n₀ n₁ W w) => h.same gy _ _ _ (Or.inr hgy) hyW)
    have HCN := Lib.hid (fun (w : World) (h : KeepC n₀ n₁ W w) => h.same g _ _ _ (Or.inl hg0) hc)
    have HIL := Lib.hid (fun (w : World) (h : KeepC n₀ n₁ W w) (hj : J pre w) => ihl pl pre w (hlo.kept fun i hi cs t fr hh => h.same i cs t fr (Or.inl hi) hh) (HCG.out w h) (HCY.out w h) hj (by omega))
    have HIR := Lib.hid (fun (w : World) (h : KeepC n₀ n₁ W w) (hj : J (pre ++ lo.list ++ [(k, z)]) w) => ihr pr _ w (hhi.kept fun i hi cs t fr hh => h.same i cs t fr (Or.inl hi) hh) (HCG.out w h) (HCY.out w h) hj (by simp only [List.length_append, List.length_cons, List.length_nil]; omega))
    have HYY := Lib.hid (fun m (w : World) (hj : J (pre ++ lo.list) w) => hY m _ (k, z) w hj (by simp only [List.length_append]; omega))
    have HJ := Lib.hid hJ
    clear ihl ihr hc hlo hhi hgW hyW hJ hY hN hg0
    go_enter Try.func28, Try.ntmps28
    go_upto_region 1 with (fail)
    refine (wpIn_wide (n := 4)).1 ?_
    refine QT.wpIn_region_phases [8, 19, 27] walkC walkU (walkV g gw gy ly pl pr k z) (walkH J Jx pre lo.list hi.list (k, z) n₀ n₁ W) (by kernel_rfl) (fun _ => trivial) (by kernel_rfl) (by kernel_rfl) (by kernel_rfl) (fun i r x h => walkV_snoc g gw gy ly pl pr k z i r x h) (fun kk i r x hk hr => ?_) ⟨hab _ _ _ HJ.out ⟨rfl, rfl, rfl, Nat.le_refl _, fun _ _ _ => rfl⟩, ⟨Nat.le_refl _, fun _ _ _ _ _ h => h⟩⟩ (fun i o hip ho r a wz hc hu hH hag hdep => ?_) (fun kk i o hk ho r a wz hr hH hag hdep => ?_) (fun r a wz hr hH hag hf => ?_)
    · match kk, hk with
      | 0, hk =>
        obtain rfl := (Option.some.inj hk).symm
        exact getD_last hr
      | 1, hk =>
        obtain rfl := (Option.some.inj hk).symm
        exact getD_last hr
      | 2, hk =>
        obtain rfl := (Option.some.inj hk).symm
        exact getD_last hr
      | kk + 3, hk => simp at hk
    · have t0 : a.eval (.tmp 0) = .pointer (some ⟨g, 0, none⟩) := hag.old 0 _ (by kernel_rfl) rfl
      have t1 : a.eval (.tmp 1) = .pointer (some ⟨gw, 0, none⟩) := hag.old 1 _ (by kernel_rfl) rfl
      have t2 : a.eval (.tmp 2) = .pointer (some ⟨gy, 0, none⟩) := hag.old 2 _ (by kernel_rfl) rfl
      match i, ho with
      | 0, ho =>
        obtain rfl := (Option.some.inj ho).symm
        exact Or.inl ⟨rfl, wpIn_value (v := .pointer (some ⟨g, 0, none⟩)) (by simp [go_sem, QT.nf t0]) ⟨rfl, hH⟩⟩
      | 1, ho =>
        obtain rfl := (Option.some.inj ho).symm
        have d5 : a.eval (.tmp 5) = walkV g gw gy ly pl pr k z 0 r := hdep _ (Array.mem_of_getElem? (i := 0) rfl) rfl _ _ rfl rfl
        have d5 : a.eval (.tmp 5) = .pointer (some ⟨g, 0, none⟩) := d5
        exact Or.inl ⟨rfl, wpIn_value (v := .bool false) (by simp [go_sem, QT.nf d5]) ⟨rfl, hH⟩⟩
      | 2, ho =>
        obtain rfl := (Option.some.inj ho).symm
        have d6 : a.eval (.tmp 6) = walkV g gw gy ly pl pr k z 1 r := hdep _ (Array.mem_of_getElem? (i := 0) rfl) rfl _ _ rfl rfl
        have d6 : a.eval (.tmp 6) = .bool false := d6
        exact Or.inl ⟨rfl, wpIn_value (v := .bool false) (by simp [go_sem, QT.nf d6]) ⟨rfl, hH⟩⟩
      | 3, ho =>
        obtain rfl := (Option.some.inj ho).symm
        have d7 : a.eval (.tmp 7) = walkV g gw gy ly pl pr k z 2 r := hdep _ (Array.mem_of_getElem? (i := 0) rfl) rfl _ _ rfl rfl
        obtain rfl : r = [] := List.eq_nil_of_length_eq_zero (Nat.le_zero.1 hu)
        have cg : wz.cell? ⟨gw, 0, none⟩ = some (walkF gw gy) := by rw [Lib.cell_of_heap (HCG.out wz hH.2)]; rfl
        exact Or.inl ⟨QT.wanted_of rfl rfl rfl d7, wpIn_value (v := walkF gw gy) (by simp [go_sem, QT.nf t1, cg]) ⟨rfl, hH⟩⟩
      | 4, ho =>
        obtain rfl := (Option.some.inj ho).symm
        have d7 : a.eval (.tmp 7) = walkV g gw gy ly pl pr k z 2 r := hdep _ (Array.mem_of_getElem? (i := 0) rfl) rfl _ _ rfl rfl
        exact Or.inl ⟨QT.wanted_of rfl rfl rfl d7, wpIn_value (v := .pointer (some ⟨g, 0, none⟩)) (by simp [go_sem, QT.nf t0]) ⟨rfl, hH⟩⟩
      | 5, ho =>
        obtain rfl := (Option.some.inj ho).symm
        have d9 : a.eval (.tmp 9) = walkV g gw gy ly pl pr k z 4 r := hdep _ (Array.mem_of_getElem? (i := 0) rfl) rfl _ _ rfl rfl
        have d7 : a.eval (.tmp 7) = walkV g gw gy ly pl pr k z 2 r := hdep _ (Array.mem_of_getElem? (i := 1) rfl) rfl _ _ rfl rfl
        have d9 : a.eval (.tmp 9) = .pointer (some ⟨g, 0, none⟩) := d9
        exact Or.inl ⟨QT.wanted_of rfl rfl rfl d7, wpIn_value (v := .pointer (some ⟨g, 0, none⟩)) (by simp [go_sem, QT.nf d9]) ⟨rfl, hH⟩⟩
      | 6, ho =>
        obtain rfl := (Option.some.inj ho).symm
        have d10 : a.eval (.tmp 10) = walkV g gw gy ly pl pr k z 5 r := hdep _ (Array.mem_of_getElem? (i := 0) rfl) rfl _ _ rfl rfl
        have d7 : a.eval (.tmp 7) = walkV g gw gy ly pl pr k z 2 r := hdep _ (Array.mem_of_getElem? (i := 1) rfl) rfl _ _ rfl rfl
        have d10 : a.eval (.tmp 10) = .pointer (some ⟨g, 0, none⟩) := d10
        exact Or.inl ⟨QT.wanted_of rfl rfl rfl d7, wpIn_value (v := .pointer (some ⟨g, 2, none⟩)) (by simp [go_sem, QT.nf d10]) ⟨rfl, hH⟩⟩
      | 7, ho =>
        obtain rfl := (Option.some.inj ho).symm
        have d11 : a.eval (.tmp 11) = walkV g gw gy ly pl pr k z 6 r := hdep _ (Array.mem_of_getElem? (i := 0) rfl) rfl _ _ rfl rfl
        have d7 : a.eval (.tmp 7) = walkV g gw gy ly pl pr k z 2 r := hdep _ (Array.mem_of_getElem? (i := 1) rfl) rfl _ _ rfl rfl
        obtain rfl : r = [] := List.eq_nil_of_length_eq_zero (Nat.le_zero.1 hu)
        have d11 : a.eval (.tmp 11) = .pointer (some ⟨g, 2, none⟩) := d11
        have cg : wz.cell? ⟨g, 2, none⟩ = some (.pointer pl) := by rw [Lib.cell_of_heap (HCN.out wz hH.2)]; rfl
        exact Or.inl ⟨QT.wanted_of rfl rfl rfl d7, wpIn_value (v := .pointer pl) (by simp [go_sem, QT.nf d11, cg]) ⟨rfl, hH⟩⟩
      | 8, ho =>
        obtain rfl := (Option.some.inj ho).symm
        exact absurd (by decide) hip
      | 9, ho =>
        obtain rfl := (Option.some.inj ho).symm
        have d13 : a.eval (.tmp 13) = walkV g gw gy ly pl pr k z 8 r := hdep _ (Array.mem_of_getElem? (i := 0) rfl) rfl _ _ rfl rfl
        have d7 : a.eval (.tmp 7) = walkV g gw gy ly pl pr k z 2 r := hdep _ (Array.mem_of_getElem? (i := 2) rfl) rfl _ _ rfl rfl
        exact Or.inl ⟨QT.wanted_of rfl rfl rfl d7, wpIn_value (BigFrame.run_move (.tmp 13) rfl wz) ⟨by rw [d13]; rfl, hH⟩⟩
      | 10, ho =>
        obtain rfl := (Option.some.inj ho).symm
        have d14 : a.eval (.tmp 14) = walkV g gw gy ly pl pr k z 9 r := hdep _ (Array.mem_of_getElem? (i := 0) rfl) rfl _ _ rfl rfl
        obtain ⟨x, rfl⟩ := one_of (Nat.le_antisymm hu hc)
        have d14 : a.eval (.tmp 14) = x := d14
        by_cases hx : x = .bool true
        · subst hx
          have cg : wz.cell? ⟨gy, 0, none⟩ = some (.func (.yield ly) #[] #[]) := by rw [Lib.cell_of_heap (HCY.out wz (hH.elim (fun h => h.2.2) (fun h => by cases h.1)))]; rfl
          exact Or.inl ⟨QT.wanted_of rfl rfl rfl d14, wpIn_value (v := .func (.yield ly) #[] #[]) (by simp [go_sem, QT.nf t2, cg]) ⟨rfl, hH⟩⟩
        · exact Or.inr ⟨wanted_no rfl rfl rfl d14 hx, ifT_no hx _⟩
      | 11, ho =>
        obtain rfl := (Option.some.inj ho).symm
        have d14 : a.eval (.tmp 14) = walkV g gw gy ly pl pr k z 9 r := hdep _ (Array.mem_of_getElem? (i := 0) rfl) rfl _ _ rfl rfl
        by_cases hx : r.getD 0 undef = .bool true
        · exact Or.inl ⟨QT.wanted_of rfl rfl rfl (d14.trans hx), wpIn_value (v := .pointer (some ⟨g, 0, none⟩)) (by simp [go_sem, QT.nf t0]) ⟨by rw [show walkV g gw gy ly pl pr k z 11 r = ifT (r.getD 0 undef) (.pointer (some ⟨g, 0, none⟩)) from rfl, hx]; rfl, hH⟩⟩
        · exact Or.inr ⟨wanted_no rfl rfl rfl d14 hx, ifT_no hx _⟩
      | 12, ho =>
        obtain rfl := (Option.some.inj ho).symm
        have d16 : a.eval (.tmp 16) = walkV g gw gy ly pl pr k z 11 r := hdep _ (Array.mem_of_getElem? (i := 0) rfl) rfl _ _ rfl rfl
        have d14 : a.eval (.tmp 14) = walkV g gw gy ly pl pr k z 9 r := hdep _ (Array.mem_of_getElem? (i := 1) rfl) rfl _ _ rfl rfl
        by_cases hx : r.getD 0 undef = .bool true
        · have e16 : a.eval (.tmp 16) = .pointer (some ⟨g, 0, none⟩) := by rw [d16, show walkV g gw gy ly pl pr k z 11 r = ifT (r.getD 0 undef) (.pointer (some ⟨g, 0, none⟩)) from rfl, hx]; rfl
          exact Or.inl ⟨QT.wanted_of rfl rfl rfl (d14.trans hx), wpIn_value (v := .pointer (some ⟨g, 0, none⟩)) (by simp [go_sem, QT.nf e16]) ⟨by rw [show walkV g gw gy ly pl pr k z 12 r = ifT (r.getD 0 undef) (.pointer (some ⟨g, 0, none⟩)) from rfl, hx]; rfl, hH⟩⟩
        · exact Or.inr ⟨wanted_no rfl rfl rfl d14 hx, ifT_no hx _⟩
      | 13, ho =>
        obtain rfl := (Option.some.inj ho).symm
        have d17 : a.eval (.tmp 17) = walkV g gw gy ly pl pr k z 12 r := hdep _ (Array.mem_of_getElem? (i := 0) rfl) rfl _ _ rfl rfl
        have d14 : a.eval (.tmp 14) = walkV g gw gy ly pl pr k z 9 r := hdep _ (Array.mem_of_getElem? (i := 1) rfl) rfl _ _ rfl rfl
        by_cases hx : r.getD 0 undef = .bool true
        · have e17 : a.eval (.tmp 17) = .pointer (some ⟨g, 0, none⟩) := by rw [d17, show walkV g gw gy ly pl pr k z 12 r = ifT (r.getD 0 undef) (.pointer (some ⟨g, 0, none⟩)) from rfl, hx]; rfl
          exact Or.inl ⟨QT.wanted_of rfl rfl rfl (d14.trans hx), wpIn_value (v := .pointer (some ⟨g, 0, none⟩)) (by simp [go_sem, QT.nf e17]) ⟨by rw [show walkV g gw gy ly pl pr k z 13 r = ifT (r.getD 0 undef) (.pointer (some ⟨g, 0, none⟩)) from rfl, hx]; rfl, hH⟩⟩
        · exact Or.inr ⟨wanted_no rfl rfl rfl d14 hx, ifT_no hx _⟩
      | 14, ho =>
        obtain rfl := (Option.some.inj ho).symm
        have d18 : a.eval (.tmp 18) = walkV g gw gy ly pl pr k z 13 r := hdep _ (Array.mem_of_getElem? (i := 0) rfl) rfl _ _ rfl rfl
        have d14 : a.eval (.tmp 14) = walkV g gw gy ly pl pr k z 9 r := hdep _ (Array.mem_of_getElem? (i := 1) rfl) rfl _ _ rfl rfl
        obtain ⟨x, rfl⟩ := one_of (Nat.le_antisymm hu hc)
        have d14 : a.eval (.tmp 14) = x := d14
        by_cases hx : x = .bool true
        · subst hx
          have d18 : a.eval (.tmp 18) = .pointer (some ⟨g, 0, none⟩) := d18
          have cg : wz.cell? ⟨g, 0, none⟩ = some (.string k) := by rw [Lib.cell_of_heap (HCN.out wz (hH.elim (fun h => h.2.2) (fun h => by cases h.1)))]; rfl
          exact Or.inl ⟨QT.wanted_of rfl rfl rfl d14, wpIn_value (v := .string k) (by simp [go_sem, QT.nf d18, cg]) ⟨rfl, hH⟩⟩
        · exact Or.inr ⟨wanted_no rfl rfl rfl d14 hx, ifT_no hx _⟩
      | 15, ho =>
        obtain rfl := (Option.some.inj ho).symm
        have d14 : a.eval (.tmp 14) = walkV g gw gy ly pl pr k z 9 r := hdep _ (Array.mem_of_getElem? (i := 0) rfl) rfl _ _ rfl rfl
        by_cases hx : r.getD 0 undef = .bool true
        · exact Or.inl ⟨QT.wanted_of rfl rfl rfl (d14.trans hx), wpIn_value (v := .pointer (some ⟨g, 0, none⟩)) (by simp [go_sem, QT.nf t0]) ⟨by rw [show walkV g gw gy ly pl pr k z 15 r = ifT (r.getD 0 undef) (.pointer (some ⟨g, 0, none⟩)) from rfl, hx]; rfl, hH⟩⟩
        · exact Or.inr ⟨wanted_no rfl rfl rfl d14 hx, ifT_no hx _⟩
      | 16, ho =>
        obtain rfl := (Option.some.inj ho).symm
        have d20 : a.eval (.tmp 20) = walkV g gw gy ly pl pr k z 15 r := hdep _ (Array.mem_of_getElem? (i := 0) rfl) rfl _ _ rfl rfl
        have d14 : a.eval (.tmp 14) = walkV g gw gy ly pl pr k z 9 r := hdep _ (Array.mem_of_getElem? (i := 1) rfl) rfl _ _ rfl rfl
        by_cases hx : r.getD 0 undef = .bool true
        · have e20 : a.eval (.tmp 20) = .pointer (some ⟨g, 0, none⟩) := by rw [d20, show walkV g gw gy ly pl pr k z 15 r = ifT (r.getD 0 undef) (.pointer (some ⟨g, 0, none⟩)) from rfl, hx]; rfl
          exact Or.inl ⟨QT.wanted_of rfl rfl rfl (d14.trans hx), wpIn_value (v := .pointer (some ⟨g, 0, none⟩)) (by simp [go_sem, QT.nf e20]) ⟨by rw [show walkV g gw gy ly pl pr k z 16 r = ifT (r.getD 0 undef) (.pointer (some ⟨g, 0, none⟩)) from rfl, hx]; rfl, hH⟩⟩
        · exact Or.inr ⟨wanted_no rfl rfl rfl d14 hx, ifT_no hx _⟩
      | 17, ho =>
        obtain rfl := (Option.some.inj ho).symm
        have d21 : a.eval (.tmp 21) = walkV g gw gy ly pl pr k z 16 r := hdep _ (Array.mem_of_getElem? (i := 0) rfl) rfl _ _ rfl rfl
        have d14 : a.eval (.tmp 14) = walkV g gw gy ly pl pr k z 9 r := hdep _ (Array.mem_of_getElem? (i := 1) rfl) rfl _ _ rfl rfl
        by_cases hx : r.getD 0 undef = .bool true
        · have e21 : a.eval (.tmp 21) = .pointer (some ⟨g, 0, none⟩) := by rw [d21, show walkV g gw gy ly pl pr k z 16 r = ifT (r.getD 0 undef) (.pointer (some ⟨g, 0, none⟩)) from rfl, hx]; rfl
          exact Or.inl ⟨QT.wanted_of rfl rfl rfl (d14.trans hx), wpIn_value (v := .pointer (some ⟨g, 1, none⟩)) (by simp [go_sem, QT.nf e21]) ⟨by rw [show walkV g gw gy ly pl pr k z 17 r = ifT (r.getD 0 undef) (.pointer (some ⟨g, 1, none⟩)) from rfl, hx]; rfl, hH⟩⟩
        · exact Or.inr ⟨wanted_no rfl rfl rfl d14 hx, ifT_no hx _⟩
      | 18, ho =>
        obtain rfl := (Option.some.inj ho).symm
        have d22 : a.eval (.tmp 22) = walkV g gw gy ly pl pr k z 17 r := hdep _ (Array.mem_of_getElem? (i := 0) rfl) rfl _ _ rfl rfl
        have d14 : a.eval (.tmp 14) = walkV g gw gy ly pl pr k z 9 r := hdep _ (Array.mem_of_getElem? (i := 1) rfl) rfl _ _ rfl rfl
        obtain ⟨x, rfl⟩ := one_of (Nat.le_antisymm hu hc)
        have d14 : a.eval (.tmp 14) = x := d14
        by_cases hx : x = .bool true
        · subst hx
          have d22 : a.eval (.tmp 22) = .pointer (some ⟨g, 1, none⟩) := d22
          have cg : wz.cell? ⟨g, 1, none⟩ = some (.int .u64 z) := by rw [Lib.cell_of_heap (HCN.out wz (hH.elim (fun h => h.2.2) (fun h => by cases h.1)))]; rfl
          exact Or.inl ⟨QT.wanted_of rfl rfl rfl d14, wpIn_value (v := .int .u64 z) (by simp [go_sem, QT.nf d22, cg]) ⟨rfl, hH⟩⟩
        · exact Or.inr ⟨wanted_no rfl rfl rfl d14 hx, ifT_no hx _⟩
      | 19, ho =>
        obtain rfl := (Option.some.inj ho).symm
        exact absurd (by decide) hip
      | 20, ho =>
        obtain rfl := (Option.some.inj ho).symm
        have d14 : a.eval (.tmp 14) = walkV g gw gy ly pl pr k z 9 r := hdep _ (Array.mem_of_getElem? (i := 0) rfl) rfl _ _ rfl rfl
        have d24 : a.eval (.tmp 24) = walkV g gw gy ly pl pr k z 19 r := hdep _ (Array.mem_of_getElem? (i := 1) rfl) rfl _ _ rfl rfl
        have d7 : a.eval (.tmp 7) = walkV g gw gy ly pl pr k z 2 r := hdep _ (Array.mem_of_getElem? (i := 2) rfl) rfl _ _ rfl rfl
        have h1 := walkH_a hH (Nat.le_trans (by decide) hc)
        rcases h1 with h1 | h1
        · have e14 : a.eval (.tmp 14) = .bool true := d14.trans h1
          rcases walkH_b hH hc h1 with h2 | h2
          · have e24 : a.eval (.tmp 24) = .bool true := d24.trans h2
            exact Or.inl ⟨QT.wanted_of rfl rfl rfl d7, wpIn_value (v := .bool true) (by simp [go_sem, QT.nf e14, QT.nf e24]) ⟨by rw [show walkV g gw gy ly pl pr k z 20 r = andT (r.getD 0 undef) (r.getD 1 undef) from rfl, h1, h2]; rfl, hH⟩⟩
          · have e24 : a.eval (.tmp 24) = .bool false := d24.trans h2
            exact Or.inl ⟨QT.wanted_of rfl rfl rfl d7, wpIn_value (v := .bool false) (by simp [go_sem, QT.nf e14, QT.nf e24]) ⟨by rw [show walkV g gw gy ly pl pr k z 20 r = andT (r.getD 0 undef) (r.getD 1 undef) from rfl, h1, h2]; rfl, hH⟩⟩
        · have e14 : a.eval (.tmp 14) = .bool false := d14.trans h1
          exact Or.inl ⟨QT.wanted_of rfl rfl rfl d7, wpIn_value (v := .bool false) (by simp [go_sem, QT.nf e14]) ⟨by rw [show walkV g gw gy ly pl pr k z 20 r = andT (r.getD 0 undef) (r.getD 1 undef) from rfl, h1]; rfl, hH⟩⟩
      | 21, ho =>
        obtain rfl := (Option.some.inj ho).symm
        have d25 : a.eval (.tmp 25) = walkV g gw gy ly pl pr k z 20 r := hdep _ (Array.mem_of_getElem? (i := 0) rfl) rfl _ _ rfl rfl
        have d7 : a.eval (.tmp 7) = walkV g gw gy ly pl pr k z 2 r := hdep _ (Array.mem_of_getElem? (i := 2) rfl) rfl _ _ rfl rfl
        exact Or.inl ⟨QT.wanted_of rfl rfl rfl d7, wpIn_value (BigFrame.run_move (.tmp 25) rfl wz) ⟨by rw [d25]; rfl, hH⟩⟩
      | 22, ho =>
        obtain rfl := (Option.some.inj ho).symm
        have d26 : a.eval (.tmp 26) = walkV g gw gy ly pl pr k z 21 r := hdep _ (Array.mem_of_getElem? (i := 0) rfl) rfl _ _ rfl rfl
        obtain ⟨x, y, rfl⟩ := two_of (Nat.le_antisymm hu hc)
        have d26 : a.eval (.tmp 26) = andT x y := d26
        by_cases hx : andT x y = .bool true
        · obtain ⟨hx0, hy⟩ := and_yes hx
          have cg : wz.cell? ⟨gw, 0, none⟩ = some (walkF gw gy) := by rw [Lib.cell_of_heap (HCG.out wz (hH.elim (fun h => h.2.elim (fun h => h.2.2) (fun h => by obtain ⟨rfl, _⟩ := h; cases hy)) (fun h => by obtain ⟨rfl, _⟩ := h; cases hx0)))]; rfl
          exact Or.inl ⟨QT.wanted_of rfl rfl rfl (d26.trans hx), wpIn_value (v := walkF gw gy) (by simp [go_sem, QT.nf t1, cg]) ⟨by rw [hx0, hy]; rfl, hH⟩⟩
        · exact Or.inr ⟨wanted_no rfl rfl rfl d26 hx, ifT_no hx _⟩
      | 23, ho =>
        obtain rfl := (Option.some.inj ho).symm
        have d26 : a.eval (.tmp 26) = walkV g gw gy ly pl pr k z 21 r := hdep _ (Array.mem_of_getElem? (i := 0) rfl) rfl _ _ rfl rfl
        by_cases hx : andT (r.getD 0 undef) (r.getD 1 undef) = .bool true
        · exact Or.inl ⟨QT.wanted_of rfl rfl rfl (d26.trans hx), wpIn_value (v := .pointer (some ⟨g, 0, none⟩)) (by simp [go_sem, QT.nf t0]) ⟨by rw [show walkV g gw gy ly pl pr k z 23 r = ifT (andT (r.getD 0 undef) (r.getD 1 undef)) (.pointer (some ⟨g, 0, none⟩)) from rfl, hx]; rfl, hH⟩⟩
        · exact Or.inr ⟨wanted_no rfl rfl rfl d26 hx, ifT_no hx _⟩
      | 24, ho =>
        obtain rfl := (Option.some.inj ho).symm
        have d28 : a.eval (.tmp 28) = walkV g gw gy ly pl pr k z 23 r := hdep _ (Array.mem_of_getElem? (i := 0) rfl) rfl _ _ rfl rfl
        have d26 : a.eval (.tmp 26) = walkV g gw gy ly pl pr k z 21 r := hdep _ (Array.mem_of_getElem? (i := 1) rfl) rfl _ _ rfl rfl
        by_cases hx : andT (r.getD 0 undef) (r.getD 1 undef) = .bool true
        · have e28 : a.eval (.tmp 28) = .pointer (some ⟨g, 0, none⟩) := by rw [d28, show walkV g gw gy ly pl pr k z 23 r = ifT (andT (r.getD 0 undef) (r.getD 1 undef)) (.pointer (some ⟨g, 0, none⟩)) from rfl, hx]; rfl
          exact Or.inl ⟨QT.wanted_of rfl rfl rfl (d26.trans hx), wpIn_value (v := .pointer (some ⟨g, 0, none⟩)) (by simp [go_sem, QT.nf e28]) ⟨by rw [show walkV g gw gy ly pl pr k z 24 r = ifT (andT (r.getD 0 undef) (r.getD 1 undef)) (.pointer (some ⟨g, 0, none⟩)) from rfl, hx]; rfl, hH⟩⟩
        · exact Or.inr ⟨wanted_no rfl rfl rfl d26 hx, ifT_no hx _⟩
      | 25, ho =>
        obtain rfl := (Option.some.inj ho).symm
        have d29 : a.eval (.tmp 29) = walkV g gw gy ly pl pr k z 24 r := hdep _ (Array.mem_of_getElem? (i := 0) rfl) rfl _ _ rfl rfl
        have d26 : a.eval (.tmp 26) = walkV g gw gy ly pl pr k z 21 r := hdep _ (Array.mem_of_getElem? (i := 1) rfl) rfl _ _ rfl rfl
        by_cases hx : andT (r.getD 0 undef) (r.getD 1 undef) = .bool true
        · have e29 : a.eval (.tmp 29) = .pointer (some ⟨g, 0, none⟩) := by rw [d29, show walkV g gw gy ly pl pr k z 24 r = ifT (andT (r.getD 0 undef) (r.getD 1 undef)) (.pointer (some ⟨g, 0, none⟩)) from rfl, hx]; rfl
          exact Or.inl ⟨QT.wanted_of rfl rfl rfl (d26.trans hx), wpIn_value (v := .pointer (some ⟨g, 3, none⟩)) (by simp [go_sem, QT.nf e29]) ⟨by rw [show walkV g gw gy ly pl pr k z 25 r = ifT (andT (r.getD 0 undef) (r.getD 1 undef)) (.pointer (some ⟨g, 3, none⟩)) from rfl, hx]; rfl, hH⟩⟩
        · exact Or.inr ⟨wanted_no rfl rfl rfl d26 hx, ifT_no hx _⟩
      | 26, ho =>
        obtain rfl := (Option.some.inj ho).symm
        have d30 : a.eval (.tmp 30) = walkV g gw gy ly pl pr k z 25 r := hdep _ (Array.mem_of_getElem? (i := 0) rfl) rfl _ _ rfl rfl
        have d26 : a.eval (.tmp 26) = walkV g gw gy ly pl pr k z 21 r := hdep _ (Array.mem_of_getElem? (i := 1) rfl) rfl _ _ rfl rfl
        obtain ⟨x, y, rfl⟩ := two_of (Nat.le_antisymm hu hc)
        have d26 : a.eval (.tmp 26) = andT x y := d26
        by_cases hx : andT x y = .bool true
        · obtain ⟨hx0, hy⟩ := and_yes hx
          have e30 : a.eval (.tmp 30) = .pointer (some ⟨g, 3, none⟩) := by rw [d30, hx0, hy]; rfl
          have cg : wz.cell? ⟨g, 3, none⟩ = some (.pointer pr) := by rw [Lib.cell_of_heap (HCN.out wz (hH.elim (fun h => h.2.elim (fun h => h.2.2) (fun h => by obtain ⟨rfl, _⟩ := h; cases hy)) (fun h => by obtain ⟨rfl, _⟩ := h; cases hx0)))]; rfl
          exact Or.inl ⟨QT.wanted_of rfl rfl rfl (d26.trans hx), wpIn_value (v := .pointer pr) (by simp [go_sem, QT.nf e30, cg]) ⟨by rw [hx0, hy]; rfl, hH⟩⟩
        · exact Or.inr ⟨wanted_no rfl rfl rfl d26 hx, ifT_no hx _⟩
      | 27, ho =>
        obtain rfl := (Option.some.inj ho).symm
        exact absurd (by decide) hip
      | 28, ho =>
        obtain rfl := (Option.some.inj ho).symm
        have d26 : a.eval (.tmp 26) = walkV g gw gy ly pl pr k z 21 r := hdep _ (Array.mem_of_getElem? (i := 0) rfl) rfl _ _ rfl rfl
        have d32 : a.eval (.tmp 32) = walkV g gw gy ly pl pr k z 27 r := hdep _ (Array.mem_of_getElem? (i := 1) rfl) rfl _ _ rfl rfl
        have d7 : a.eval (.tmp 7) = walkV g gw gy ly pl pr k z 2 r := hdep _ (Array.mem_of_getElem? (i := 2) rfl) rfl _ _ rfl rfl
        by_cases hx : andT (r.getD 0 undef) (r.getD 1 undef) = .bool true
        · obtain ⟨hx0, hy⟩ := and_yes hx
          have e26 : a.eval (.tmp 26) = .bool true := d26.trans hx
          rcases walkH_c hH hc hx0 hy with h3 | h3
          · have e32 : a.eval (.tmp 32) = .bool true := d32.trans h3
            exact Or.inl ⟨QT.wanted_of rfl rfl rfl d7, wpIn_value (v := .bool true) (by simp [go_sem, QT.nf e26, QT.nf e32]) ⟨by rw [show walkV g gw gy ly pl pr k z 28 r = andT (andT (r.getD 0 undef) (r.getD 1 undef)) (r.getD 2 undef) from rfl, hx, h3]; rfl, hH⟩⟩
          · have e32 : a.eval (.tmp 32) = .bool false := d32.trans h3
            exact Or.inl ⟨QT.wanted_of rfl rfl rfl d7, wpIn_value (v := .bool false) (by simp [go_sem, QT.nf e26, QT.nf e32]) ⟨by rw [show walkV g gw gy ly pl pr k z 28 r = andT (andT (r.getD 0 undef) (r.getD 1 undef)) (r.getD 2 undef) from rfl, hx, h3]; rfl, hH⟩⟩
        · have hxf : andT (r.getD 0 undef) (r.getD 1 undef) = .bool false := and_else (walkH_a hH (Nat.le_trans (by decide) hc)) (fun h => walkH_b hH (Nat.le_trans (by decide) hc) h) hx
          have e26 : a.eval (.tmp 26) = .bool false := d26.trans hxf
          exact Or.inl ⟨QT.wanted_of rfl rfl rfl d7, wpIn_value (v := .bool false) (by simp [go_sem, QT.nf e26]) ⟨by rw [show walkV g gw gy ly pl pr k z 28 r = andT (andT (r.getD 0 undef) (r.getD 1 undef)) (r.getD 2 undef) from rfl, hxf]; rfl, hH⟩⟩
      | 29, ho =>
        obtain rfl := (Option.some.inj ho).symm
        have d7 : a.eval (.tmp 7) = walkV g gw gy ly pl pr k z 2 r := hdep _ (Array.mem_of_getElem? (i := 0) rfl) rfl _ _ rfl rfl
        have d33 : a.eval (.tmp 33) = walkV g gw gy ly pl pr k z 28 r := hdep _ (Array.mem_of_getElem? (i := 1) rfl) rfl _ _ rfl rfl
        have d7 : a.eval (.tmp 7) = .bool false := d7
        exact Or.inl ⟨rfl, wpIn_value (v := walkV g gw gy ly pl pr k z 29 r) (by simp [go_sem, QT.nf d7, QT.nf d33]; rfl) ⟨rfl, hH⟩⟩
      | 30, ho =>
        obtain rfl := (Option.some.inj ho).symm
        have d34 : a.eval (.tmp 34) = walkV g gw gy ly pl pr k z 29 r := hdep _ (Array.mem_of_getElem? (i := 0) rfl) rfl _ _ rfl rfl
        exact Or.inl ⟨rfl, wpIn_value (BigFrame.run_assign (.tmp 34) rfl wz) ⟨by rw [d34]; rfl, hH⟩⟩
      | i + 31, ho => simp at ho
    · match kk, hk with
      | 0, hk =>
        obtain rfl := (Option.some.inj hk).symm
        obtain rfl := (Option.some.inj ho).symm
        obtain rfl : r = [] := List.eq_nil_of_length_eq_zero hr
        have d8 : a.eval (.tmp 8) = walkV g gw gy ly pl pr k z 3 [] := hdep _ (Array.mem_of_getElem? (i := 0) rfl) rfl _ _ rfl rfl
        have d12 : a.eval (.tmp 12) = walkV g gw gy ly pl pr k z 7 [] := hdep _ (Array.mem_of_getElem? (i := 1) rfl) rfl _ _ rfl rfl
        have d7 : a.eval (.tmp 7) = walkV g gw gy ly pl pr k z 2 [] := hdep _ (Array.mem_of_getElem? (i := 3) rfl) rfl _ _ rfl rfl
        have d8 : a.eval (.tmp 8) = walkF gw gy := d8
        have d12 : a.eval (.tmp 12) = .pointer pl := d12
        exact Or.inl ⟨QT.wanted_of rfl rfl rfl d7, wpIn_enter (f := 28) (args := #[.pointer pl, .pointer (some ⟨gw, 0, none⟩), .pointer (some ⟨gy, 0, none⟩)]) (R := fun v w' => walkH J Jx pre lo.list hi.list (k, z) n₀ n₁ W [v] w') (by simp [go_sem, QT.nf d8, QT.nf d12]) (callsIn_wide.2 ((HIL.out wz hH.2 hH.1).mono fun e w' h => h.elim (fun h => ⟨_, h.1, Or.inl ⟨rfl, h.2.1, hH.2.trans h.2.2⟩⟩) (fun h => ⟨_, h.1, Or.inr ⟨rfl, h.2⟩⟩))) fun v w' h => ⟨v, rfl, h⟩⟩
      | 1, hk =>
        obtain rfl := (Option.some.inj hk).symm
        obtain rfl := (Option.some.inj ho).symm
        obtain ⟨x, rfl⟩ := one_of hr
        have d15 : a.eval (.tmp 15) = walkV g gw gy ly pl pr k z 10 [x] := hdep _ (Array.mem_of_getElem? (i := 0) rfl) rfl _ _ rfl rfl
        have d19 : a.eval (.tmp 19) = walkV g gw gy ly pl pr k z 14 [x] := hdep _ (Array.mem_of_getElem? (i := 1) rfl) rfl _ _ rfl rfl
        have d23 : a.eval (.tmp 23) = walkV g gw gy ly pl pr k z 18 [x] := hdep _ (Array.mem_of_getElem? (i := 2) rfl) rfl _ _ rfl rfl
        have d14 : a.eval (.tmp 14) = walkV g gw gy ly pl pr k z 9 [x] := hdep _ (Array.mem_of_getElem? (i := 4) rfl) rfl _ _ rfl rfl
        have d14 : a.eval (.tmp 14) = x := d14
        rcases hH with ⟨rfl, hj, hk2⟩ | ⟨rfl, hq⟩
        · have d15 : a.eval (.tmp 15) = .func (.yield ly) #[] #[] := d15
          have d19 : a.eval (.tmp 19) = .string k := d19
          have d23 : a.eval (.tmp 23) = .int .u64 z := d23
          obtain ⟨fn, tmps, assign, body, hy, hR⟩ := HYY.out (4 - 1) wz hj
          refine Or.inl ⟨QT.wanted_of rfl rfl rfl d14, wpIn_round (R := fun v w' => walkH J Jx pre lo.list hi.list (k, z) n₀ n₁ W [.bool true, v] w') (by simp [go_sem, QT.nf d15, QT.nf d19, QT.nf d23, hy]) (hR.mono fun e w' h => h.elim (fun h => ⟨_, h.1, Or.inl ⟨rfl, Or.inl ⟨rfl, h.2.1, hk2.trans h.2.2⟩⟩⟩) (fun h => ⟨_, h.1, Or.inl ⟨rfl, Or.inr ⟨rfl, h.2⟩⟩⟩)) fun v w' h => ⟨v, rfl, h⟩⟩
        · exact Or.inr ⟨wanted_no rfl rfl rfl d14 (by simp), Or.inr ⟨rfl, rfl, hq⟩⟩
      | 2, hk =>
        obtain rfl := (Option.some.inj hk).symm
        obtain rfl := (Option.some.inj ho).symm
        obtain ⟨x, y, rfl⟩ := two_of hr
        have d27 : a.eval (.tmp 27) = walkV g gw gy ly pl pr k z 22 [x, y] := hdep _ (Array.mem_of_getElem? (i := 0) rfl) rfl _ _ rfl rfl
        have d31 : a.eval (.tmp 31) = walkV g gw gy ly pl pr k z 26 [x, y] := hdep _ (Array.mem_of_getElem? (i := 1) rfl) rfl _ _ rfl rfl
        have d26 : a.eval (.tmp 26) = walkV g gw gy ly pl pr k z 21 [x, y] := hdep _ (Array.mem_of_getElem? (i := 3) rfl) rfl _ _ rfl rfl
        have d26 : a.eval (.tmp 26) = andT x y := d26
        rcases hH with ⟨rfl, ⟨rfl, hj, hk2⟩ | ⟨rfl, hx⟩⟩ | ⟨rfl, rfl, hq⟩
        · have d27 : a.eval (.tmp 27) = walkF gw gy := d27
          have d31 : a.eval (.tmp 31) = .pointer pr := d31
          have d26 : a.eval (.tmp 26) = .bool true := d26
          exact Or.inl ⟨QT.wanted_of rfl rfl rfl d26, wpIn_enter (f := 28) (args := #[.pointer pr, .pointer (some ⟨gw, 0, none⟩), .pointer (some ⟨gy, 0, none⟩)]) (R := fun v w' => walkH J Jx pre lo.list hi.list (k, z) n₀ n₁ W [.bool true, .bool true, v] w') (by simp [go_sem, QT.nf d27, QT.nf d31]) (callsIn_wide.2 ((HIR.out wz hk2 hj).mono fun e w' h => h.elim (fun h => ⟨_, h.1, Or.inl ⟨rfl, rfl, Or.inl ⟨rfl, h.2.1, hk2.trans h.2.2⟩⟩⟩) (fun h => ⟨_, h.1, Or.inl ⟨rfl, rfl, Or.inr ⟨rfl, h.2⟩⟩⟩))) fun v w' h => ⟨v, rfl, h⟩⟩
        · have d26 : a.eval (.tmp 26) = .bool false := d26
          exact Or.inr ⟨wanted_no rfl rfl rfl d26 (by simp), Or.inr (Or.inl ⟨rfl, rfl, rfl, hx⟩)⟩
        · have d26 : a.eval (.tmp 26) = .bool false := d26
          exact Or.inr ⟨wanted_no rfl rfl rfl d26 (by simp), Or.inr (Or.inr ⟨rfl, rfl, rfl, hq⟩)⟩
      | kk + 3, hk => simp at hk
    · have f30 : a.eval (.tmp 4) = walkV g gw gy ly pl pr k z 30 r := hf 30 _ _ rfl rfl
      obtain ⟨x, y, u, rfl⟩ := three_of hr
      have HDF := Lib.hid hag.defers
      have f30 : a.eval (.tmp 4) = andT (andT x y) u := f30
      have HR := Lib.hid (show a.tmps.getD 4 undef = andT (andT x y) u by simpa [Act.eval] using f30)
      have HH := Lib.hid hH
      clear hag hf f30 hH hr
      go_wp2_with fail
      rcases HH.out with ⟨rfl, rfl, ⟨rfl, hj, hk2⟩ | ⟨rfl, q, hq, hx⟩⟩ | ⟨rfl, rfl, rfl, hx⟩ | ⟨rfl, rfl, rfl, q, hq, hx⟩
      · exact bodyPost_ret (results_tmp rfl _ _ _) HDF.out (Or.inl ⟨by rw [HR.out]; rfl, by simpa only [List.append_assoc, List.singleton_append] using hj, hk2⟩)
      · obtain ⟨t, ht⟩ := hq
        exact bodyPost_ret (results_tmp rfl _ _ _) HDF.out (Or.inr ⟨by rw [HR.out]; rfl, lo.list ++ (k, z) :: q, ⟨t, by simp [← ht]⟩, by simpa only [List.append_assoc, List.singleton_append] using hx⟩)
      · exact bodyPost_ret (results_tmp rfl _ _ _) HDF.out (Or.inr ⟨by rw [HR.out]; rfl, lo.list ++ [(k, z)], ⟨hi.list, by simp⟩, by simpa only [List.append_assoc] using hx⟩)
      · exact bodyPost_ret (results_tmp rfl _ _ _) HDF.out (Or.inr ⟨by rw [HR.out]; rfl, q, hq.trans ⟨(k, z) :: hi.list, rfl⟩, hx⟩)

end Go.Proofs.Ytpepijoppgbbfaa.Shf
