/- crew: first's beginning, on: found and its box, the group; the loop's head. Made by wip/tools/crew/mkAj.py. -/
import Derived.Test.YtbckmkppmdfnnaaCrAi
namespace Go.Proofs.Ytbckmkppmdfnnaa.Crew
open Go.Conc Go.RowKit Go.Conc.Lib Go.ConcR.Gen Go.Proofs.Ytbckmkppmdfnnaa.QT
open Go.ConcR (wgBlock WgAt)
theorem array45 (T : Array Value) (h : T.size = 45) : ∃ v0 v1 v2 v3 v4 v5 v6 v7 v8 v9 v10 v11 v12 v13 v14 v15 v16 v17 v18 v19 v20 v21 v22 v23 v24 v25 v26 v27 v28 v29 v30 v31 v32 v33 v34 v35 v36 v37 v38 v39 v40 v41 v42 v43 v44 : Value, T = #[v0, v1, v2, v3, v4, v5, v6, v7, v8, v9, v10, v11, v12, v13, v14, v15, v16, v17, v18, v19, v20, v21, v22, v23, v24, v25, v26, v27, v28, v29, v30, v31, v32, v33, v34, v35, v36, v37, v38, v39, v40, v41, v42, v43, v44] := by
  obtain ⟨l⟩ := T
  simp only [List.size_toArray] at h
  rcases l with _ | ⟨v0, l⟩
  · simp at h
  rcases l with _ | ⟨v1, l⟩
  · simp at h
  rcases l with _ | ⟨v2, l⟩
  · simp at h
  rcases l with _ | ⟨v3, l⟩
  · simp at h
  rcases l with _ | ⟨v4, l⟩
  · simp at h
  rcases l with _ | ⟨v5, l⟩
  · simp at h
  rcases l with _ | ⟨v6, l⟩
  · simp at h
  rcases l with _ | ⟨v7, l⟩
  · simp at h
  rcases l with _ | ⟨v8, l⟩
  · simp at h
  rcases l with _ | ⟨v9, l⟩
  · simp at h
  rcases l with _ | ⟨v10, l⟩
  · simp at h
  rcases l with _ | ⟨v11, l⟩
  · simp at h
  rcases l with _ | ⟨v12, l⟩
  · simp at h
  rcases l with _ | ⟨v13, l⟩
  · simp at h
  rcases l with _ | ⟨v14, l⟩
  · simp at h
  rcases l with _ | ⟨v15, l⟩
  · simp at h
  rcases l with _ | ⟨v16, l⟩
  · simp at h
  rcases l with _ | ⟨v17, l⟩
  · simp at h
  rcases l with _ | ⟨v18, l⟩
  · simp at h
  rcases l with _ | ⟨v19, l⟩
  · simp at h
  rcases l with _ | ⟨v20, l⟩
  · simp at h
  rcases l with _ | ⟨v21, l⟩
  · simp at h
  rcases l with _ | ⟨v22, l⟩
  · simp at h
  rcases l with _ | ⟨v23, l⟩
  · simp at h
  rcases l with _ | ⟨v24, l⟩
  · simp at h
  rcases l with _ | ⟨v25, l⟩
  · simp at h
  rcases l with _ | ⟨v26, l⟩
  · simp at h
  rcases l with _ | ⟨v27, l⟩
  · simp at h
  rcases l with _ | ⟨v28, l⟩
  · simp at h
  rcases l with _ | ⟨v29, l⟩
  · simp at h
  rcases l with _ | ⟨v30, l⟩
  · simp at h
  rcases l with _ | ⟨v31, l⟩
  · simp at h
  rcases l with _ | ⟨v32, l⟩
  · simp at h
  rcases l with _ | ⟨v33, l⟩
  · simp at h
  rcases l with _ | ⟨v34, l⟩
  · simp at h
  rcases l with _ | ⟨v35, l⟩
  · simp at h
  rcases l with _ | ⟨v36, l⟩
  · simp at h
  rcases l with _ | ⟨v37, l⟩
  · simp at h
  rcases l with _ | ⟨v38, l⟩
  · simp at h
  rcases l with _ | ⟨v39, l⟩
  · simp at h
  rcases l with _ | ⟨v40, l⟩
  · simp at h
  rcases l with _ | ⟨v41, l⟩
  · simp at h
  rcases l with _ | ⟨v42, l⟩
  · simp at h
  rcases l with _ | ⟨v43, l⟩
  · simp at h
  rcases l with _ | ⟨v44, l⟩
  · simp at h
  rcases l with _ | ⟨x, l⟩
  · exact ⟨v0, v1, v2, v3, v4, v5, v6, v7, v8, v9, v10, v11, v12, v13, v14, v15, v16, v17, v18, v19, v20, v21, v22, v23, v24, v25, v26, v27, v28, v29, v30, v31, v32, v33, v34, v35, v36, v37, v38, v39, v40, v41, v42, v43, v44, rfl⟩
  · simp at h

/-- What stands in these blocks; all else is as it was. -/
structure Built (w₀ : World) (l : List (Nat × Obj)) (w : World) : Prop where
  olds : Olds w₀ w
  has : ∀ p ∈ l, w.heap[p.1]? = some p.2
theorem Built.at {w₀ w w₁ : World} {l : List (Nat × Obj)} (h : Built w₀ l w) (k : AtRel w w₁) : Built w₀ l w₁ := by
  have := h.olds.at k
  obtain ⟨d, rfl⟩ := k
  exact ⟨this, h.has⟩
theorem Built.lt {w₀ w : World} {l : List (Nat × Obj)} (h : Built w₀ l w) : ∀ p ∈ l, p.1 < w.heap.size := fun p hp => lt_of (h.has p hp)
theorem Built.alloc {w₀ w : World} {l : List (Nat × Obj)} {o : Obj} (h : Built w₀ l w) : Built w₀ ((w.heap.size, o) :: l) (w.alloc o) :=
  ⟨h.olds.alloc, fun p hp => (List.mem_cons.1 hp).elim (fun e => by rw [e]; exact new_alloc _ _) fun hp => keep_alloc (h.has p hp)⟩
theorem Built.set {w₀ w : World} {l : List (Nat × Obj)} {b : Nat} {u v : Value} {ty : TypeId} (h : Built w₀ ((b, .cells #[u] ty) :: l) w) (hl : ∀ p ∈ l, p.1 < b) (hb : w₀.heap.size ≤ b) : Built w₀ ((b, .cells #[v] ty) :: l) (w.setCell ⟨b, 0, none⟩ v) := by
  obtain ⟨k1, k2⟩ := box_set (v := v) (h.has (b, .cells #[u] ty) (by simp))
  refine ⟨h.olds.set hb v, fun p hp => (List.mem_cons.1 hp).elim (fun e => by rw [e]; exact k1) fun hp' => ?_⟩
  have := hl p hp'
  exact (k2 p.1 (by omega)).trans (h.has p (List.mem_cons_of_mem _ hp'))
section
variable {cs : List Frame} {Stop : Goroutine → World → Prop} {Z : Nat → Prop}
set_option maxRecDepth 100000 in
set_option maxHeartbeats 2000000 in
theorem first_b {M n k1 : Nat} {wk : Int} {fv : Fn} {cap : Array Value} {w0 w : World} {vI vP vS Cp Cs : Nat} {a : Act} (hn : n ≤ 16) (hZ : ∀ b, Z b → b < w0.heap.size) (hF : Built w0 [(vI, .cells #[.func fv #[] cap] 50), (Cp, emptyChan), (Cs, emptyChan), (vP, .cells #[.chan (some Cp)] 55), (vS, .cells #[.chan (some Cs)] 56)] w)
    (hag : Agrees ops2 ⟨#[.int .i64 (M : Nat), .int .i64 (n : Nat), .func fv #[] cap, undef, undef, .pointer (some ⟨vI, 0, none⟩), .int .i64 0, undef, undef, undef, undef, undef, undef, .int .i64 wk, .int .i64 (k1 : Nat), .int .i64 (M : Nat), .int .i64 (n : Nat), undef, undef, undef, undef, undef, undef, undef, undef, undef, undef, undef, undef, undef, undef, undef, undef, undef, undef, undef, undef, undef, undef, undef, undef, undef, undef, undef, undef], []⟩ a) (h7 : a.tmps[7]?.getD undef = .pointer (some ⟨vP, 0, none⟩)) (h8 : a.tmps[8]?.getD undef = .pointer (some ⟨vS, 0, none⟩))
    (hS : ∀ (w' : World) (vF Cf Wg : Nat) (u2 u3 u4 u6 u11 u12 u13 u14 u15 u16 u17 u18 u19 u20 u23 u24 u25 u26 u27 u28 u29 u30 u31 u32 u33 u34 u35 u36 u37 u38 u39 u40 u41 u42 u43 u44 : Value), w0.heap.size ≤ Cf → w0.heap.size ≤ vF → w0.heap.size ≤ Wg → (∀ p ∈ ([(vI, .cells #[.func fv #[] cap] 50), (Cp, emptyChan), (Cs, emptyChan), (vP, .cells #[.chan (some Cp)] 55), (vS, .cells #[.chan (some Cs)] 56)] : List (Nat × Obj)), p.1 < Cf) → Cf < vF → vF < Wg →
      Built w0 ((Wg, wgBlock 66 0 0) :: (vF, .cells #[.chan (some Cf)] 55) :: (Cf, .chan n #[] false 0 0 false) :: [(vI, .cells #[.func fv #[] cap] 50), (Cp, emptyChan), (Cs, emptyChan), (vP, .cells #[.chan (some Cp)] 55), (vS, .cells #[.chan (some Cs)] 56)]) w' → Stop (G ((base 29).at ⟨#[.int .i64 (M : Nat), .int .i64 (n : Nat), u2, u3, u4, .pointer (some ⟨vI, 0, none⟩), u6, .pointer (some ⟨vP, 0, none⟩), .pointer (some ⟨vS, 0, none⟩), .pointer (some ⟨vF, 0, none⟩), .pointer (some ⟨Wg, 0, none⟩), u11, u12, u13, u14, u15, u16, u17, u18, u19, u20, .int .i64 (n : Nat), .int .i64 ((0 : Nat) : Int), u23, u24, u25, u26, u27, u28, u29, u30, u31, u32, u33, u34, u35, u36, u37, u38, u39, u40, u41, u42, u43, u44], []⟩ [.code L29, .inLoop L29, .inBlock 0, .code R10]) cs) w') :
    Goes Try.prog true AtRel (DZ Z) Stop 30 (G ((base 29).at a [.inRegion ops2.toArray [], .code R3]) cs) w := by
  have T := termsZ Z
  have hd : ∀ t, t ≠ 7 → t ≠ 8 → t ≠ 17 → t ≠ 18 → ∀ o ∈ ops2, o.dst ≠ some t := by
    intro t t7 t8 t17 t18 o ho
    simp [ops2, body29, Try.f29] at ho
    rcases ho with rfl | rfl | rfl | rfl | rfl | rfl <;> simp [Ne.symm t7, Ne.symm t8, Ne.symm t17, Ne.symm t18]
  have e0 := hag.same 0 (hd 0 (by decide) (by decide) (by decide) (by decide))
  have e1 := hag.same 1 (hd 1 (by decide) (by decide) (by decide) (by decide))
  have e2 := hag.same 2 (hd 2 (by decide) (by decide) (by decide) (by decide))
  have e3 := hag.same 3 (hd 3 (by decide) (by decide) (by decide) (by decide))
  have e4 := hag.same 4 (hd 4 (by decide) (by decide) (by decide) (by decide))
  have e5 := hag.same 5 (hd 5 (by decide) (by decide) (by decide) (by decide))
  have e6 := hag.same 6 (hd 6 (by decide) (by decide) (by decide) (by decide))
  have e9 := hag.same 9 (hd 9 (by decide) (by decide) (by decide) (by decide))
  have e10 := hag.same 10 (hd 10 (by decide) (by decide) (by decide) (by decide))
  have e11 := hag.same 11 (hd 11 (by decide) (by decide) (by decide) (by decide))
  have e12 := hag.same 12 (hd 12 (by decide) (by decide) (by decide) (by decide))
  have e13 := hag.same 13 (hd 13 (by decide) (by decide) (by decide) (by decide))
  have e14 := hag.same 14 (hd 14 (by decide) (by decide) (by decide) (by decide))
  have e15 := hag.same 15 (hd 15 (by decide) (by decide) (by decide) (by decide))
  have e16 := hag.same 16 (hd 16 (by decide) (by decide) (by decide) (by decide))
  have e19 := hag.same 19 (hd 19 (by decide) (by decide) (by decide) (by decide))
  have e20 := hag.same 20 (hd 20 (by decide) (by decide) (by decide) (by decide))
  have e21 := hag.same 21 (hd 21 (by decide) (by decide) (by decide) (by decide))
  have e22 := hag.same 22 (hd 22 (by decide) (by decide) (by decide) (by decide))
  have e23 := hag.same 23 (hd 23 (by decide) (by decide) (by decide) (by decide))
  have e24 := hag.same 24 (hd 24 (by decide) (by decide) (by decide) (by decide))
  have e25 := hag.same 25 (hd 25 (by decide) (by decide) (by decide) (by decide))
  have e26 := hag.same 26 (hd 26 (by decide) (by decide) (by decide) (by decide))
  have e27 := hag.same 27 (hd 27 (by decide) (by decide) (by decide) (by decide))
  have e28 := hag.same 28 (hd 28 (by decide) (by decide) (by decide) (by decide))
  have e29 := hag.same 29 (hd 29 (by decide) (by decide) (by decide) (by decide))
  have e30 := hag.same 30 (hd 30 (by decide) (by decide) (by decide) (by decide))
  have e31 := hag.same 31 (hd 31 (by decide) (by decide) (by decide) (by decide))
  have e32 := hag.same 32 (hd 32 (by decide) (by decide) (by decide) (by decide))
  have e33 := hag.same 33 (hd 33 (by decide) (by decide) (by decide) (by decide))
  have e34 := hag.same 34 (hd 34 (by decide) (by decide) (by decide) (by decide))
  have e35 := hag.same 35 (hd 35 (by decide) (by decide) (by decide) (by decide))
  have e36 := hag.same 36 (hd 36 (by decide) (by decide) (by decide) (by decide))
  have e37 := hag.same 37 (hd 37 (by decide) (by decide) (by decide) (by decide))
  have e38 := hag.same 38 (hd 38 (by decide) (by decide) (by decide) (by decide))
  have e39 := hag.same 39 (hd 39 (by decide) (by decide) (by decide) (by decide))
  have e40 := hag.same 40 (hd 40 (by decide) (by decide) (by decide) (by decide))
  have e41 := hag.same 41 (hd 41 (by decide) (by decide) (by decide) (by decide))
  have e42 := hag.same 42 (hd 42 (by decide) (by decide) (by decide) (by decide))
  have e43 := hag.same 43 (hd 43 (by decide) (by decide) (by decide) (by decide))
  have e44 := hag.same 44 (hd 44 (by decide) (by decide) (by decide) (by decide))
  have hsz := hag.size
  have hdf := hag.defers
  obtain ⟨tmps, defers⟩ := a
  obtain ⟨v0, v1, v2, v3, v4, v5, v6, v7, v8, v9, v10, v11, v12, v13, v14, v15, v16, v17, v18, v19, v20, v21, v22, v23, v24, v25, v26, v27, v28, v29, v30, v31, v32, v33, v34, v35, v36, v37, v38, v39, v40, v41, v42, v43, v44, rfl⟩ := array45 tmps hsz
  clear hag hsz hd
  simp at e0 e1 e2 e3 e4 e5 e6 e9 e10 e11 e12 e13 e14 e15 e16 e19 e20 e21 e22 e23 e24 e25 e26 e27 e28 e29 e30 e31 e32 e33 e34 e35 e36 e37 e38 e39 e40 e41 e42 e43 e44 h7 h8 hdf
  subst e0 e1 e2 e3 e4 e5 e6 e9 e10 e11 e12 e13 e14 e15 e16 e19 e20 e21 e22 e23 e24 e25 e26 e27 e28 e29 e30 e31 e32 e33 e34 e35 e36 e37 e38 e39 e40 e41 e42 e43 e44 h7 h8 hdf
  simp only [R3, R10, L29, body29, Try.f29, Option.getD_some] at hS ⊢
  refine Goes.step rfl (fun _ h₁ => ?_)
  replace hF := Built.at hF h₁
  clear h₁
  rw [stepG_region_end]
  simp only [goes_go]
  refine ⟨T.idle _, ?_⟩
  refine Goes.step rfl (fun _ h₁ => ?_)
  replace hF := Built.at hF h₁
  clear h₁
  rw [stepG_seq]
  simp only [goes_go]
  refine ⟨T.idle _, ?_⟩
  refine Goes.step rfl (fun _ h₁ => ?_)
  replace hF := Built.at hF h₁
  clear h₁
  rw [stepG_region]
  simp only [goes_go, List.size_toArray, List.length_cons, List.length_nil, Nat.reduceAdd, Nat.zero_add, List.range, List.range.loop]
  refine ⟨T.idle _, ?_⟩
  refine Goes.step rfl (fun _ h₁ => ?_)
  replace hF := Built.at hF h₁
  clear h₁
  refine goes_oper_k rfl rfl (by k_ne) (fun κ hκ => ?_)
  go_simp
  refine hκ _ _ ⟨idle_of T (fun e he => ?_), ?_⟩
  · have hm := mem_listed he
    simp [go_sem] at hm
  clear hκ κ
  refine Goes.step rfl (fun x h₁ => ?_)
  replace hF := Built.at hF h₁
  clear h₁
  rw [stepG_value (v := .chan (some x.heap.size)) (w' := x.alloc (.chan n #[] false 0 0 false)) rfl rfl (by k_ne) (by unfold execOp; simp [go_sem, (mk55 x n hn).1])]
  simp only [goes_go]
  refine ⟨fun e he => (?_ : EvC Z e), ?_⟩
  · have hm := mem_listed he
    unfold execOp at hm
    simp [go_sem, (mk55 x n hn).2] at hm
  have l1 := hF.lt
  have z1 := hF.olds.size
  replace hF := hF.alloc (o := .chan n #[] false 0 0 false)
  obtain ⟨Cf, hCf⟩ : ∃ Cf, Cf = x.heap.size := ⟨_, rfl⟩
  rw [← hCf] at hF l1 z1 ⊢
  walk_nrm
  refine Goes.step rfl (fun y h₁ => ?_)
  replace hF := Built.at hF h₁
  clear h₁
  rw [stepG_value (v := .pointer (some ⟨y.heap.size, 0, none⟩)) (w' := y.alloc (.cells #[.chan none] 55)) rfl rfl (by k_ne) (by unfold execOp; simp [go_sem])]
  simp only [goes_go]
  refine ⟨fun e he => (?_ : EvC Z e), ?_⟩
  · have hm := mem_listed he
    unfold execOp at hm
    simp [go_sem] at hm
  have l2 := hF.lt
  replace hF := hF.alloc (o := .cells #[.chan none] 55)
  obtain ⟨vF, hvF⟩ : ∃ vF, vF = y.heap.size := ⟨_, rfl⟩
  rw [← hvF] at hF l2 ⊢
  have z2 : Cf < vF := l2 (Cf, .chan n #[] false 0 0 false) (by simp)
  walk_nrm
  refine Goes.step rfl (fun z h₁ => ?_)
  replace hF := Built.at hF h₁
  clear h₁
  have hu : z.cell? ⟨vF, 0, none⟩ = some (.chan none) := by have := hF.has (vF, .cells #[.chan none] 55) (by simp); simp [World.cell?, this]
  have hz : z.frozen? ⟨vF, 0, none⟩ = false := by have := hF.has (vF, .cells #[.chan none] 55) (by simp); simp [World.frozen?, this]
  rw [stepG_none (w' := z.setCell ⟨vF, 0, none⟩ (.chan (some Cf))) rfl rfl (by k_ne) (by unfold execOp; simp [go_sem, stored, hu, hz])]
  simp only [goes_go]
  refine ⟨fun e he => (?_ : EvC Z e), ?_⟩
  · have hm := mem_listed he
    unfold execOp at hm
    simp [go_sem, storedEv, hu, hz] at hm
    subst hm
    exact evC_cell true fun hzb => by have := hZ _ hzb; dsimp only at this; omega
  clear hu hz
  replace hF := hF.set (v := .chan (some Cf)) l2 (by omega)
  walk_nrm
  refine Goes.step rfl (fun _ h₁ => ?_)
  replace hF := Built.at hF h₁
  clear h₁
  rw [stepG_region_end]
  simp only [goes_go]
  refine ⟨T.idle _, ?_⟩
  refine Goes.step rfl (fun _ h₁ => ?_)
  replace hF := Built.at hF h₁
  clear h₁
  rw [stepG_seq]
  simp only [goes_go]
  refine ⟨T.idle _, ?_⟩
  refine Goes.step rfl (fun _ h₁ => ?_)
  replace hF := Built.at hF h₁
  clear h₁
  rw [stepG_region]
  simp only [goes_go, List.size_toArray, List.length_cons, List.length_nil, Nat.zero_add, List.range, List.range.loop]
  refine ⟨T.idle _, ?_⟩
  refine Goes.step rfl (fun x2 h₁ => ?_)
  replace hF := Built.at hF h₁
  clear h₁
  rw [stepG_value (v := .pointer (some ⟨x2.heap.size, 0, none⟩)) (w' := x2.alloc (wgBlock 66 0 0)) rfl rfl (by k_ne) (by unfold execOp; simp [go_sem, wgBlock])]
  simp only [goes_go]
  refine ⟨fun e he => (?_ : EvC Z e), ?_⟩
  · have hm := mem_listed he
    unfold execOp at hm
    simp [go_sem] at hm
  have l3 := hF.lt
  replace hF := hF.alloc (o := wgBlock 66 0 0)
  obtain ⟨Wg, hWg⟩ : ∃ Wg, Wg = x2.heap.size := ⟨_, rfl⟩
  rw [← hWg] at hF l3 ⊢
  have z3 : vF < Wg := l3 (vF, .cells #[.chan (some Cf)] 55) (by simp)
  walk_nrm
  refine Goes.step rfl (fun _ h₁ => ?_)
  replace hF := Built.at hF h₁
  clear h₁
  rw [stepG_region_end]
  simp only [goes_go]
  refine ⟨T.idle _, ?_⟩
  refine Goes.step rfl (fun _ h₁ => ?_)
  replace hF := Built.at hF h₁
  clear h₁
  rw [stepG_seq]
  simp only [goes_go]
  refine ⟨T.idle _, ?_⟩
  refine Goes.step rfl (fun _ h₁ => ?_)
  replace hF := Built.at hF h₁
  clear h₁
  rw [stepG_seq]
  simp only [goes_go]
  refine ⟨T.idle _, ?_⟩
  refine Goes.step rfl (fun _ h₁ => ?_)
  replace hF := Built.at hF h₁
  clear h₁
  rw [stepG_region]
  simp only [goes_go, List.size_toArray, List.length_cons, List.length_nil, Nat.reduceAdd, Nat.zero_add, List.range, List.range.loop]
  refine ⟨T.idle _, ?_⟩
  refine Goes.step rfl (fun _ h₁ => ?_)
  replace hF := Built.at hF h₁
  clear h₁
  refine goes_oper_k rfl rfl (by k_ne) (fun κ hκ => ?_)
  go_simp
  refine hκ _ _ ⟨idle_of T (fun e he => ?_), ?_⟩
  · have hm := mem_listed he
    simp [go_sem] at hm
  clear hκ κ
  refine Goes.step rfl (fun _ h₁ => ?_)
  replace hF := Built.at hF h₁
  clear h₁
  refine goes_oper_k rfl rfl (by k_ne) (fun κ hκ => ?_)
  go_simp
  refine hκ _ _ ⟨idle_of T (fun e he => ?_), ?_⟩
  · have hm := mem_listed he
    simp [go_sem] at hm
  clear hκ κ
  refine Goes.step rfl (fun _ h₁ => ?_)
  replace hF := Built.at hF h₁
  clear h₁
  rw [stepG_region_end]
  simp only [goes_go]
  refine ⟨T.idle _, ?_⟩
  refine Goes.step rfl (fun _ h₁ => ?_)
  replace hF := Built.at hF h₁
  clear h₁
  rw [stepG_block]
  simp only [goes_go]
  refine ⟨T.idle _, ?_⟩
  refine Goes.step rfl (fun _ h₁ => ?_)
  replace hF := Built.at hF h₁
  clear h₁
  rw [stepG_loop]
  simp only [goes_go]
  refine ⟨T.idle _, ?_⟩
  subst hCf hvF hWg
  exact Goes.stop fun w₁ h₁ => hS w₁ _ _ _ _ _ _ _ _ _ _ _ _ _ _ _ _ _ _ _ _ _ _ _ _ _ _ _ _ _ _ _ _ _ _ _ _ _ _ _ z1 (by omega) (by omega) l1 z2 z3 (hF.at h₁)
end
end Go.Proofs.Ytbckmkppmdfnnaa.Crew
