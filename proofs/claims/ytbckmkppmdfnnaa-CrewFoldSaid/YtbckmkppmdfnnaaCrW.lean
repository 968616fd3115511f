/- crew: sync.WaitGroup's Done, walked under whatever rely keeps the group a group: where a worker stands in it, and what each of its marks and atomic steps does. -/
import Derived.Conc.WgGenN3
namespace Go.Proofs.Ytbckmkppmdfnnaa.Crew
open Go.Conc Go.RowKit Go.Conc.Lib Go.ConcR.Gen
open Go.ConcN (WgLive)
open Go.ConcN.Gen (WgLive.cell0 WgLive.cell1)
open Go.ConcR (KK wgBlock WgAt stA smA rd wr mk Payload DC0)
instance pay0 : Payload := ⟨0⟩

/-- A step that says one of the library's words, and a way on from it that touches nothing. -/
def SMark (P : Program) (main : Bool) (R : World → World → Prop) (m : Mark) (Next : Goroutine → World → Prop) (g : Goroutine) (w : World) : Prop :=
  g.status = .running ∧ ∃ g', stepG P main g w = .go g' w #[mk m] ∧ ∃ n, Goes P main R DC0 Next n g' w

section
variable (P : Program) (ty : TypeId) (Wg : Nat)
/-- All that a worker in Done leans on: the group stays a group. -/
def RL (w w₁ : World) : Prop := WgLive ty Wg w → WgLive ty Wg w₁
def DSem (g : Goroutine) (w : World) : Prop :=
  g.status = .running ∧ mayWake P g = true ∧ (WgAt ty Wg w 0 0 → ∃ g', stepG P false g w = .go g' (w.setCell (smA Wg) (.int .u32 1)) (semEvents (smA Wg)) ∧ ∃ q, QuitsD P q 1 g')
def DSto (g : Goroutine) (w : World) : Prop :=
  g.status = .running ∧ (WgAt ty Wg w 1 0 → ∃ g', stepG P false g w = .go g' (w.setCell (stA Wg) (.int .u64 0)) #[wr (stA Wg)] ∧ ∃ m, Goes P false (RL ty Wg) DC0 (DSem P ty Wg) m g' (w.setCell (stA Wg) (.int .u64 0)))
def DLoa (g : Goroutine) (w : World) : Prop :=
  g.status = .running ∧ (WgAt ty Wg w 1 0 → ∃ g', stepG P false g w = .go g' w #[rd (stA Wg)] ∧ ∃ m, Goes P false (RL ty Wg) DC0 (DSto P ty Wg) m g' w)
/-- One less, whatever the count, whether or not somebody waits. -/
def DSub (g : Goroutine) (w : World) : Prop :=
  g.status = .running ∧ ∀ v wt : Nat, wt ≤ 1 → v < 2147483647 → WgAt ty Wg w ((v + 1) * KK + wt) 0 →
    ∃ g', stepG P false g w = .go g' (w.setCell (stA Wg) (.int .u64 (v * KK + wt))) #[rd (stA Wg), wr (stA Wg)] ∧
      ((v = 0 ∧ wt = 1) → ∃ m, Goes P false (RL ty Wg) DC0 (DLoa P ty Wg) m g' (w.setCell (stA Wg) (.int .u64 (v * KK + wt)))) ∧ (¬ (v = 0 ∧ wt = 1) → ∃ q, QuitsD P q 1 g')
def DDis : Goroutine → World → Prop := SMark P false (RL ty Wg) .disable (DSub P ty Wg)
def DRel : Goroutine → World → Prop := SMark P false (RL ty Wg) (.releaseMerge (stA Wg)) (DDis P ty Wg)
end

theorem rl_live {ty : TypeId} {Wg : Nat} {w w₁ : World} (h : WgLive ty Wg w) (r : RL ty Wg w w₁) : WgLive ty Wg w₁ := r h

theorem eq_of_k {α : Type} {a b : α} (h : ∀ K : α → Prop, K b → K a) : a = b := h (· = b) rfl
variable {L : WgLink}
set_option maxRecDepth 100000 in
set_option maxHeartbeats 16000000 in
theorem addNegR {P : Program} (H : WgLib P L) {Wg : Nat} {b₀ : Frame} {a₀ : Act} {ops₀ : Array Oper} {i₀ : Nat} {rest₀ : List Nat} {k₀ : List Item} {cs : List Frame} {qt : Nat}
    (hT : QuitsD P qt 0 (G (b₀.at (a₀.put ((ops₀[i₀]?).bind (·.dst)) (.tuple #[])) (.inRegion ops₀ rest₀ :: k₀)) cs)) (w : World) (hK : WgLive L.tWg Wg w) :
    Goes P false (RL L.tWg Wg) DC0 (DRel P L.tWg Wg) 20 (G ((base L.add).at ⟨#[.pointer (some ⟨Wg, 0, none⟩), .int .i64 (-1), undef, undef, undef, undef, undef, undef, undef, undef, undef, undef, undef, undef, undef, undef, undef, undef, undef, undef, undef, undef, undef, undef, undef, undef, undef, undef, undef, undef, undef, undef, undef, undef, undef, undef, undef, undef, undef, undef, undef, undef, undef, undef, undef, undef, undef, undef, undef, undef, undef, undef, undef, undef, undef, undef, undef, undef, undef, undef, undef, undef, undef, undef, undef, undef, undef, undef, undef, undef, undef, undef, undef, undef, undef, undef, undef, undef, undef, undef, undef, undef, undef, undef, undef, undef, undef, undef, undef, undef, undef, undef, undef, undef, undef, undef, undef, undef, undef, undef, undef, undef, undef, undef, undef, undef, undef, undef, undef, undef, undef, undef, undef, undef, undef, undef, undef], []⟩ [.code (body_add L)]) (b₀.at a₀ (.inRegion ops₀ (i₀ :: rest₀) :: k₀) :: cs)) w := by
  lib_facts
  simp only [body_add, addFn, Option.getD_some]
  u_c stepG_seq rl_live hK
  u_cond true rl_live hK
  u_c stepG_seq rl_live hK
  u_c stepG_seq rl_live hK
  u_reg rl_live hK
  u_op rl_live hK
  u_op rl_live hK
  u_c stepG_region_end rl_live hK
  u_cond true rl_live hK
  u_reg rl_live hK
  u_op rl_live hK
  u_conv H.underlying_tWgP H.room_tWg (WgLive.cell0 hK).choose_spec rl_live hK
  refine Goes.stop (fun w₁ h₁ => ?_)
  replace hK := rl_live hK h₁
  clear h₁
  refine ⟨rfl, _, stepG_markAt .releaseMerge (by simp) rfl rfl (by k_ne) rfl H.f_relMerge (x_relMerge_n L) (x_relMerge_b L) (x_relMerge_x L) (x_relMerge_f L) (by simp [Act.eval, stA]), 10, ?_⟩
  walk_nrm
  u_c stepG_region_end rl_live hK
  u_c stepG_seq rl_live hK
  u_reg rl_live hK
  refine Goes.stop (fun w₁ h₁ => ?_)
  replace hK := rl_live hK h₁
  clear h₁
  refine ⟨rfl, _, stepG_mark0 .disable (by simp) rfl rfl (by k_ne) rfl H.f_disable (x_disable_n L) (x_disable_b L) (x_disable_x L) (x_disable_f L), 60, ?_⟩
  walk_nrm
  u_c stepG_region_end rl_live hK
  u_reg rl_live hK
  u_defer rl_live hK
  u_c stepG_region_end rl_live hK
  u_c stepG_seq rl_live hK
  u_reg rl_live hK
  u_op rl_live hK
  u_c stepG_region_end rl_live hK
  u_c stepG_seq rl_live hK
  u_c stepG_seq rl_live hK
  u_reg rl_live hK
  u_bub rl_live hK
  u_c stepG_region_end rl_live hK
  u_cond false rl_live hK
  u_c stepG_skip rl_live hK
  u_c stepG_seq rl_live hK
  u_reg rl_live hK
  u_op rl_live hK
  u_op rl_live hK
  u_op rl_live hK
  u_op rl_live hK
  u_op rl_live hK
  u_op rl_live hK
  u_call H.f_uAdd (nm_uAdd L) uAddFn rl_live hK
  u_c stepG_seq rl_live hK
  u_reg rl_live hK
  u_op rl_live hK
  u_c stepG_region_end rl_live hK
  u_c stepG_seq rl_live hK
  u_reg rl_live hK
  u_op rl_live hK
  u_op rl_live hK
  u_op rl_live hK
  u_op rl_live hK
  refine Goes.stop (fun w₁ h₁ => ?_)
  clear h₁ hK
  refine ⟨rfl, fun v wt hwt hv hw => ?_⟩
  have e0 : IntKind.u64.wrap (KK + 18446744069414584320) = 0 := by decide
  have e1 : IntKind.u64.wrap (KK + 1 + 18446744069414584320) = 1 := by decide
  rcases Nat.eq_zero_or_pos v with rfl | hvp <;> (obtain rfl | rfl : wt = 0 ∨ wt = 1 := by omega)
  · replace hw : WgAt L.tWg Wg w₁ KK 0 := by simpa using hw
    have z : ((0 : Nat) : Int) * KK + ((0 : Nat) : Int) = 0 := by simp
    rw [z]
    refine ⟨_, (stepG_add_atomic rfl rfl (by k_ne) rfl H.f_addU64 (x_addU64_n L) (x_addU64_b L) (x_addU64_x L) .u64 (x_addU64_f L) rfl rfl hw.cellSt (hw.thaw 0)).trans (by rw [e0]; rfl), fun hl => absurd hl.2 (by decide), fun _ => ⟨qt + 89, ?_⟩⟩
    clear hw
    walk_nrm
    (refine QuitsD.value _ rfl rfl (by k_ne) (fun _ => eq_of_k fun K hK => by go_simp; (try w_num);  exact hK) (fun _ => by simp [go_sem, *]) ?_; walk_nrm)
    q_c stepG_region_end
    q_c stepG_ret'
    q_leave1 H.f_uAdd
    (refine QuitsD.value _ rfl rfl (by k_ne) (fun _ => eq_of_k fun K hK => by go_simp; (try w_num);  exact hK) (fun _ => by simp [go_sem, *]) ?_; walk_nrm)
    q_c stepG_region_end
    q_c stepG_seq
    q_c stepG_seq
    q_reg
    (refine QuitsD.value _ rfl rfl (by k_ne) (fun _ => eq_of_k fun K hK => by go_simp; (try w_num);  exact hK) (fun _ => by simp [go_sem, *]) ?_; walk_nrm)
    (refine QuitsD.value _ rfl rfl (by k_ne) (fun _ => eq_of_k fun K hK => by go_simp; (try w_num);  exact hK) (fun _ => by simp [go_sem, *]) ?_; walk_nrm)
    (refine QuitsD.value _ rfl rfl (by k_ne) (fun _ => eq_of_k fun K hK => by go_simp; (try w_num);  exact hK) (fun _ => by simp [go_sem, *]) ?_; walk_nrm)
    (refine QuitsD.value _ rfl rfl (by k_ne) (fun _ => eq_of_k fun K hK => by go_simp; (try w_num);  exact hK) (fun _ => by simp [go_sem, *]) ?_; walk_nrm)
    q_skip
    q_skip
    (refine QuitsD.value _ rfl rfl (by k_ne) (fun _ => eq_of_k fun K hK => by go_simp; (try w_num);  exact hK) (fun _ => by simp [go_sem, *]) ?_; walk_nrm)
    q_c stepG_region_end
    q_cond false
    q_c stepG_skip
    q_c stepG_seq
    q_reg
    (refine QuitsD.value _ rfl rfl (by k_ne) (fun _ => eq_of_k fun K hK => by go_simp; (try w_num);  exact hK) (fun _ => by simp [go_sem, *]) ?_; walk_nrm)
    (refine QuitsD.value _ rfl rfl (by k_ne) (fun _ => eq_of_k fun K hK => by go_simp; (try w_num);  exact hK) (fun _ => by simp [go_sem, *]) ?_; walk_nrm)
    (refine QuitsD.value _ rfl rfl (by k_ne) (fun _ => eq_of_k fun K hK => by go_simp; (try w_num);  exact hK) (fun _ => by simp [go_sem, *]) ?_; walk_nrm)
    (refine QuitsD.value _ rfl rfl (by k_ne) (fun _ => eq_of_k fun K hK => by go_simp; (try w_num);  exact hK) (fun _ => by simp [go_sem, *]) ?_; walk_nrm)
    q_c stepG_region_end
    q_c stepG_seq
    q_reg
    (refine QuitsD.value _ rfl rfl (by k_ne) (fun _ => eq_of_k fun K hK => by go_simp; (try w_num);  exact hK) (fun _ => by simp [go_sem, *]) ?_; walk_nrm)
    (refine QuitsD.value _ rfl rfl (by k_ne) (fun _ => eq_of_k fun K hK => by go_simp; (try w_num);  exact hK) (fun _ => by simp [go_sem, *]) ?_; walk_nrm)
    (refine QuitsD.value _ rfl rfl (by k_ne) (fun _ => eq_of_k fun K hK => by go_simp; (try w_num);  exact hK) (fun _ => by simp [go_sem, *]) ?_; walk_nrm)
    (refine QuitsD.value _ rfl rfl (by k_ne) (fun _ => eq_of_k fun K hK => by go_simp; (try w_num);  exact hK) (fun _ => by simp [go_sem, *]) ?_; walk_nrm)
    q_c stepG_region_end
    q_c stepG_seq
    q_c stepG_seq
    q_reg
    (refine QuitsD.value _ rfl rfl (by k_ne) (fun _ => eq_of_k fun K hK => by go_simp; (try w_num);  exact hK) (fun _ => by simp [go_sem, *]) ?_; walk_nrm)
    (refine QuitsD.value _ rfl rfl (by k_ne) (fun _ => eq_of_k fun K hK => by go_simp; (try w_num);  exact hK) (fun _ => by simp [go_sem, *]) ?_; walk_nrm)
    (refine QuitsD.value _ rfl rfl (by k_ne) (fun _ => eq_of_k fun K hK => by go_simp; (try w_num);  exact hK) (fun _ => by simp [go_sem, *]) ?_; walk_nrm)
    (refine QuitsD.value _ rfl rfl (by k_ne) (fun _ => eq_of_k fun K hK => by go_simp; (try w_num);  exact hK) (fun _ => by simp [go_sem, *]) ?_; walk_nrm)
    (refine QuitsD.value _ rfl rfl (by k_ne) (fun _ => eq_of_k fun K hK => by go_simp; (try w_num);  exact hK) (fun _ => by simp [go_sem, *]) ?_; walk_nrm)
    q_skip
    q_skip
    q_skip
    q_skip
    (refine QuitsD.value _ rfl rfl (by k_ne) (fun _ => eq_of_k fun K hK => by go_simp; (try w_num);  exact hK) (fun _ => by simp [go_sem, *]) ?_; walk_nrm)
    q_c stepG_region_end
    q_cond false
    q_c stepG_skip
    q_c stepG_seq
    q_c stepG_seq
    q_reg
    (refine QuitsD.value _ rfl rfl (by k_ne) (fun _ => eq_of_k fun K hK => by go_simp; (try w_num);  exact hK) (fun _ => by simp [go_sem, *]) ?_; walk_nrm)
    (refine QuitsD.value _ rfl rfl (by k_ne) (fun _ => eq_of_k fun K hK => by go_simp; (try w_num);  exact hK) (fun _ => by simp [go_sem, *]) ?_; walk_nrm)
    q_c stepG_region_end
    q_cond false
    q_c stepG_skip
    q_c stepG_seq
    q_c stepG_seq
    q_reg
    (refine QuitsD.value _ rfl rfl (by k_ne) (fun _ => eq_of_k fun K hK => by go_simp; (try w_num);  exact hK) (fun _ => by simp [go_sem, *]) ?_; walk_nrm)
    (refine QuitsD.value _ rfl rfl (by k_ne) (fun _ => eq_of_k fun K hK => by go_simp; (try w_num);  exact hK) (fun _ => by simp [go_sem, *]) ?_; walk_nrm)
    (refine QuitsD.value _ rfl rfl (by k_ne) (fun _ => eq_of_k fun K hK => by go_simp; (try w_num);  exact hK) (fun _ => by simp [go_sem, *]) ?_; walk_nrm)
    q_skip
    q_skip
    (refine QuitsD.value _ rfl rfl (by k_ne) (fun _ => eq_of_k fun K hK => by go_simp; (try w_num);  exact hK) (fun _ => by simp [go_sem, *]) ?_; walk_nrm)
    (refine QuitsD.value _ rfl rfl (by k_ne) (fun _ => eq_of_k fun K hK => by go_simp; (try w_num);  exact hK) (fun _ => by simp [go_sem, *]) ?_; walk_nrm)
    q_skip
    q_skip
    q_skip
    q_skip
    (refine QuitsD.value _ rfl rfl (by k_ne) (fun _ => eq_of_k fun K hK => by go_simp; (try w_num);  exact hK) (fun _ => by simp [go_sem, *]) ?_; walk_nrm)
    q_c stepG_region_end
    q_cond false
    q_c stepG_skip
    q_c stepG_seq
    q_c stepG_seq
    q_reg
    (refine QuitsD.value _ rfl rfl (by k_ne) (fun _ => eq_of_k fun K hK => by go_simp; (try w_num);  exact hK) (fun _ => by simp [go_sem, *]) ?_; walk_nrm)
    (refine QuitsD.value _ rfl rfl (by k_ne) (fun _ => eq_of_k fun K hK => by go_simp; (try w_num);  exact hK) (fun _ => by simp [go_sem, *]) ?_; walk_nrm)
    (refine QuitsD.value _ rfl rfl (by k_ne) (fun _ => eq_of_k fun K hK => by go_simp; (try w_num);  exact hK) (fun _ => by simp [go_sem, *]) ?_; walk_nrm)
    (refine QuitsD.value _ rfl rfl (by k_ne) (fun _ => eq_of_k fun K hK => by go_simp; (try w_num);  exact hK) (fun _ => by simp [go_sem, *]) ?_; walk_nrm)
    (refine QuitsD.value _ rfl rfl (by k_ne) (fun _ => eq_of_k fun K hK => by go_simp; (try w_num);  exact hK) (fun _ => by simp [go_sem, *]) ?_; walk_nrm)
    (refine QuitsD.value _ rfl rfl (by k_ne) (fun _ => eq_of_k fun K hK => by go_simp; (try w_num);  exact hK) (fun _ => by simp [go_sem, *]) ?_; walk_nrm)
    q_c stepG_region_end
    q_cond true
    q_c stepG_ret'
    q_enable
    q_leave0 H.f_add
    exact hT
  · replace hw : WgAt L.tWg Wg w₁ (KK + 1) 0 := by simpa using hw
    have z : ((0 : Nat) : Int) * KK + ((1 : Nat) : Int) = 1 := by simp
    rw [z]
    refine ⟨_, (stepG_add_atomic rfl rfl (by k_ne) rfl H.f_addU64 (x_addU64_n L) (x_addU64_b L) (x_addU64_x L) .u64 (x_addU64_f L) rfl rfl hw.cellSt (hw.thaw 0)).trans (by rw [e1]; rfl), fun _ => ⟨120, ?_⟩, fun hl => absurd ⟨rfl, rfl⟩ hl⟩
    have hK : WgLive L.tWg Wg (w₁.setCell (stA Wg) (.int .u64 1)) := ⟨_, _, hw.setSt 1⟩
    clear hw
    walk_nrm
    u_op rl_live hK
    u_c stepG_region_end rl_live hK
    u_c stepG_ret' rl_live hK
    u_leave1 H.f_uAdd rl_live hK
    u_op rl_live hK
    u_c stepG_region_end rl_live hK
    u_c stepG_seq rl_live hK
    u_c stepG_seq rl_live hK
    u_reg rl_live hK
    u_op rl_live hK
    u_op rl_live hK
    u_op rl_live hK
    u_op rl_live hK
    u_skip rl_live hK
    u_skip rl_live hK
    u_op rl_live hK
    u_c stepG_region_end rl_live hK
    u_cond false rl_live hK
    u_c stepG_skip rl_live hK
    u_c stepG_seq rl_live hK
    u_reg rl_live hK
    u_op rl_live hK
    u_op rl_live hK
    u_op rl_live hK
    u_op rl_live hK
    u_c stepG_region_end rl_live hK
    u_c stepG_seq rl_live hK
    u_reg rl_live hK
    u_op rl_live hK
    u_op rl_live hK
    u_op rl_live hK
    u_op rl_live hK
    u_c stepG_region_end rl_live hK
    u_c stepG_seq rl_live hK
    u_c stepG_seq rl_live hK
    u_reg rl_live hK
    u_op rl_live hK
    u_op rl_live hK
    u_op rl_live hK
    u_op rl_live hK
    u_op rl_live hK
    u_skip rl_live hK
    u_skip rl_live hK
    u_skip rl_live hK
    u_skip rl_live hK
    u_op rl_live hK
    u_c stepG_region_end rl_live hK
    u_cond false rl_live hK
    u_c stepG_skip rl_live hK
    u_c stepG_seq rl_live hK
    u_c stepG_seq rl_live hK
    u_reg rl_live hK
    u_op rl_live hK
    u_op rl_live hK
    u_c stepG_region_end rl_live hK
    u_cond false rl_live hK
    u_c stepG_skip rl_live hK
    u_c stepG_seq rl_live hK
    u_c stepG_seq rl_live hK
    u_reg rl_live hK
    u_op rl_live hK
    u_op rl_live hK
    u_op rl_live hK
    u_op rl_live hK
    u_op rl_live hK
    u_op rl_live hK
    u_op rl_live hK
    u_skip rl_live hK
    u_skip rl_live hK
    u_skip rl_live hK
    u_skip rl_live hK
    u_op rl_live hK
    u_c stepG_region_end rl_live hK
    u_cond false rl_live hK
    u_c stepG_skip rl_live hK
    u_c stepG_seq rl_live hK
    u_c stepG_seq rl_live hK
    u_reg rl_live hK
    u_op rl_live hK
    u_op rl_live hK
    u_op rl_live hK
    u_op rl_live hK
    u_op rl_live hK
    u_op rl_live hK
    u_c stepG_region_end rl_live hK
    u_cond false rl_live hK
    u_c stepG_skip rl_live hK
    u_c stepG_seq rl_live hK
    u_c stepG_seq rl_live hK
    u_reg rl_live hK
    u_op rl_live hK
    u_op rl_live hK
    u_op rl_live hK
    u_call H.f_uLoad (nm_uLoad L) uLoadFn rl_live hK
    u_c stepG_seq rl_live hK
    u_reg rl_live hK
    u_op rl_live hK
    u_c stepG_region_end rl_live hK
    u_c stepG_seq rl_live hK
    u_reg rl_live hK
    u_op rl_live hK
    u_op rl_live hK
    u_op rl_live hK
    refine Goes.stop (fun w₂ h₂ => ?_)
    clear h₂ hK
    refine ⟨rfl, fun hw => ⟨_, stepG_load_atomic rfl rfl (by k_ne) rfl H.f_loadU64 (x_loadU64_n L) (x_loadU64_b L) (x_loadU64_x L) .u64 (x_loadU64_f L) rfl hw.cellSt, 60, ?_⟩⟩
    have hK : WgLive L.tWg Wg w₂ := ⟨_, _, hw⟩
    clear hw
    walk_nrm
    u_op rl_live hK
    u_c stepG_region_end rl_live hK
    u_c stepG_ret' rl_live hK
    u_leave1 H.f_uLoad rl_live hK
    u_op rl_live hK
    u_op rl_live hK
    u_c stepG_region_end rl_live hK
    u_cond false rl_live hK
    u_c stepG_skip rl_live hK
    u_c stepG_seq rl_live hK
    u_reg rl_live hK
    u_op rl_live hK
    u_op rl_live hK
    u_op rl_live hK
    u_call H.f_uStore (nm_uStore L) uStoreFn rl_live hK
    u_reg rl_live hK
    u_op rl_live hK
    u_op rl_live hK
    u_op rl_live hK
    u_op rl_live hK
    refine Goes.stop (fun w₃ h₃ => ?_)
    clear h₃ hK
    refine ⟨rfl, fun hw => ⟨_, stepG_store_atomic rfl rfl (by k_ne) rfl H.f_storeU64 (x_storeU64_n L) (x_storeU64_b L) (x_storeU64_x L) (x_storeU64_f L) rfl rfl hw.cellSt (hw.thaw 0), 60, ?_⟩⟩
    have hK : WgLive L.tWg Wg (w₃.setCell (stA Wg) (.int .u64 0)) := ⟨_, _, hw.setSt 0⟩
    clear hw
    walk_nrm
    u_c stepG_region_end rl_live hK
    u_c stepG_end rl_live hK
    u_leave0 H.f_uStore rl_live hK
    u_c stepG_region_end rl_live hK
    u_c stepG_seq rl_live hK
    u_c stepG_seq rl_live hK
    u_reg rl_live hK
    u_op rl_live hK
    u_c stepG_region_end rl_live hK
    u_cond false rl_live hK
    u_c stepG_skip rl_live hK
    u_c stepG_block rl_live hK
    u_c stepG_loop rl_live hK
    u_c stepG_seq rl_live hK
    u_c stepG_seq rl_live hK
    u_reg rl_live hK
    u_op rl_live hK
    u_op rl_live hK
    u_c stepG_region_end rl_live hK
    u_cond true rl_live hK
    u_c stepG_skip rl_live hK
    u_c stepG_seq rl_live hK
    u_c stepG_block rl_live hK
    u_reg rl_live hK
    u_op rl_live hK
    u_op rl_live hK
    u_op rl_live hK
    refine Goes.stop (fun w₄ h₄ => ?_)
    clear h₄ hK
    refine ⟨rfl, mayWake_entry rfl rfl H.f_semrelease (x_semrelease_b L), fun hw => ⟨_, (stepG_semrelease rfl rfl (by k_ne) rfl H.f_semrelease (x_semrelease_n L) (x_semrelease_b L) (x_semrelease_x L) (x_semrelease_f L) (by simp [Act.eval, smA]) hw.cellSm (hw.thaw 1)).trans (by rfl), qt + 19, ?_⟩⟩
    clear hw
    walk_nrm
    q_c stepG_region_end
    q_c stepG_inBlock
    q_reg
    (refine QuitsD.value _ rfl rfl (by k_ne) (fun _ => eq_of_k fun K hK => by go_simp; (try w_num);  exact hK) (fun _ => by simp [go_sem, *]) ?_; walk_nrm)
    (refine QuitsD.value _ rfl rfl (by k_ne) (fun _ => eq_of_k fun K hK => by go_simp; (try w_num);  exact hK) (fun _ => by simp [go_sem, *]) ?_; walk_nrm)
    (refine QuitsD.value _ rfl rfl (by k_ne) (fun _ => eq_of_k fun K hK => by go_simp; (try w_num);  exact hK) (fun _ => by simp [go_sem, *]) ?_; walk_nrm)
    q_c stepG_region_end
    q_c stepG_inLoop
    q_c stepG_seq
    q_c stepG_seq
    q_reg
    (refine QuitsD.value _ rfl rfl (by k_ne) (fun _ => eq_of_k fun K hK => by go_simp; (try w_num);  exact hK) (fun _ => by simp [go_sem, *]) ?_; walk_nrm)
    (refine QuitsD.value _ rfl rfl (by k_ne) (fun _ => eq_of_k fun K hK => by go_simp; (try w_num);  exact hK) (fun _ => by simp [go_sem, *]) ?_; walk_nrm)
    q_c stepG_region_end
    q_cond false
    q_exit
    q_c stepG_end
    q_enable
    q_leave0 H.f_add
    exact hT
  · replace hw : WgAt L.tWg Wg w₁ (((v : Nat) + 1) * KK) 0 := by simpa using hw
    have z : ((v : Nat) : Int) * KK + ((0 : Nat) : Int) = (v : Int) * KK := by simp
    rw [z]
    have eS : IntKind.u64.wrap (((v : Nat) + 1) * KK + 18446744069414584320) = (v : Int) * KK := by rw [IntKind.wrap_u64]; simp only [KK]; omega
    obtain ⟨S, hS⟩ : ∃ S : Int, S = (v : Int) * KK := ⟨_, rfl⟩
    rw [← hS] at eS ⊢
    have a1 : S / 4294967296 = (v : Int) := by rw [hS]; simp only [KK]; omega
    have b1 : bits .and .u64 S 2147483648 = 0 := by rw [hS]; have := Go.ConcN.st_flag v 0 (by omega) (by omega); simpa [KK] using this
    have b2 : bits .and .u64 S 2147483647 = 0 := by rw [hS]; have := Go.ConcN.st_waiters v 0 (by omega) (by omega); simpa [KK] using this
    have c1 : IntKind.i32.wrap (v : Int) = (v : Int) := by rw [IntKind.wrap_i32]; omega
    have q3 : decide ((v : Int) < 0) = false := decide_eq_false (by omega)
    have q4 : decide (0 < (v : Int)) = true := decide_eq_true (by omega)
    have q7 : decide ((v : Int) = -1) = false := decide_eq_false (by omega)
    clear hS z
    refine ⟨_, (stepG_add_atomic rfl rfl (by k_ne) rfl H.f_addU64 (x_addU64_n L) (x_addU64_b L) (x_addU64_x L) .u64 (x_addU64_f L) rfl rfl hw.cellSt (hw.thaw 0)).trans (by rw [eS]; rfl), fun hl => absurd hl.1 (by omega), fun _ => ⟨qt + 89, ?_⟩⟩
    clear hw
    walk_nrm
    (refine QuitsD.value _ rfl rfl (by k_ne) (fun _ => eq_of_k fun K hK => by go_simp; (try w_num); (try simp only [a1, b1, b2, c1, q3, q4, q7]); exact hK) (fun _ => by simp [go_sem, *]) ?_; walk_nrm)
    q_c stepG_region_end
    q_c stepG_ret'
    q_leave1 H.f_uAdd
    (refine QuitsD.value _ rfl rfl (by k_ne) (fun _ => eq_of_k fun K hK => by go_simp; (try w_num); (try simp only [a1, b1, b2, c1, q3, q4, q7]); exact hK) (fun _ => by simp [go_sem, *]) ?_; walk_nrm)
    q_c stepG_region_end
    q_c stepG_seq
    q_c stepG_seq
    q_reg
    (refine QuitsD.value _ rfl rfl (by k_ne) (fun _ => eq_of_k fun K hK => by go_simp; (try w_num); (try simp only [a1, b1, b2, c1, q3, q4, q7]); exact hK) (fun _ => by simp [go_sem, *]) ?_; walk_nrm)
    (refine QuitsD.value _ rfl rfl (by k_ne) (fun _ => eq_of_k fun K hK => by go_simp; (try w_num); (try simp only [a1, b1, b2, c1, q3, q4, q7]); exact hK) (fun _ => by simp [go_sem, *]) ?_; walk_nrm)
    (refine QuitsD.value _ rfl rfl (by k_ne) (fun _ => eq_of_k fun K hK => by go_simp; (try w_num); (try simp only [a1, b1, b2, c1, q3, q4, q7]); exact hK) (fun _ => by simp [go_sem, *]) ?_; walk_nrm)
    (refine QuitsD.value _ rfl rfl (by k_ne) (fun _ => eq_of_k fun K hK => by go_simp; (try w_num); (try simp only [a1, b1, b2, c1, q3, q4, q7]); exact hK) (fun _ => by simp [go_sem, *]) ?_; walk_nrm)
    q_skip
    q_skip
    (refine QuitsD.value _ rfl rfl (by k_ne) (fun _ => eq_of_k fun K hK => by go_simp; (try w_num); (try simp only [a1, b1, b2, c1, q3, q4, q7]); exact hK) (fun _ => by simp [go_sem, *]) ?_; walk_nrm)
    q_c stepG_region_end
    q_cond false
    q_c stepG_skip
    q_c stepG_seq
    q_reg
    (refine QuitsD.value _ rfl rfl (by k_ne) (fun _ => eq_of_k fun K hK => by go_simp; (try w_num); (try simp only [a1, b1, b2, c1, q3, q4, q7]); exact hK) (fun _ => by simp [go_sem, *]) ?_; walk_nrm)
    (refine QuitsD.value _ rfl rfl (by k_ne) (fun _ => eq_of_k fun K hK => by go_simp; (try w_num); (try simp only [a1, b1, b2, c1, q3, q4, q7]); exact hK) (fun _ => by simp [go_sem, *]) ?_; walk_nrm)
    (refine QuitsD.value _ rfl rfl (by k_ne) (fun _ => eq_of_k fun K hK => by go_simp; (try w_num); (try simp only [a1, b1, b2, c1, q3, q4, q7]); exact hK) (fun _ => by simp [go_sem, *]) ?_; walk_nrm)
    (refine QuitsD.value _ rfl rfl (by k_ne) (fun _ => eq_of_k fun K hK => by go_simp; (try w_num); (try simp only [a1, b1, b2, c1, q3, q4, q7]); exact hK) (fun _ => by simp [go_sem, *]) ?_; walk_nrm)
    q_c stepG_region_end
    q_c stepG_seq
    q_reg
    (refine QuitsD.value _ rfl rfl (by k_ne) (fun _ => eq_of_k fun K hK => by go_simp; (try w_num); (try simp only [a1, b1, b2, c1, q3, q4, q7]); exact hK) (fun _ => by simp [go_sem, *]) ?_; walk_nrm)
    (refine QuitsD.value _ rfl rfl (by k_ne) (fun _ => eq_of_k fun K hK => by go_simp; (try w_num); (try simp only [a1, b1, b2, c1, q3, q4, q7]); exact hK) (fun _ => by simp [go_sem, *]) ?_; walk_nrm)
    (refine QuitsD.value _ rfl rfl (by k_ne) (fun _ => eq_of_k fun K hK => by go_simp; (try w_num); (try simp only [a1, b1, b2, c1, q3, q4, q7]); exact hK) (fun _ => by simp [go_sem, *]) ?_; walk_nrm)
    (refine QuitsD.value _ rfl rfl (by k_ne) (fun _ => eq_of_k fun K hK => by go_simp; (try w_num); (try simp only [a1, b1, b2, c1, q3, q4, q7]); exact hK) (fun _ => by simp [go_sem, *]) ?_; walk_nrm)
    q_c stepG_region_end
    q_c stepG_seq
    q_c stepG_seq
    q_reg
    (refine QuitsD.value _ rfl rfl (by k_ne) (fun _ => eq_of_k fun K hK => by go_simp; (try w_num); (try simp only [a1, b1, b2, c1, q3, q4, q7]); exact hK) (fun _ => by simp [go_sem, *]) ?_; walk_nrm)
    (refine QuitsD.value _ rfl rfl (by k_ne) (fun _ => eq_of_k fun K hK => by go_simp; (try w_num); (try simp only [a1, b1, b2, c1, q3, q4, q7]); exact hK) (fun _ => by simp [go_sem, *]) ?_; walk_nrm)
    (refine QuitsD.value _ rfl rfl (by k_ne) (fun _ => eq_of_k fun K hK => by go_simp; (try w_num); (try simp only [a1, b1, b2, c1, q3, q4, q7]); exact hK) (fun _ => by simp [go_sem, *]) ?_; walk_nrm)
    (refine QuitsD.value _ rfl rfl (by k_ne) (fun _ => eq_of_k fun K hK => by go_simp; (try w_num); (try simp only [a1, b1, b2, c1, q3, q4, q7]); exact hK) (fun _ => by simp [go_sem, *]) ?_; walk_nrm)
    (refine QuitsD.value _ rfl rfl (by k_ne) (fun _ => eq_of_k fun K hK => by go_simp; (try w_num); (try simp only [a1, b1, b2, c1, q3, q4, q7]); exact hK) (fun _ => by simp [go_sem, *]) ?_; walk_nrm)
    q_skip
    q_skip
    q_skip
    q_skip
    (refine QuitsD.value _ rfl rfl (by k_ne) (fun _ => eq_of_k fun K hK => by go_simp; (try w_num); (try simp only [a1, b1, b2, c1, q3, q4, q7]); exact hK) (fun _ => by simp [go_sem, *]) ?_; walk_nrm)
    q_c stepG_region_end
    q_cond false
    q_c stepG_skip
    q_c stepG_seq
    q_c stepG_seq
    q_reg
    (refine QuitsD.value _ rfl rfl (by k_ne) (fun _ => eq_of_k fun K hK => by go_simp; (try w_num); (try simp only [a1, b1, b2, c1, q3, q4, q7]); exact hK) (fun _ => by simp [go_sem, *]) ?_; walk_nrm)
    (refine QuitsD.value _ rfl rfl (by k_ne) (fun _ => eq_of_k fun K hK => by go_simp; (try w_num); (try simp only [a1, b1, b2, c1, q3, q4, q7]); exact hK) (fun _ => by simp [go_sem, *]) ?_; walk_nrm)
    q_c stepG_region_end
    q_cond false
    q_c stepG_skip
    q_c stepG_seq
    q_c stepG_seq
    q_reg
    (refine QuitsD.value _ rfl rfl (by k_ne) (fun _ => eq_of_k fun K hK => by go_simp; (try w_num); (try simp only [a1, b1, b2, c1, q3, q4, q7]); exact hK) (fun _ => by simp [go_sem, *]) ?_; walk_nrm)
    (refine QuitsD.value _ rfl rfl (by k_ne) (fun _ => eq_of_k fun K hK => by go_simp; (try w_num); (try simp only [a1, b1, b2, c1, q3, q4, q7]); exact hK) (fun _ => by simp [go_sem, *]) ?_; walk_nrm)
    (refine QuitsD.value _ rfl rfl (by k_ne) (fun _ => eq_of_k fun K hK => by go_simp; (try w_num); (try simp only [a1, b1, b2, c1, q3, q4, q7]); exact hK) (fun _ => by simp [go_sem, *]) ?_; walk_nrm)
    q_skip
    q_skip
    (refine QuitsD.value _ rfl rfl (by k_ne) (fun _ => eq_of_k fun K hK => by go_simp; (try w_num); (try simp only [a1, b1, b2, c1, q3, q4, q7]); exact hK) (fun _ => by simp [go_sem, *]) ?_; walk_nrm)
    (refine QuitsD.value _ rfl rfl (by k_ne) (fun _ => eq_of_k fun K hK => by go_simp; (try w_num); (try simp only [a1, b1, b2, c1, q3, q4, q7]); exact hK) (fun _ => by simp [go_sem, *]) ?_; walk_nrm)
    q_skip
    q_skip
    q_skip
    q_skip
    (refine QuitsD.value _ rfl rfl (by k_ne) (fun _ => eq_of_k fun K hK => by go_simp; (try w_num); (try simp only [a1, b1, b2, c1, q3, q4, q7]); exact hK) (fun _ => by simp [go_sem, *]) ?_; walk_nrm)
    q_c stepG_region_end
    q_cond false
    q_c stepG_skip
    q_c stepG_seq
    q_c stepG_seq
    q_reg
    (refine QuitsD.value _ rfl rfl (by k_ne) (fun _ => eq_of_k fun K hK => by go_simp; (try w_num); (try simp only [a1, b1, b2, c1, q3, q4, q7]); exact hK) (fun _ => by simp [go_sem, *]) ?_; walk_nrm)
    (refine QuitsD.value _ rfl rfl (by k_ne) (fun _ => eq_of_k fun K hK => by go_simp; (try w_num); (try simp only [a1, b1, b2, c1, q3, q4, q7]); exact hK) (fun _ => by simp [go_sem, *]) ?_; walk_nrm)
    (refine QuitsD.value _ rfl rfl (by k_ne) (fun _ => eq_of_k fun K hK => by go_simp; (try w_num); (try simp only [a1, b1, b2, c1, q3, q4, q7]); exact hK) (fun _ => by simp [go_sem, *]) ?_; walk_nrm)
    q_skip
    q_skip
    (refine QuitsD.value _ rfl rfl (by k_ne) (fun _ => eq_of_k fun K hK => by go_simp; (try w_num); (try simp only [a1, b1, b2, c1, q3, q4, q7]); exact hK) (fun _ => by simp [go_sem, *]) ?_; walk_nrm)
    q_c stepG_region_end
    q_cond true
    q_c stepG_ret'
    q_enable
    q_leave0 H.f_add
    exact hT
  · replace hw : WgAt L.tWg Wg w₁ (((v : Nat) + 1) * KK + 1) 0 := by simpa using hw
    have z : ((v : Nat) : Int) * KK + ((1 : Nat) : Int) = (v : Int) * KK + 1 := by simp
    rw [z]
    have eS : IntKind.u64.wrap (((v : Nat) + 1) * KK + 1 + 18446744069414584320) = (v : Int) * KK + 1 := by rw [IntKind.wrap_u64]; simp only [KK]; omega
    obtain ⟨S, hS⟩ : ∃ S : Int, S = (v : Int) * KK + 1 := ⟨_, rfl⟩
    rw [← hS] at eS ⊢
    have a1 : S / 4294967296 = (v : Int) := by rw [hS]; simp only [KK]; omega
    have b1 : bits .and .u64 S 2147483648 = 0 := by rw [hS]; have := Go.ConcN.st_flag v 1 (by omega) (by omega); simpa [KK] using this
    have b2 : bits .and .u64 S 2147483647 = 1 := by rw [hS]; have := Go.ConcN.st_waiters v 1 (by omega) (by omega); simpa [KK] using this
    have c1 : IntKind.i32.wrap (v : Int) = (v : Int) := by rw [IntKind.wrap_i32]; omega
    have q3 : decide ((v : Int) < 0) = false := decide_eq_false (by omega)
    have q4 : decide (0 < (v : Int)) = true := decide_eq_true (by omega)
    have q7 : decide ((v : Int) = -1) = false := decide_eq_false (by omega)
    clear hS z
    refine ⟨_, (stepG_add_atomic rfl rfl (by k_ne) rfl H.f_addU64 (x_addU64_n L) (x_addU64_b L) (x_addU64_x L) .u64 (x_addU64_f L) rfl rfl hw.cellSt (hw.thaw 0)).trans (by rw [eS]; rfl), fun hl => absurd hl.1 (by omega), fun _ => ⟨qt + 89, ?_⟩⟩
    clear hw
    walk_nrm
    (refine QuitsD.value _ rfl rfl (by k_ne) (fun _ => eq_of_k fun K hK => by go_simp; (try w_num); (try simp only [a1, b1, b2, c1, q3, q4, q7]); exact hK) (fun _ => by simp [go_sem, *]) ?_; walk_nrm)
    q_c stepG_region_end
    q_c stepG_ret'
    q_leave1 H.f_uAdd
    (refine QuitsD.value _ rfl rfl (by k_ne) (fun _ => eq_of_k fun K hK => by go_simp; (try w_num); (try simp only [a1, b1, b2, c1, q3, q4, q7]); exact hK) (fun _ => by simp [go_sem, *]) ?_; walk_nrm)
    q_c stepG_region_end
    q_c stepG_seq
    q_c stepG_seq
    q_reg
    (refine QuitsD.value _ rfl rfl (by k_ne) (fun _ => eq_of_k fun K hK => by go_simp; (try w_num); (try simp only [a1, b1, b2, c1, q3, q4, q7]); exact hK) (fun _ => by simp [go_sem, *]) ?_; walk_nrm)
    (refine QuitsD.value _ rfl rfl (by k_ne) (fun _ => eq_of_k fun K hK => by go_simp; (try w_num); (try simp only [a1, b1, b2, c1, q3, q4, q7]); exact hK) (fun _ => by simp [go_sem, *]) ?_; walk_nrm)
    (refine QuitsD.value _ rfl rfl (by k_ne) (fun _ => eq_of_k fun K hK => by go_simp; (try w_num); (try simp only [a1, b1, b2, c1, q3, q4, q7]); exact hK) (fun _ => by simp [go_sem, *]) ?_; walk_nrm)
    (refine QuitsD.value _ rfl rfl (by k_ne) (fun _ => eq_of_k fun K hK => by go_simp; (try w_num); (try simp only [a1, b1, b2, c1, q3, q4, q7]); exact hK) (fun _ => by simp [go_sem, *]) ?_; walk_nrm)
    q_skip
    q_skip
    (refine QuitsD.value _ rfl rfl (by k_ne) (fun _ => eq_of_k fun K hK => by go_simp; (try w_num); (try simp only [a1, b1, b2, c1, q3, q4, q7]); exact hK) (fun _ => by simp [go_sem, *]) ?_; walk_nrm)
    q_c stepG_region_end
    q_cond false
    q_c stepG_skip
    q_c stepG_seq
    q_reg
    (refine QuitsD.value _ rfl rfl (by k_ne) (fun _ => eq_of_k fun K hK => by go_simp; (try w_num); (try simp only [a1, b1, b2, c1, q3, q4, q7]); exact hK) (fun _ => by simp [go_sem, *]) ?_; walk_nrm)
    (refine QuitsD.value _ rfl rfl (by k_ne) (fun _ => eq_of_k fun K hK => by go_simp; (try w_num); (try simp only [a1, b1, b2, c1, q3, q4, q7]); exact hK) (fun _ => by simp [go_sem, *]) ?_; walk_nrm)
    (refine QuitsD.value _ rfl rfl (by k_ne) (fun _ => eq_of_k fun K hK => by go_simp; (try w_num); (try simp only [a1, b1, b2, c1, q3, q4, q7]); exact hK) (fun _ => by simp [go_sem, *]) ?_; walk_nrm)
    (refine QuitsD.value _ rfl rfl (by k_ne) (fun _ => eq_of_k fun K hK => by go_simp; (try w_num); (try simp only [a1, b1, b2, c1, q3, q4, q7]); exact hK) (fun _ => by simp [go_sem, *]) ?_; walk_nrm)
    q_c stepG_region_end
    q_c stepG_seq
    q_reg
    (refine QuitsD.value _ rfl rfl (by k_ne) (fun _ => eq_of_k fun K hK => by go_simp; (try w_num); (try simp only [a1, b1, b2, c1, q3, q4, q7]); exact hK) (fun _ => by simp [go_sem, *]) ?_; walk_nrm)
    (refine QuitsD.value _ rfl rfl (by k_ne) (fun _ => eq_of_k fun K hK => by go_simp; (try w_num); (try simp only [a1, b1, b2, c1, q3, q4, q7]); exact hK) (fun _ => by simp [go_sem, *]) ?_; walk_nrm)
    (refine QuitsD.value _ rfl rfl (by k_ne) (fun _ => eq_of_k fun K hK => by go_simp; (try w_num); (try simp only [a1, b1, b2, c1, q3, q4, q7]); exact hK) (fun _ => by simp [go_sem, *]) ?_; walk_nrm)
    (refine QuitsD.value _ rfl rfl (by k_ne) (fun _ => eq_of_k fun K hK => by go_simp; (try w_num); (try simp only [a1, b1, b2, c1, q3, q4, q7]); exact hK) (fun _ => by simp [go_sem, *]) ?_; walk_nrm)
    q_c stepG_region_end
    q_c stepG_seq
    q_c stepG_seq
    q_reg
    (refine QuitsD.value _ rfl rfl (by k_ne) (fun _ => eq_of_k fun K hK => by go_simp; (try w_num); (try simp only [a1, b1, b2, c1, q3, q4, q7]); exact hK) (fun _ => by simp [go_sem, *]) ?_; walk_nrm)
    (refine QuitsD.value _ rfl rfl (by k_ne) (fun _ => eq_of_k fun K hK => by go_simp; (try w_num); (try simp only [a1, b1, b2, c1, q3, q4, q7]); exact hK) (fun _ => by simp [go_sem, *]) ?_; walk_nrm)
    (refine QuitsD.value _ rfl rfl (by k_ne) (fun _ => eq_of_k fun K hK => by go_simp; (try w_num); (try simp only [a1, b1, b2, c1, q3, q4, q7]); exact hK) (fun _ => by simp [go_sem, *]) ?_; walk_nrm)
    (refine QuitsD.value _ rfl rfl (by k_ne) (fun _ => eq_of_k fun K hK => by go_simp; (try w_num); (try simp only [a1, b1, b2, c1, q3, q4, q7]); exact hK) (fun _ => by simp [go_sem, *]) ?_; walk_nrm)
    (refine QuitsD.value _ rfl rfl (by k_ne) (fun _ => eq_of_k fun K hK => by go_simp; (try w_num); (try simp only [a1, b1, b2, c1, q3, q4, q7]); exact hK) (fun _ => by simp [go_sem, *]) ?_; walk_nrm)
    q_skip
    q_skip
    q_skip
    q_skip
    (refine QuitsD.value _ rfl rfl (by k_ne) (fun _ => eq_of_k fun K hK => by go_simp; (try w_num); (try simp only [a1, b1, b2, c1, q3, q4, q7]); exact hK) (fun _ => by simp [go_sem, *]) ?_; walk_nrm)
    q_c stepG_region_end
    q_cond false
    q_c stepG_skip
    q_c stepG_seq
    q_c stepG_seq
    q_reg
    (refine QuitsD.value _ rfl rfl (by k_ne) (fun _ => eq_of_k fun K hK => by go_simp; (try w_num); (try simp only [a1, b1, b2, c1, q3, q4, q7]); exact hK) (fun _ => by simp [go_sem, *]) ?_; walk_nrm)
    (refine QuitsD.value _ rfl rfl (by k_ne) (fun _ => eq_of_k fun K hK => by go_simp; (try w_num); (try simp only [a1, b1, b2, c1, q3, q4, q7]); exact hK) (fun _ => by simp [go_sem, *]) ?_; walk_nrm)
    q_c stepG_region_end
    q_cond false
    q_c stepG_skip
    q_c stepG_seq
    q_c stepG_seq
    q_reg
    (refine QuitsD.value _ rfl rfl (by k_ne) (fun _ => eq_of_k fun K hK => by go_simp; (try w_num); (try simp only [a1, b1, b2, c1, q3, q4, q7]); exact hK) (fun _ => by simp [go_sem, *]) ?_; walk_nrm)
    (refine QuitsD.value _ rfl rfl (by k_ne) (fun _ => eq_of_k fun K hK => by go_simp; (try w_num); (try simp only [a1, b1, b2, c1, q3, q4, q7]); exact hK) (fun _ => by simp [go_sem, *]) ?_; walk_nrm)
    (refine QuitsD.value _ rfl rfl (by k_ne) (fun _ => eq_of_k fun K hK => by go_simp; (try w_num); (try simp only [a1, b1, b2, c1, q3, q4, q7]); exact hK) (fun _ => by simp [go_sem, *]) ?_; walk_nrm)
    (refine QuitsD.value _ rfl rfl (by k_ne) (fun _ => eq_of_k fun K hK => by go_simp; (try w_num); (try simp only [a1, b1, b2, c1, q3, q4, q7]); exact hK) (fun _ => by simp [go_sem, *]) ?_; walk_nrm)
    (refine QuitsD.value _ rfl rfl (by k_ne) (fun _ => eq_of_k fun K hK => by go_simp; (try w_num); (try simp only [a1, b1, b2, c1, q3, q4, q7]); exact hK) (fun _ => by simp [go_sem, *]) ?_; walk_nrm)
    (refine QuitsD.value _ rfl rfl (by k_ne) (fun _ => eq_of_k fun K hK => by go_simp; (try w_num); (try simp only [a1, b1, b2, c1, q3, q4, q7]); exact hK) (fun _ => by simp [go_sem, *]) ?_; walk_nrm)
    (refine QuitsD.value _ rfl rfl (by k_ne) (fun _ => eq_of_k fun K hK => by go_simp; (try w_num); (try simp only [a1, b1, b2, c1, q3, q4, q7]); exact hK) (fun _ => by simp [go_sem, *]) ?_; walk_nrm)
    q_skip
    q_skip
    q_skip
    q_skip
    (refine QuitsD.value _ rfl rfl (by k_ne) (fun _ => eq_of_k fun K hK => by go_simp; (try w_num); (try simp only [a1, b1, b2, c1, q3, q4, q7]); exact hK) (fun _ => by simp [go_sem, *]) ?_; walk_nrm)
    q_c stepG_region_end
    q_cond false
    q_c stepG_skip
    q_c stepG_seq
    q_c stepG_seq
    q_reg
    (refine QuitsD.value _ rfl rfl (by k_ne) (fun _ => eq_of_k fun K hK => by go_simp; (try w_num); (try simp only [a1, b1, b2, c1, q3, q4, q7]); exact hK) (fun _ => by simp [go_sem, *]) ?_; walk_nrm)
    (refine QuitsD.value _ rfl rfl (by k_ne) (fun _ => eq_of_k fun K hK => by go_simp; (try w_num); (try simp only [a1, b1, b2, c1, q3, q4, q7]); exact hK) (fun _ => by simp [go_sem, *]) ?_; walk_nrm)
    (refine QuitsD.value _ rfl rfl (by k_ne) (fun _ => eq_of_k fun K hK => by go_simp; (try w_num); (try simp only [a1, b1, b2, c1, q3, q4, q7]); exact hK) (fun _ => by simp [go_sem, *]) ?_; walk_nrm)
    q_skip
    q_skip
    (refine QuitsD.value _ rfl rfl (by k_ne) (fun _ => eq_of_k fun K hK => by go_simp; (try w_num); (try simp only [a1, b1, b2, c1, q3, q4, q7]); exact hK) (fun _ => by simp [go_sem, *]) ?_; walk_nrm)
    q_c stepG_region_end
    q_cond true
    q_c stepG_ret'
    q_enable
    q_leave0 H.f_add
    exact hT

set_option maxRecDepth 100000 in
theorem doneR {P : Program} (H : WgLib P L) {Wg : Nat} {c : Frame} {cs : List Frame} {qt : Nat} (hcm : c.mode = .returning) (hT : QuitsD P qt 0 (G c cs)) (w : World) (hK : WgLive L.tWg Wg w) :
    Goes P false (RL L.tWg Wg) DC0 (DRel P L.tWg Wg) 23 (G ((baseD L.done).at ⟨#[.pointer (some ⟨Wg, 0, none⟩), undef, undef, undef], []⟩ [.code (body_done L)]) (c :: cs)) w := by
  lib_facts
  have hA := @addNegR L P H Wg
  simp only [body_done, body_add, doneFn, addFn, Option.getD_some] at hA ⊢
  u_reg rl_live hK
  u_op rl_live hK
  u_in rl_live hK
  refine goes_call rfl rfl (by k_ne) rfl H.f_add (nm_add L) rfl ⟨by u_nil, ?_⟩
  walk_nrmf addFn
  refine hA (qt := qt + 3) ?_ _ hK
  q_c stepG_region_end
  q_c stepG_end
  exact QuitsD.leaveD rfl rfl H.f_done rfl hcm hT
end Go.Proofs.Ytbckmkppmdfnnaa.Crew
