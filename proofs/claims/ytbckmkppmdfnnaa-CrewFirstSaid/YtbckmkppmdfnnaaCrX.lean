/- crew: sync.WaitGroup's Add(1) and Wait, as the starter calls them in company, under whatever rely keeps the group a group and what the starter knows. -/
import Derived.Test.YtbckmkppmdfnnaaCrW
namespace Go.Proofs.Ytbckmkppmdfnnaa.Crew
open Go.Conc Go.RowKit Go.Conc.Lib Go.ConcR.Gen
open Go.ConcN (WgLive)
open Go.ConcN.Gen (WgLive.cell0 WgLive.cell1)
open Go.ConcR (KK wgBlock WgAt stA smA rd wr mk Payload DC0)

section
variable (P : Program) (ty : TypeId) (Wg : Nat) (R : World → World → Prop) (Fin Anch : Goroutine → World → Prop)
def PEn : Goroutine → World → Prop := SMark P true R .enable Fin
def PRd : Goroutine → World → Prop := SMark P true R (.read (smA Wg)) (PEn P R Fin)
/-- One more, whatever the count. -/
def PAdd (g : Goroutine) (w : World) : Prop :=
  g.status = .running ∧ ∀ v : Nat, v < 2147483647 → WgAt ty Wg w (v * KK) 0 →
    ∃ g', stepG P true g w = .go g' (w.setCell (stA Wg) (.int .u64 ((v + 1) * KK))) #[rd (stA Wg), wr (stA Wg)] ∧
      (v = 0 → ∃ m, Goes P true R DC0 (PRd P Wg R Fin) m g' (w.setCell (stA Wg) (.int .u64 ((v + 1) * KK)))) ∧ (v ≠ 0 → ∃ m, Goes P true R DC0 (PEn P R Fin) m g' (w.setCell (stA Wg) (.int .u64 ((v + 1) * KK))))
def PDis : Goroutine → World → Prop := SMark P true R .disable (PAdd P ty Wg R Fin)

def WAcq : Goroutine → World → Prop := SMark P true R (.acquire (stA Wg)) Fin
def WEn : Goroutine → World → Prop := SMark P true R .enable (WAcq P Wg R Fin)
def WChk (g : Goroutine) (w : World) : Prop :=
  g.status = .running ∧ (WgAt ty Wg w 0 0 → ∃ g', stepG P true g w = .go g' w #[rd (stA Wg)] ∧ ∃ m, Goes P true R DC0 (WEn P Wg R Fin) m g' w)
def WSem (g : Goroutine) (w : World) : Prop :=
  g.status = .running ∧ g.offers = none ∧ ((∃ st, WgAt ty Wg w st 0) → stepG P true g w = .go { g with status := .blocked } w #[]) ∧
    (WgAt ty Wg w 0 1 → ∃ g', stepG P true g w = .go g' (w.setCell (smA Wg) (.int .u32 0)) (semEvents (smA Wg)) ∧ ∃ m, Goes P true R DC0 (WChk P ty Wg R Fin) m g' (w.setCell (smA Wg) (.int .u32 0)))
def WWr : Goroutine → World → Prop := SMark P true R (.write (smA Wg)) (WSem P ty Wg R Fin)
/-- vs has been seen: the CompareAndSwap hits, or a worker came between. -/
def WCas (vs : Nat) (g : Goroutine) (w : World) : Prop :=
  g.status = .running ∧ ∀ v : Nat, v < 2147483648 → WgAt ty Wg w (v * KK) 0 →
    (v = vs → ∃ g', stepG P true g w = .go g' (w.setCell (stA Wg) (.int .u64 (v * KK + 1))) #[rd (stA Wg), wr (stA Wg)] ∧ ∃ m, Goes P true R DC0 (WWr P ty Wg R Fin) m g' (w.setCell (stA Wg) (.int .u64 (v * KK + 1)))) ∧
    (v ≠ vs → ∃ g', stepG P true g w = .go g' w #[rd (stA Wg)] ∧ ∃ m, Goes P true R DC0 Anch m g' w)
def WLoa (g : Goroutine) (w : World) : Prop :=
  g.status = .running ∧ ∀ v : Nat, v < 2147483648 → WgAt ty Wg w (v * KK) 0 → ∃ g', stepG P true g w = .go g' w #[rd (stA Wg)] ∧
    (v = 0 → ∃ m, Goes P true R DC0 (WEn P Wg R Fin) m g' w) ∧ (v ≠ 0 → ∃ m, Goes P true R DC0 (WCas P ty Wg R Fin Anch v) m g' w)
def WDis : Goroutine → World → Prop := SMark P true R .disable Anch
end

/-- At the head of Wait's loop. -/
def AnchW (L : WgLink) (F : World → Prop) (Wg : Nat) (c : Frame) (cs : List Frame) (g : Goroutine) (w : World) : Prop :=
  ∃ T : Array Value, g = G ((base L.wait).at ⟨T, []⟩ [.code (L7 L), .inLoop (L7 L), .inBlock 0]) (c :: cs) ∧ T.size = 84 ∧ T[0]? = some (.pointer (some ⟨Wg, 0, none⟩)) ∧ F w ∧ WgLive L.tWg Wg w

/-- What the rely keeps. -/
structure Keeps (ty : TypeId) (Wg : Nat) (R : World → World → Prop) (F : World → Prop) : Prop where
  live : ∀ w w₁, R w w₁ → WgLive ty Wg w → WgLive ty Wg w₁
  fact : ∀ w w₁, R w w₁ → F w → F w₁
  turn : ∀ (w : World) (a : Addr) (v : Value), a.block = Wg → F w → F (w.setCell a v)
theorem fa {ty : TypeId} {Wg : Nat} {R : World → World → Prop} {F : World → Prop} (h : Keeps ty Wg R F) {w w₁ : World} (k : F w ∧ WgLive ty Wg w) (r : R w w₁) : F w₁ ∧ WgLive ty Wg w₁ := ⟨h.fact _ _ r k.1, h.live _ _ r k.2⟩

section
variable {L : WgLink} {P : Program} {R : World → World → Prop} {F : World → Prop} {Wg : Nat} {Fin : Goroutine → World → Prop} {b₀ : Frame} {a₀ : Act} {ops₀ : Array Oper} {i₀ : Nat} {rest₀ : List Nat} {k₀ : List Item} {cs : List Frame} {mT : Nat}
set_option maxRecDepth 100000 in
set_option maxHeartbeats 16000000 in
theorem addPosR (H : WgLib P L) (hR : Keeps L.tWg Wg R F)
    (hT : ∀ w, F w → WgLive L.tWg Wg w → Goes P true R DC0 Fin mT (G (b₀.at (a₀.put ((ops₀[i₀]?).bind (·.dst)) (.tuple #[])) (.inRegion ops₀ rest₀ :: k₀)) cs) w) (w : World) (hF : F w ∧ WgLive L.tWg Wg w) :
    Goes P true R DC0 (PDis P L.tWg Wg R Fin) 12 (G ((base L.add).at ⟨#[.pointer (some ⟨Wg, 0, none⟩), .int .i64 1, undef, undef, undef, undef, undef, undef, undef, undef, undef, undef, undef, undef, undef, undef, undef, undef, undef, undef, undef, undef, undef, undef, undef, undef, undef, undef, undef, undef, undef, undef, undef, undef, undef, undef, undef, undef, undef, undef, undef, undef, undef, undef, undef, undef, undef, undef, undef, undef, undef, undef, undef, undef, undef, undef, undef, undef, undef, undef, undef, undef, undef, undef, undef, undef, undef, undef, undef, undef, undef, undef, undef, undef, undef, undef, undef, undef, undef, undef, undef, undef, undef, undef, undef, undef, undef, undef, undef, undef, undef, undef, undef, undef, undef, undef, undef, undef, undef, undef, undef, undef, undef, undef, undef, undef, undef, undef, undef, undef, undef, undef, undef, undef, undef, undef, undef], []⟩ [.code (body_add L)]) (b₀.at a₀ (.inRegion ops₀ (i₀ :: rest₀) :: k₀) :: cs)) w := by
  lib_facts
  simp only [body_add, addFn, Option.getD_some]
  u_c stepG_seq (fa hR) hF
  u_cond true (fa hR) hF
  u_c stepG_seq (fa hR) hF
  u_c stepG_seq (fa hR) hF
  u_reg (fa hR) hF
  u_op (fa hR) hF
  u_op (fa hR) hF
  u_c stepG_region_end (fa hR) hF
  u_cond false (fa hR) hF
  u_c stepG_skip (fa hR) hF
  u_c stepG_seq (fa hR) hF
  u_reg (fa hR) hF
  refine Goes.stop (fun w₁ h₁ => ?_)
  replace hF := fa hR hF h₁
  clear h₁
  refine ⟨rfl, _, stepG_mark0 .disable (by simp) rfl rfl (by k_ne) rfl H.f_disable (x_disable_n L) (x_disable_b L) (x_disable_x L) (x_disable_f L), 60, ?_⟩
  walk_nrm
  u_c stepG_region_end (fa hR) hF
  u_reg (fa hR) hF
  u_defer (fa hR) hF
  u_c stepG_region_end (fa hR) hF
  u_c stepG_seq (fa hR) hF
  u_reg (fa hR) hF
  u_op (fa hR) hF
  u_c stepG_region_end (fa hR) hF
  u_c stepG_seq (fa hR) hF
  u_c stepG_seq (fa hR) hF
  u_reg (fa hR) hF
  u_bub (fa hR) hF
  u_c stepG_region_end (fa hR) hF
  u_cond false (fa hR) hF
  u_c stepG_skip (fa hR) hF
  u_c stepG_seq (fa hR) hF
  u_reg (fa hR) hF
  u_op (fa hR) hF
  u_op (fa hR) hF
  u_op (fa hR) hF
  u_op (fa hR) hF
  u_op (fa hR) hF
  u_op (fa hR) hF
  u_call H.f_uAdd (nm_uAdd L) uAddFn (fa hR) hF
  u_c stepG_seq (fa hR) hF
  u_reg (fa hR) hF
  u_op (fa hR) hF
  u_c stepG_region_end (fa hR) hF
  u_c stepG_seq (fa hR) hF
  u_reg (fa hR) hF
  u_op (fa hR) hF
  u_op (fa hR) hF
  u_op (fa hR) hF
  u_op (fa hR) hF
  refine Goes.stop (fun w₂ h₁ => ?_)
  replace hF := fa hR hF h₁
  clear h₁
  refine ⟨rfl, fun v hv hw => ?_⟩
  rcases Nat.eq_zero_or_pos v with rfl | hvp
  · replace hw : WgAt L.tWg Wg w₂ 0 0 := by simpa using hw
    have z : (((0 : Nat) : Int) + 1) * KK = KK := by simp
    rw [z]
    have e0 : IntKind.u64.wrap (0 + 4294967296) = KK := by decide
    refine ⟨_, (stepG_add_atomic rfl rfl (by k_ne) rfl H.f_addU64 (x_addU64_n L) (x_addU64_b L) (x_addU64_x L) .u64 (x_addU64_f L) rfl rfl hw.cellSt (hw.thaw 0)).trans (by rw [e0]; rfl), fun _ => ⟨110, ?_⟩, fun h => absurd rfl h⟩
    replace hF : F (w₂.setCell (stA Wg) (.int .u64 KK)) ∧ WgLive L.tWg Wg (w₂.setCell (stA Wg) (.int .u64 KK)) := ⟨hR.turn _ _ _ rfl hF.1, ⟨_, _, hw.setSt _⟩⟩
    clear hw
    simp only [KK] at hF ⊢
    walk_nrm
    u_op (fa hR) hF
    u_c stepG_region_end (fa hR) hF
    u_c stepG_ret' (fa hR) hF
    u_leave1 H.f_uAdd (fa hR) hF
    u_op (fa hR) hF
    u_c stepG_region_end (fa hR) hF
    u_c stepG_seq (fa hR) hF
    u_c stepG_seq (fa hR) hF
    u_reg (fa hR) hF
    u_op (fa hR) hF
    u_op (fa hR) hF
    u_op (fa hR) hF
    u_op (fa hR) hF
    u_skip (fa hR) hF
    u_skip (fa hR) hF
    u_op (fa hR) hF
    u_c stepG_region_end (fa hR) hF
    u_cond false (fa hR) hF
    u_c stepG_skip (fa hR) hF
    u_c stepG_seq (fa hR) hF
    u_reg (fa hR) hF
    u_op (fa hR) hF
    u_op (fa hR) hF
    u_op (fa hR) hF
    u_op (fa hR) hF
    u_c stepG_region_end (fa hR) hF
    u_c stepG_seq (fa hR) hF
    u_reg (fa hR) hF
    u_op (fa hR) hF
    u_op (fa hR) hF
    u_op (fa hR) hF
    u_op (fa hR) hF
    u_c stepG_region_end (fa hR) hF
    u_c stepG_seq (fa hR) hF
    u_c stepG_seq (fa hR) hF
    u_reg (fa hR) hF
    u_op (fa hR) hF
    u_op (fa hR) hF
    u_op (fa hR) hF
    u_op (fa hR) hF
    u_op (fa hR) hF
    u_op (fa hR) hF
    u_op (fa hR) hF
    u_op (fa hR) hF
    u_op (fa hR) hF
    u_op (fa hR) hF
    u_c stepG_region_end (fa hR) hF
    u_cond true (fa hR) hF
    u_reg (fa hR) hF
    u_op (fa hR) hF
    u_op (fa hR) hF
    u_op (fa hR) hF
    u_conv H.underlying_tPU32 H.room_tU32 (WgLive.cell1 hF.2).choose_spec (fa hR) hF
    refine Goes.stop (fun w₄ h₁ => ?_)
    replace hF := fa hR hF h₁
    clear h₁
    refine ⟨rfl, _, stepG_markAt .read (by simp) rfl rfl (by k_ne) rfl H.f_raceRead (x_raceRead_n L) (x_raceRead_b L) (x_raceRead_x L) (x_raceRead_f L) (ad := smA Wg) (by simp [Act.eval, smA]), 80, ?_⟩
    walk_nrm
    u_c stepG_region_end (fa hR) hF
    u_c stepG_seq (fa hR) hF
    u_c stepG_seq (fa hR) hF
    u_reg (fa hR) hF
    u_op (fa hR) hF
    u_op (fa hR) hF
    u_c stepG_region_end (fa hR) hF
    u_cond false (fa hR) hF
    u_c stepG_skip (fa hR) hF
    u_c stepG_seq (fa hR) hF
    u_c stepG_seq (fa hR) hF
    u_reg (fa hR) hF
    u_op (fa hR) hF
    u_op (fa hR) hF
    u_op (fa hR) hF
    u_skip (fa hR) hF
    u_skip (fa hR) hF
    u_op (fa hR) hF
    u_op (fa hR) hF
    u_skip (fa hR) hF
    u_skip (fa hR) hF
    u_skip (fa hR) hF
    u_skip (fa hR) hF
    u_op (fa hR) hF
    u_c stepG_region_end (fa hR) hF
    u_cond false (fa hR) hF
    u_c stepG_skip (fa hR) hF
    u_c stepG_seq (fa hR) hF
    u_c stepG_seq (fa hR) hF
    u_reg (fa hR) hF
    u_op (fa hR) hF
    u_op (fa hR) hF
    u_op (fa hR) hF
    u_skip (fa hR) hF
    u_skip (fa hR) hF
    u_op (fa hR) hF
    u_c stepG_region_end (fa hR) hF
    u_cond true (fa hR) hF
    u_c stepG_ret' (fa hR) hF
    refine Goes.stop (fun w₃ h₁ => ?_)
    replace hF := fa hR hF h₁
    clear h₁
    refine ⟨rfl, _, stepG_unwind_entry (v := .tuple #[]) (evs := #[mk .enable]) rfl H.f_enable (x_enable_n L) (x_enable_b L) (x_enable_x L) (x_enable_f L) (by simp [Extern.Race.none_]) (by simp [mk]) (by simp [mk]), mT + 1, ?_⟩
    u_leave0 H.f_add (fa hR) hF
    exact hT _ hF.1 hF.2
  · obtain ⟨V, hV⟩ : ∃ V : Int, V = (v : Int) + 1 := ⟨_, rfl⟩
    obtain ⟨S, hS⟩ : ∃ S : Int, S = V * KK := ⟨_, rfl⟩
    have eS : IntKind.u64.wrap ((v : Int) * KK + 4294967296) = S := by rw [IntKind.wrap_u64, hS, hV]; simp only [KK]; omega
    rw [← hV, ← hS]
    have a1 : S / 4294967296 = V := by rw [hS]; simp only [KK]; omega
    have b1 : bits .and .u64 S 2147483648 = 0 := by rw [hS, hV]; have := Go.ConcN.st_flag (v + 1) 0 (by omega) (by omega); simpa [KK] using this
    have b2 : bits .and .u64 S 2147483647 = 0 := by rw [hS, hV]; have := Go.ConcN.st_waiters (v + 1) 0 (by omega) (by omega); simpa [KK] using this
    have c1 : IntKind.i32.wrap V = V := by rw [IntKind.wrap_i32]; omega
    have q1 : (V == 1) = false := by simp; omega
    have q2 : decide (V = 1) = false := decide_eq_false (by omega)
    have q3 : decide (V < 0) = false := decide_eq_false (by omega)
    have q4 : decide (0 < V) = true := decide_eq_true (by omega)
    have q5 : (V == 0) = false := by simp; omega
    have q6 : decide (V = 0) = false := decide_eq_false (by omega)
    refine ⟨_, (stepG_add_atomic rfl rfl (by k_ne) rfl H.f_addU64 (x_addU64_n L) (x_addU64_b L) (x_addU64_x L) .u64 (x_addU64_f L) rfl rfl hw.cellSt (hw.thaw 0)).trans (by rw [eS]; rfl), fun h => absurd h (by omega), fun _ => ⟨110, ?_⟩⟩
    replace hF : F (w₂.setCell (stA Wg) (.int .u64 S)) ∧ WgLive L.tWg Wg (w₂.setCell (stA Wg) (.int .u64 S)) := ⟨hR.turn _ _ _ rfl hF.1, ⟨_, _, hw.setSt _⟩⟩
    clear hw hS hV eS
    walk_nrm
    u_op (fa hR) hF
    u_c stepG_region_end (fa hR) hF
    u_c stepG_ret' (fa hR) hF
    u_leave1 H.f_uAdd (fa hR) hF
    u_op (fa hR) hF
    u_c stepG_region_end (fa hR) hF
    u_c stepG_seq (fa hR) hF
    u_c stepG_seq (fa hR) hF
    u_reg (fa hR) hF
    u_op (fa hR) hF
    u_op (fa hR) hF
    u_op (fa hR) hF
    u_op (fa hR) hF
    u_skip (fa hR) hF
    u_skip (fa hR) hF
    u_op (fa hR) hF
    u_c stepG_region_end (fa hR) hF
    u_cond false (fa hR) hF
    u_c stepG_skip (fa hR) hF
    u_c stepG_seq (fa hR) hF
    u_reg (fa hR) hF
    u_op (fa hR) hF
    u_op (fa hR) hF
    u_op (fa hR) hF
    u_op (fa hR) hF
    u_c stepG_region_end (fa hR) hF
    u_c stepG_seq (fa hR) hF
    u_reg (fa hR) hF
    u_op (fa hR) hF
    u_op (fa hR) hF
    u_op (fa hR) hF
    u_op (fa hR) hF
    u_c stepG_region_end (fa hR) hF
    u_c stepG_seq (fa hR) hF
    u_c stepG_seq (fa hR) hF
    u_reg (fa hR) hF
    u_op (fa hR) hF
    u_op (fa hR) hF
    u_op (fa hR) hF
    u_op (fa hR) hF
    u_op (fa hR) hF
    u_op (fa hR) hF
    u_op (fa hR) hF
    u_op (fa hR) hF
    u_op (fa hR) hF
    u_op (fa hR) hF
    u_c stepG_region_end (fa hR) hF
    (u_in (fa hR) hF; rw [stepG_cond (t := false) (by first | rfl | (simp only [Act.eval, Array.getD_eq_getD_getElem?, List.getElem?_toArray, List.getElem?_cons_succ, List.getElem?_cons_zero, Option.getD_some, Value.bool.injEq]; first | rfl | assumption | omega | (simp; omega)))]; simp only [goes_go, Bool.false_eq_true, ↓reduceIte]; refine ⟨by u_nil, ?_⟩)
    u_c stepG_skip (fa hR) hF
    u_c stepG_seq (fa hR) hF
    u_c stepG_seq (fa hR) hF
    u_reg (fa hR) hF
    u_op (fa hR) hF
    u_op (fa hR) hF
    u_c stepG_region_end (fa hR) hF
    (u_in (fa hR) hF; rw [stepG_cond (t := false) (by first | rfl | (simp only [Act.eval, Array.getD_eq_getD_getElem?, List.getElem?_toArray, List.getElem?_cons_succ, List.getElem?_cons_zero, Option.getD_some, Value.bool.injEq]; first | rfl | assumption | omega | (simp; omega)))]; simp only [goes_go, Bool.false_eq_true, ↓reduceIte]; refine ⟨by u_nil, ?_⟩)
    u_c stepG_skip (fa hR) hF
    u_c stepG_seq (fa hR) hF
    u_c stepG_seq (fa hR) hF
    u_reg (fa hR) hF
    u_op (fa hR) hF
    u_op (fa hR) hF
    u_op (fa hR) hF
    u_skip (fa hR) hF
    u_skip (fa hR) hF
    u_op (fa hR) hF
    u_op (fa hR) hF
    u_skip (fa hR) hF
    u_skip (fa hR) hF
    u_skip (fa hR) hF
    u_skip (fa hR) hF
    u_op (fa hR) hF
    u_c stepG_region_end (fa hR) hF
    u_cond false (fa hR) hF
    u_c stepG_skip (fa hR) hF
    u_c stepG_seq (fa hR) hF
    u_c stepG_seq (fa hR) hF
    u_reg (fa hR) hF
    u_op (fa hR) hF
    u_op (fa hR) hF
    u_op (fa hR) hF
    u_skip (fa hR) hF
    u_skip (fa hR) hF
    u_op (fa hR) hF
    u_c stepG_region_end (fa hR) hF
    (u_in (fa hR) hF; rw [stepG_cond (t := true) (by first | rfl | (simp only [Act.eval, Array.getD_eq_getD_getElem?, List.getElem?_toArray, List.getElem?_cons_succ, List.getElem?_cons_zero, Option.getD_some, Value.bool.injEq]; first | rfl | assumption | omega | (simp; omega)))]; simp only [goes_go, ↓reduceIte]; refine ⟨by u_nil, ?_⟩)
    u_c stepG_ret' (fa hR) hF
    refine Goes.stop (fun w₃ h₁ => ?_)
    replace hF := fa hR hF h₁
    clear h₁
    refine ⟨rfl, _, stepG_unwind_entry (v := .tuple #[]) (evs := #[mk .enable]) rfl H.f_enable (x_enable_n L) (x_enable_b L) (x_enable_x L) (x_enable_f L) (by simp [Extern.Race.none_]) (by simp [mk]) (by simp [mk]), mT + 1, ?_⟩
    u_leave0 H.f_add (fa hR) hF
    exact hT _ hF.1 hF.2
set_option maxRecDepth 100000 in
set_option maxHeartbeats 16000000 in
theorem waitRoundR (H : WgLib P L) (hR : Keeps L.tWg Wg R F)
    (hT : ∀ w, F w → WgLive L.tWg Wg w → Goes P true R DC0 Fin mT (G (b₀.at (a₀.put ((ops₀[i₀]?).bind (·.dst)) (.tuple #[])) (.inRegion ops₀ rest₀ :: k₀)) cs) w) (g : Goroutine) (w : World)
    (h : AnchW L F Wg (b₀.at a₀ (.inRegion ops₀ (i₀ :: rest₀) :: k₀)) cs g w) : ∃ m, Goes P true R DC0 (WLoa P L.tWg Wg R Fin (AnchW L F Wg (b₀.at a₀ (.inRegion ops₀ (i₀ :: rest₀) :: k₀)) cs)) m g w := by
  lib_facts
  obtain ⟨T, rfl, hT84, t0, hF⟩ := h
  obtain ⟨v0, v1, v2, v3, v4, v5, v6, v7, v8, v9, v10, v11, v12, v13, v14, v15, v16, v17, v18, v19, v20, v21, v22, v23, v24, v25, v26, v27, v28, v29, v30, v31, v32, v33, v34, v35, v36, v37, v38, v39, v40, v41, v42, v43, v44, v45, v46, v47, v48, v49, v50, v51, v52, v53, v54, v55, v56, v57, v58, v59, v60, v61, v62, v63, v64, v65, v66, v67, v68, v69, v70, v71, v72, v73, v74, v75, v76, v77, v78, v79, v80, v81, v82, v83, rfl⟩ := array84 T hT84
  simp only [List.getElem?_toArray, List.getElem?_cons_zero, Option.some.injEq] at t0
  subst t0
  refine ⟨40, ?_⟩
  simp only [L7, body_wait, waitFn, Option.getD_some]
  u_c stepG_block (fa hR) hF
  u_c stepG_seq (fa hR) hF
  u_reg (fa hR) hF
  u_op (fa hR) hF
  u_op (fa hR) hF
  u_op (fa hR) hF
  u_call H.f_uLoad (nm_uLoad L) uLoadFn (fa hR) hF
  u_c stepG_seq (fa hR) hF
  u_reg (fa hR) hF
  u_op (fa hR) hF
  u_c stepG_region_end (fa hR) hF
  u_c stepG_seq (fa hR) hF
  u_reg (fa hR) hF
  u_op (fa hR) hF
  u_op (fa hR) hF
  u_op (fa hR) hF
  refine Goes.stop (fun w₁ h₁ => ?_)
  replace hF := fa hR hF h₁
  clear h₁
  refine ⟨rfl, fun v hv hw => ?_⟩
  rcases Nat.eq_zero_or_pos v with rfl | hvp
  · replace hw : WgAt L.tWg Wg w₁ 0 0 := by simpa using hw
    refine ⟨_, stepG_load_atomic (v := 0) rfl rfl (by k_ne) rfl H.f_loadU64 (x_loadU64_n L) (x_loadU64_b L) (x_loadU64_x L) .u64 (x_loadU64_f L) rfl hw.cellSt, fun _ => ⟨60, ?_⟩, fun h => absurd rfl h⟩
    clear hw
    walk_nrm
    u_op (fa hR) hF
    u_c stepG_region_end (fa hR) hF
    u_c stepG_ret' (fa hR) hF
    u_leave1 H.f_uLoad (fa hR) hF
    u_op (fa hR) hF
    u_c stepG_region_end (fa hR) hF
    u_c stepG_seq (fa hR) hF
    u_reg (fa hR) hF
    u_op (fa hR) hF
    u_op (fa hR) hF
    u_op (fa hR) hF
    u_op (fa hR) hF
    u_c stepG_region_end (fa hR) hF
    u_c stepG_seq (fa hR) hF
    u_reg (fa hR) hF
    u_op (fa hR) hF
    u_op (fa hR) hF
    u_op (fa hR) hF
    u_op (fa hR) hF
    u_c stepG_region_end (fa hR) hF
    u_c stepG_seq (fa hR) hF
    u_c stepG_seq (fa hR) hF
    u_reg (fa hR) hF
    u_op (fa hR) hF
    u_op (fa hR) hF
    u_c stepG_region_end (fa hR) hF
    u_cond true (fa hR) hF
    u_c stepG_seq (fa hR) hF
    u_cond true (fa hR) hF
    u_c stepG_seq (fa hR) hF
    u_reg (fa hR) hF
    refine Goes.stop (fun w₅ h₁ => ?_)
    replace hF := fa hR hF h₁
    clear h₁
    refine ⟨rfl, _, stepG_mark0 .enable (by simp) rfl rfl (by k_ne) rfl H.f_enable (x_enable_n L) (x_enable_b L) (x_enable_x L) (x_enable_f L), 12, ?_⟩
    walk_nrm
    u_c stepG_region_end (fa hR) hF
    u_reg (fa hR) hF
    u_op (fa hR) hF
    u_conv H.underlying_tWgP H.room_tWg (WgLive.cell0 hF.2).choose_spec (fa hR) hF
    refine Goes.stop (fun w₆ h₁ => ?_)
    replace hF := fa hR hF h₁
    clear h₁
    refine ⟨rfl, _, stepG_markAt .acquire (by simp) rfl rfl (by k_ne) rfl H.f_acquire (x_acquire_n L) (x_acquire_b L) (x_acquire_x L) (x_acquire_f L) (ad := stA Wg) (by simp [Act.eval, stA]), mT + 20, ?_⟩
    walk_nrm
    u_c stepG_region_end (fa hR) hF
    u_c stepG_seq (fa hR) hF
    u_c stepG_seq (fa hR) hF
    u_reg (fa hR) hF
    u_op (fa hR) hF
    u_op (fa hR) hF
    u_op (fa hR) hF
    u_op (fa hR) hF
    u_op (fa hR) hF
    u_op (fa hR) hF
    u_op (fa hR) hF
    u_op (fa hR) hF
    u_skip (fa hR) hF
    u_skip (fa hR) hF
    u_op (fa hR) hF
    u_c stepG_region_end (fa hR) hF
    u_cond false (fa hR) hF
    u_c stepG_skip (fa hR) hF
    u_c stepG_ret' (fa hR) hF
    u_leave0 H.f_wait (fa hR) hF
    exact hT _ hF.1 hF.2
  · obtain ⟨S, hS⟩ : ∃ S : Int, (v : Int) * KK = S := ⟨_, rfl⟩
    have a1 : S / 4294967296 = (v : Int) := by rw [← hS]; simp only [KK]; omega
    have b1 : bits .and .u64 S 2147483648 = 0 := by rw [← hS]; have := Go.ConcN.st_flag v 0 (by omega) (by omega); simpa [KK] using this
    have b2 : bits .and .u64 S 2147483647 = 0 := by rw [← hS]; have := Go.ConcN.st_waiters v 0 (by omega) (by omega); simpa [KK] using this
    have c1 : IntKind.i32.wrap (v : Int) = (v : Int) := by rw [IntKind.wrap_i32]; omega
    have w1 : IntKind.u64.wrap (S + 1) = S + 1 := by rw [IntKind.wrap_u64, ← hS]; simp only [KK]; omega
    have q5 : ((v : Int) == 0) = false := by simp; omega
    have q6 : decide ((v : Int) = 0) = false := decide_eq_false (by omega)
    rw [hS] at hw
    refine ⟨_, stepG_load_atomic (v := S) rfl rfl (by k_ne) rfl H.f_loadU64 (x_loadU64_n L) (x_loadU64_b L) (x_loadU64_x L) .u64 (x_loadU64_f L) rfl hw.cellSt, fun h0 => absurd h0 (by omega), fun _ => ⟨60, ?_⟩⟩
    clear hw
    walk_nrm
    u_op (fa hR) hF
    u_c stepG_region_end (fa hR) hF
    u_c stepG_ret' (fa hR) hF
    u_leave1 H.f_uLoad (fa hR) hF
    u_op (fa hR) hF
    u_c stepG_region_end (fa hR) hF
    u_c stepG_seq (fa hR) hF
    u_reg (fa hR) hF
    u_op (fa hR) hF
    u_op (fa hR) hF
    u_op (fa hR) hF
    u_op (fa hR) hF
    u_c stepG_region_end (fa hR) hF
    u_c stepG_seq (fa hR) hF
    u_reg (fa hR) hF
    u_op (fa hR) hF
    u_op (fa hR) hF
    u_op (fa hR) hF
    u_op (fa hR) hF
    u_c stepG_region_end (fa hR) hF
    u_c stepG_seq (fa hR) hF
    u_c stepG_seq (fa hR) hF
    u_reg (fa hR) hF
    u_op (fa hR) hF
    u_op (fa hR) hF
    u_c stepG_region_end (fa hR) hF
    (u_in (fa hR) hF; rw [stepG_cond (t := false) (by first | rfl | (simp only [Act.eval, Array.getD_eq_getD_getElem?, List.getElem?_toArray, List.getElem?_cons_succ, List.getElem?_cons_zero, Option.getD_some, Value.bool.injEq]; first | rfl | assumption | omega | (simp; omega)))]; simp only [goes_go, Bool.false_eq_true, ↓reduceIte]; refine ⟨by u_nil, ?_⟩)
    u_c stepG_skip (fa hR) hF
    u_c stepG_seq (fa hR) hF
    u_reg (fa hR) hF
    u_op (fa hR) hF
    u_op (fa hR) hF
    u_op (fa hR) hF
    u_op (fa hR) hF
    u_op (fa hR) hF
    u_op (fa hR) hF
    u_call H.f_uCas (nm_uCas L) uCasFn (fa hR) hF
    u_c stepG_seq (fa hR) hF
    u_reg (fa hR) hF
    u_op (fa hR) hF
    u_c stepG_region_end (fa hR) hF
    u_c stepG_seq (fa hR) hF
    u_reg (fa hR) hF
    u_op (fa hR) hF
    u_op (fa hR) hF
    u_op (fa hR) hF
    u_op (fa hR) hF
    u_op (fa hR) hF
    refine Goes.stop (fun w₂ h₁ => ?_)
    replace hF := fa hR hF h₁
    clear h₁
    refine ⟨rfl, fun v' hv' hw => ⟨fun e => ?_, fun e => ?_⟩⟩
    · subst e
      rw [hS] at hw ⊢
      refine ⟨_, (stepG_cas_hit (v := S) (n := S + 1) rfl rfl (by k_ne) rfl H.f_casU64 (x_casU64_n L) (x_casU64_b L) (x_casU64_x L) .u64 (x_casU64_f L) rfl rfl rfl hw.cellSt (hw.thaw 0)).trans (by rfl), 70, ?_⟩
      replace hF : F (w₂.setCell (stA Wg) (.int .u64 (S + 1))) ∧ WgLive L.tWg Wg (w₂.setCell (stA Wg) (.int .u64 (S + 1))) := ⟨hR.turn _ _ _ rfl hF.1, ⟨_, _, hw.setSt _⟩⟩
      clear hw
      walk_nrm
      u_op (fa hR) hF
      u_c stepG_region_end (fa hR) hF
      u_c stepG_ret' (fa hR) hF
      u_leave1 H.f_uCas (fa hR) hF
      u_c stepG_region_end (fa hR) hF
      u_cond true (fa hR) hF
      u_c stepG_seq (fa hR) hF
      u_c stepG_seq (fa hR) hF
      u_reg (fa hR) hF
      u_op (fa hR) hF
      u_op (fa hR) hF
      u_op (fa hR) hF
      u_op (fa hR) hF
      u_c stepG_region_end (fa hR) hF
      u_cond true (fa hR) hF
      u_reg (fa hR) hF
      u_op (fa hR) hF
      u_op (fa hR) hF
      u_op (fa hR) hF
      u_conv H.underlying_tPU32 H.room_tU32 (WgLive.cell1 hF.2).choose_spec (fa hR) hF
      refine Goes.stop (fun w₇ h₁ => ?_)
      replace hF := fa hR hF h₁
      clear h₁
      refine ⟨rfl, _, stepG_markAt .write (by simp) rfl rfl (by k_ne) rfl H.f_raceWrite (x_raceWrite_n L) (x_raceWrite_b L) (x_raceWrite_x L) (x_raceWrite_f L) (ad := smA Wg) (by simp [Act.eval, smA]), 60, ?_⟩
      walk_nrm
      u_c stepG_region_end (fa hR) hF
      u_c stepG_seq (fa hR) hF
      u_reg (fa hR) hF
      u_op (fa hR) hF
      u_c stepG_region_end (fa hR) hF
      u_c stepG_seq (fa hR) hF
      u_c stepG_seq (fa hR) hF
      u_reg (fa hR) hF
      u_op (fa hR) hF
      u_op (fa hR) hF
      u_op (fa hR) hF
      u_op (fa hR) hF
      u_skip (fa hR) hF
      u_op (fa hR) hF
      u_c stepG_region_end (fa hR) hF
      u_cond false (fa hR) hF
      u_c stepG_skip (fa hR) hF
      u_c stepG_seq (fa hR) hF
      u_reg (fa hR) hF
      u_op (fa hR) hF
      u_op (fa hR) hF
      u_op (fa hR) hF
      u_op (fa hR) hF
      refine Goes.stop (fun w₃ h₁ => ?_)
      replace hF := fa hR hF h₁
      clear h₁
      refine ⟨rfl, rfl, fun ⟨st, hw⟩ => stepG_semacquire_wait rfl rfl rfl H.f_semacquire (x_semacquire_n L) (x_semacquire_b L) (x_semacquire_x L) (x_semacquire_f L) (by simp [Act.eval, smA]) hw.cellSm, fun hf => ?_⟩
      refine ⟨_, (stepG_semacquire (n := 1) rfl rfl (by k_ne) rfl H.f_semacquire (x_semacquire_n L) (x_semacquire_b L) (x_semacquire_x L) (x_semacquire_f L) (by simp [Act.eval, smA]) hf.cellSm (by k_ne) (hf.thaw 1)).trans (by rfl), 40, ?_⟩
      replace hF : F (w₃.setCell (smA Wg) (.int .u32 0)) ∧ WgLive L.tWg Wg (w₃.setCell (smA Wg) (.int .u32 0)) := ⟨hR.turn _ _ _ rfl hF.1, ⟨_, _, hf.setSm 0⟩⟩
      clear hf
      walk_nrm
      u_c stepG_region_end (fa hR) hF
      u_c stepG_seq (fa hR) hF
      u_reg (fa hR) hF
      u_op (fa hR) hF
      u_op (fa hR) hF
      u_op (fa hR) hF
      u_call H.f_uLoad (nm_uLoad L) uLoadFn (fa hR) hF
      u_c stepG_seq (fa hR) hF
      u_reg (fa hR) hF
      u_op (fa hR) hF
      u_c stepG_region_end (fa hR) hF
      u_c stepG_seq (fa hR) hF
      u_reg (fa hR) hF
      u_op (fa hR) hF
      u_op (fa hR) hF
      u_op (fa hR) hF
      refine Goes.stop (fun w₄ h₁ => ?_)
      replace hF := fa hR hF h₁
      clear h₁
      refine ⟨rfl, fun hw => ⟨_, stepG_load_atomic (v := 0) rfl rfl (by k_ne) rfl H.f_loadU64 (x_loadU64_n L) (x_loadU64_b L) (x_loadU64_x L) .u64 (x_loadU64_f L) rfl hw.cellSt, 30, ?_⟩⟩
      clear hw
      walk_nrm
      u_op (fa hR) hF
      u_c stepG_region_end (fa hR) hF
      u_c stepG_ret' (fa hR) hF
      u_leave1 H.f_uLoad (fa hR) hF
      u_op (fa hR) hF
      u_op (fa hR) hF
      u_c stepG_region_end (fa hR) hF
      u_c stepG_seq (fa hR) hF
      u_cond true (fa hR) hF
      u_c stepG_seq (fa hR) hF
      u_reg (fa hR) hF
      refine Goes.stop (fun w₅ h₁ => ?_)
      replace hF := fa hR hF h₁
      clear h₁
      refine ⟨rfl, _, stepG_mark0 .enable (by simp) rfl rfl (by k_ne) rfl H.f_enable (x_enable_n L) (x_enable_b L) (x_enable_x L) (x_enable_f L), 12, ?_⟩
      walk_nrm
      u_c stepG_region_end (fa hR) hF
      u_reg (fa hR) hF
      u_op (fa hR) hF
      u_conv H.underlying_tWgP H.room_tWg (WgLive.cell0 hF.2).choose_spec (fa hR) hF
      refine Goes.stop (fun w₆ h₁ => ?_)
      replace hF := fa hR hF h₁
      clear h₁
      refine ⟨rfl, _, stepG_markAt .acquire (by simp) rfl rfl (by k_ne) rfl H.f_acquire (x_acquire_n L) (x_acquire_b L) (x_acquire_x L) (x_acquire_f L) (ad := stA Wg) (by simp [Act.eval, stA]), mT + 10, ?_⟩
      walk_nrm
      u_c stepG_region_end (fa hR) hF
      u_c stepG_seq (fa hR) hF
      u_c stepG_seq (fa hR) hF
      u_reg (fa hR) hF
      u_op (fa hR) hF
      u_c stepG_region_end (fa hR) hF
      u_cond false (fa hR) hF
      u_c stepG_skip (fa hR) hF
      u_c stepG_ret' (fa hR) hF
      u_leave0 H.f_wait (fa hR) hF
      exact hT _ hF.1 hF.2
    · refine ⟨_, stepG_cas_miss (v := (v' : Int) * KK) (old := S) (n := S + 1) rfl rfl (by k_ne) rfl H.f_casU64 (x_casU64_n L) (x_casU64_b L) (x_casU64_x L) .u64 (x_casU64_f L) rfl rfl rfl hw.cellSt (hw.thaw 0) (by rw [← hS]; simp only [KK]; omega), 20, ?_⟩
      clear hw
      walk_nrm
      u_op (fa hR) hF
      u_c stepG_region_end (fa hR) hF
      u_c stepG_ret' (fa hR) hF
      u_leave1 H.f_uCas (fa hR) hF
      u_c stepG_region_end (fa hR) hF
      u_cond false (fa hR) hF
      u_c stepG_skip (fa hR) hF
      u_c stepG_inBlock (fa hR) hF
      u_c stepG_inLoop (fa hR) hF
      refine Goes.stop (fun w₃ h₃ => ?_)
      replace hF := fa hR hF h₃
      exact ⟨_, rfl, by simp, by simp, hF⟩
set_option maxRecDepth 100000 in
theorem waitStartR (H : WgLib P L) (hR : Keeps L.tWg Wg R F) (w : World) (hF : F w ∧ WgLive L.tWg Wg w) :
    Goes P true R DC0 (WDis P R (AnchW L F Wg (b₀.at a₀ (.inRegion ops₀ (i₀ :: rest₀) :: k₀)) cs)) 4
      (G ((base L.wait).at ⟨#[.pointer (some ⟨Wg, 0, none⟩), undef, undef, undef, undef, undef, undef, undef, undef, undef, undef, undef, undef, undef, undef, undef, undef, undef, undef, undef, undef, undef, undef, undef, undef, undef, undef, undef, undef, undef, undef, undef, undef, undef, undef, undef, undef, undef, undef, undef, undef, undef, undef, undef, undef, undef, undef, undef, undef, undef, undef, undef, undef, undef, undef, undef, undef, undef, undef, undef, undef, undef, undef, undef, undef, undef, undef, undef, undef, undef, undef, undef, undef, undef, undef, undef, undef, undef, undef, undef, undef, undef, undef, undef], []⟩ [.code (body_wait L)]) (b₀.at a₀ (.inRegion ops₀ (i₀ :: rest₀) :: k₀) :: cs)) w := by
  lib_facts
  simp only [body_wait, waitFn, Option.getD_some]
  u_c stepG_seq (fa hR) hF
  u_cond true (fa hR) hF
  u_reg (fa hR) hF
  refine Goes.stop (fun w₁ h₁ => ?_)
  replace hF := fa hR hF h₁
  clear h₁
  refine ⟨rfl, _, stepG_mark0 .disable (by simp) rfl rfl (by k_ne) rfl H.f_disable (x_disable_n L) (x_disable_b L) (x_disable_x L) (x_disable_f L), 4, ?_⟩
  walk_nrm
  u_c stepG_region_end (fa hR) hF
  u_c stepG_block (fa hR) hF
  u_c stepG_loop (fa hR) hF
  exact Goes.stop (fun w₂ h₂ => ⟨_, rfl, by simp, by simp, fa hR hF h₂⟩)
end
end Go.Proofs.Ytbckmkppmdfnnaa.Crew
