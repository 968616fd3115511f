/- shelf: cut; drop. -/
import Derived.Test.YtpepijoppgbbfaaSfDe
namespace Go.Proofs.Ytpepijoppgbbfaa.Shf
open Go.RowKit Go.Proofs.Ytpepijoppgbbfaa.Gr

set_option maxRecDepth 100000 in
set_option maxHeartbeats 6400000 in
theorem code_cut : ∀ (T : Tr) (p : Option Addr) (k : ByteArray) (z : Nat) (rest : List Th) (w : World), IsTr w.heap.size w p T → T.list = (k, z) :: rest → T.many ≤ 10000000000 →
    Calls Try.prog 32 #[.pointer p] w fun e w' => ∃ (g : Nat) (x y u : Value) (q : Option Addr), e = .returned (.tuple #[.pointer (some ⟨g, 0, none⟩), .pointer q]) ∧ NodeAt w' g k z x y u ∧ TreeOf w' q rest ∧ Below w.heap.size w w' := by
  intro T
  induction T with
  | leaf => intro p k z rest w _ h; cases h
  | node k' z' lo hi ihl ihr =>
    intro p k z rest w hp hl hn
    obtain ⟨q, pl, pr, rfl, _, hc, hlo, hhi⟩ := hp
    have HQ := Lib.hid (show NodeAt w q k' z' _ _ _ from ⟨hc⟩)
    have c2 : w.cell? ⟨q, 2, none⟩ = some (.pointer pl) := by rw [Lib.cell_of_heap hc]; rfl
    have c3 : w.cell? ⟨q, 3, none⟩ = some (.pointer pr) := by rw [Lib.cell_of_heap hc]; rfl
    have Hq := Lib.hid hc
    have Lq := Lib.hid HQ.out.lt
    have HHI := Lib.hid (fun (wz : World) (hI : Below w.heap.size w wz) => show TreeOf wz pr hi.list from ⟨hi, hhi.below hI hI.size, rfl⟩)
    rw [many_node] at hn
    have hn2 : lo.list.length + hi.list.length ≤ 10000000000 := by simp only [Tr.many] at hn; omega
    clear ihr hc
    cases lo with
    | leaf =>
      obtain rfl : pl = none := hlo
      have h1 : (k', z') = (k, z) ∧ hi.list = rest := by simpa [Tr.list] using hl
      injection h1.1 with h2 h3
      subst h2 h3
      obtain rfl := h1.2
      clear hhi hl h1 hn ihl hn2
      go_enter Try.func32, Try.ntmps32
      go_upto_region 2 with (fail)
      go_quiet (fail)
      go_wp2_with fail
      refine bodyPost_ret (v := .tuple #[.pointer (some ⟨q, 0, none⟩), .pointer pr]) (by simp [results, Try.results32, go_sem]) rfl ⟨q, _, _, _, pr, rfl, HQ.out.go (below_drewN (Below.refl _ _) _), HHI.out _ (below_drewN (Below.refl _ _) _), below_drewN (Below.refl _ _) _⟩
    | node k2 z2 l2 r2 =>
      obtain ⟨k3, z3, rest3, h3⟩ : ∃ k3 z3 rest3, (Tr.node k2 z2 l2 r2).list = (k3, z3) :: rest3 := by
        cases h : (Tr.node k2 z2 l2 r2).list with
        | nil => simp [Tr.list] at h
        | cons a b => exact ⟨a.1, a.2, b, rfl⟩
      have h1 : ((k3, z3) = (k, z)) ∧ rest3 ++ (k', z') :: hi.list = rest := by
        rw [show (Tr.node k' z' (Tr.node k2 z2 l2 r2) hi).list = (Tr.node k2 z2 l2 r2).list ++ (k', z') :: hi.list from rfl, h3] at hl
        simpa using hl
      injection h1.1 with e2 e3
      subst e2 e3
      obtain rfl := h1.2
      have HC := Lib.hid (ihl pl k3 z3 rest3 w hlo h3 (by omega))
      obtain ⟨j, _, _, rfl, _⟩ := hlo
      have hn3 : rest3.length + hi.list.length ≤ 10000000000 := by rw [h3] at hn2; simp only [List.length_cons] at hn2; omega
      have HBL := Lib.hid (fun (wz : World) (hI : Below w.heap.size w wz) a ha => code_balanced a pr rest3 hi.list q k' z' _ _ _ wz ha (HHI.out wz hI) (HQ.out.go hI) (by omega))
      clear hhi hl h1 hn ihl hn2 h3 hn3
      go_enter Try.func32, Try.ntmps32
      go_wp2_with fail
      refine HC.out.mono ?_
      rintro e w1 ⟨g, x, y, u, q1, rfl, hg, hq1, hb1⟩
      have HG1 := Lib.hid hg
      have HQ1 := Lib.hid hq1
      have HB1 := Lib.hid hb1
      have c31 : w1.cell? ⟨q, 3, none⟩ = some (.pointer pr) := by rw [Lib.cell_of_heap ((hb1.block q Lq.out).trans Hq.out)]; rfl
      clear hg hq1 hb1 c2 c3
      go_wp2_with fail
      refine (HBL.out w1 HB1.out q1 HQ1.out).mono ?_
      rintro e w2 ⟨v, rfl, ⟨q2, rfl, hq2⟩, hb2⟩
      have HQ2 := Lib.hid hq2
      have HB2 := Lib.hid hb2
      clear hq2 hb2 c31
      go_wp2_with fail
      refine bodyPost_ret (v := .tuple #[.pointer (some ⟨g, 0, none⟩), .pointer q2]) (by simp [results, Try.results32, go_sem]) rfl ⟨g, x, y, u, q2, rfl, HG1.out.go HB2.out, HQ2.out, HB1.out.trans (HB2.out.mono HB1.out.size)⟩

set_option maxRecDepth 100000 in
set_option maxHeartbeats 6400000 in
attribute [local irreducible] Go.wpQuiet in
theorem code_drop (k : ByteArray) : ∀ (T : Tr) (p : Option Addr) (w : World), IsTr w.heap.size w p T → SortedL T.list → T.many ≤ 10000000000 →
    Calls Try.prog 24 #[.pointer p, .string k] w fun e w' => ∃ v, e = .returned v ∧ (FactN.tree (dropL T.list k)).holds v w' ∧ Below w.heap.size w w' := by
  intro T
  induction T with
  | leaf =>
    intro p w hp _ _
    obtain rfl : p = none := hp
    go_enter Try.func24, Try.ntmps24
    go_wp2_with fail
    go_ret
    exact ⟨_, rfl, ⟨_, rfl, TreeOf.leaf _⟩, Below.refl _ _⟩
  | node k' z' lo hi ihl ihr =>
    intro p w hp hs hn
    obtain ⟨q, pl, pr, rfl, _, hc, hlo, hhi⟩ := hp
    obtain ⟨hs1, hs2, hs3⟩ := sorted_parts hs
    rw [many_node] at hn
    have hn2 : lo.list.length + hi.list.length ≤ 10000000000 := by simp only [Tr.many] at hn; omega
    have HQ := Lib.hid (show NodeAt w q k' z' _ _ _ from ⟨hc⟩)
    have Hq := Lib.hid hc
    have Lq := Lib.hid HQ.out.lt
    have c0 : w.cell? ⟨q, 0, none⟩ = some (.string k') := by rw [Lib.cell_of_heap hc]; rfl
    have HCM := Lib.hid (code_compare k k' w)
    have HPL := Lib.hid (fun (wz : World) (hI : Below w.heap.size w wz) => ihl pl wz (hlo.below hI hI.size) hs1 (by omega))
    have HPR := Lib.hid (fun (wz : World) (hI : Below w.heap.size w wz) => ihr pr wz (hhi.below hI hI.size) hs2 (by omega))
    have HLO := Lib.hid (fun (wz : World) (hI : Below w.heap.size w wz) => show TreeOf wz pl lo.list from ⟨lo, hlo.below hI hI.size, rfl⟩)
    have HHI := Lib.hid (fun (wz : World) (hI : Below w.heap.size w wz) => show TreeOf wz pr hi.list from ⟨hi, hhi.below hI hI.size, rfl⟩)
    rw [show (Tr.node k' z' lo hi).list = lo.list ++ (k', z') :: hi.list from rfl]
    rcases key_cases k k' with hk | hk | rfl
    · rw [drop_left (x := (k', z')) hk]
      rw [cmpK_less hk] at HCM
      have HBL := Lib.hid (fun (wz : World) (hI : Below w.heap.size w wz) a ha => code_balanced a pr (dropL lo.list k) hi.list q k' z' _ _ _ wz ha (HHI.out wz hI) (HQ.out.go hI) (by have := drop_len_le lo.list k; omega))
      clear hk hs1 hs2 hs3 hn hc hlo hhi ihl ihr hs hn2
      go_enter Try.func24, Try.ntmps24
      go_wp2_with fail
      refine HCM.out.mono ?_
      rintro e w1 ⟨rfl, hb1⟩
      have HB1 := Lib.hid hb1
      clear hb1 c0
      go_upto_region 5 with (fail)
      refine QT.wp_region_facts (by kernel_rfl) (fun w' => Below w.heap.size w w') (fun n v w' => (([.val (.pointer (some ⟨q, 0, none⟩)), .val (.pointer (some ⟨q, 0, none⟩)), .val (.pointer (some ⟨q, 2, none⟩)), .val (.pointer pl), .val (.string k), .tree (dropL lo.list k), .val (.pointer (some ⟨q, 0, none⟩)), .val (.pointer (some ⟨q, 0, none⟩)), .val (.pointer (some ⟨q, 0, none⟩)), .val (.pointer (some ⟨q, 3, none⟩)), .val (.pointer pr), .tree (dropL lo.list k ++ (k', z') :: hi.list), .tree (dropL lo.list k ++ (k', z') :: hi.list)] : List FactN).getD n (.val undef) : FactN).holds v w') (by kernel_rfl) (by kernel_rfl) HB1.out.drew (fun w1 w2 h1 hb => h1.trans (hb.mono h1.size)) (fun n v w1 w2 h hb => FactN.kept _ v w1 w2 h hb) (fun n o ho a wz hI hag hdep => ?_) (fun a wz hI hag hf => ?_)
      · have t0 : a.eval (.tmp 0) = .pointer (some ⟨q, 0, none⟩) := hag.old 0 _ (by kernel_rfl) rfl
        have t1 : a.eval (.tmp 1) = .string k := hag.old 1 _ (by kernel_rfl) rfl
        have c_q_2 : wz.cell? ⟨q, 2, none⟩ = some (.pointer pl) := by rw [Lib.cell_of_heap ((hI.block q Lq.out).trans Hq.out)]; rfl
        have c_q_3 : wz.cell? ⟨q, 3, none⟩ = some (.pointer pr) := by rw [Lib.cell_of_heap ((hI.block q Lq.out).trans Hq.out)]; rfl
        match n, ho with
        | 0, ho =>
          obtain rfl := (Option.some.inj ho).symm
          exact ⟨rfl, QT.wp_value (BigFrame.run_move (.tmp 0) rfl wz) ⟨_, rfl, t0, Below.refl _ _⟩⟩
        | 1, ho =>
          obtain rfl := (Option.some.inj ho).symm
          have d19 : a.eval (.tmp 19) = .pointer (some ⟨q, 0, none⟩) := hdep _ (Array.mem_of_getElem? (i := 0) rfl) rfl _ _ rfl rfl
          exact ⟨rfl, QT.wp_value (v := .pointer (some ⟨q, 0, none⟩)) (by simp [go_sem, QT.nf d19]) ⟨_, rfl, rfl, Below.refl _ _⟩⟩
        | 2, ho =>
          obtain rfl := (Option.some.inj ho).symm
          have d20 : a.eval (.tmp 20) = .pointer (some ⟨q, 0, none⟩) := hdep _ (Array.mem_of_getElem? (i := 0) rfl) rfl _ _ rfl rfl
          exact ⟨rfl, QT.wp_value (v := .pointer (some ⟨q, 2, none⟩)) (by simp [go_sem, QT.nf d20]) ⟨_, rfl, rfl, Below.refl _ _⟩⟩
        | 3, ho =>
          obtain rfl := (Option.some.inj ho).symm
          have d21 : a.eval (.tmp 21) = .pointer (some ⟨q, 2, none⟩) := hdep _ (Array.mem_of_getElem? (i := 0) rfl) rfl _ _ rfl rfl
          exact ⟨rfl, QT.wp_value (v := .pointer pl) (by simp [go_sem, QT.nf d21, c_q_2]) ⟨_, rfl, rfl, Below.refl _ _⟩⟩
        | 4, ho =>
          obtain rfl := (Option.some.inj ho).symm
          exact ⟨rfl, QT.wp_value (BigFrame.run_move (.tmp 1) rfl wz) ⟨_, rfl, t1, Below.refl _ _⟩⟩
        | 5, ho =>
          obtain rfl := (Option.some.inj ho).symm
          have d22 : a.eval (.tmp 22) = .pointer pl := hdep _ (Array.mem_of_getElem? (i := 0) rfl) rfl _ _ rfl rfl
          have d23 : a.eval (.tmp 23) = .string k := hdep _ (Array.mem_of_getElem? (i := 1) rfl) rfl _ _ rfl rfl
          exact ⟨rfl, wp_to (f := 24) (args := #[.pointer pl, .string k]) (by simp [go_sem, QT.nf d22, QT.nf d23]) (HPL.out wz hI) fun v w' h => ⟨v, rfl, h.1, h.2⟩⟩
        | 6, ho =>
          obtain rfl := (Option.some.inj ho).symm
          exact ⟨rfl, QT.wp_value (BigFrame.run_move (.tmp 0) rfl wz) ⟨_, rfl, t0, Below.refl _ _⟩⟩
        | 7, ho =>
          obtain rfl := (Option.some.inj ho).symm
          exact ⟨rfl, QT.wp_value (BigFrame.run_move (.tmp 0) rfl wz) ⟨_, rfl, t0, Below.refl _ _⟩⟩
        | 8, ho =>
          obtain rfl := (Option.some.inj ho).symm
          have d26 : a.eval (.tmp 26) = .pointer (some ⟨q, 0, none⟩) := hdep _ (Array.mem_of_getElem? (i := 0) rfl) rfl _ _ rfl rfl
          exact ⟨rfl, QT.wp_value (v := .pointer (some ⟨q, 0, none⟩)) (by simp [go_sem, QT.nf d26]) ⟨_, rfl, rfl, Below.refl _ _⟩⟩
        | 9, ho =>
          obtain rfl := (Option.some.inj ho).symm
          have d27 : a.eval (.tmp 27) = .pointer (some ⟨q, 0, none⟩) := hdep _ (Array.mem_of_getElem? (i := 0) rfl) rfl _ _ rfl rfl
          exact ⟨rfl, QT.wp_value (v := .pointer (some ⟨q, 3, none⟩)) (by simp [go_sem, QT.nf d27]) ⟨_, rfl, rfl, Below.refl _ _⟩⟩
        | 10, ho =>
          obtain rfl := (Option.some.inj ho).symm
          have d28 : a.eval (.tmp 28) = .pointer (some ⟨q, 3, none⟩) := hdep _ (Array.mem_of_getElem? (i := 0) rfl) rfl _ _ rfl rfl
          exact ⟨rfl, QT.wp_value (v := .pointer pr) (by simp [go_sem, QT.nf d28, c_q_3]) ⟨_, rfl, rfl, Below.refl _ _⟩⟩
        | 11, ho =>
          obtain rfl := (Option.some.inj ho).symm
          have d24 : ((.tree (dropL lo.list k)) : FactN).holds (a.eval (.tmp 24)) wz := hdep _ (Array.mem_of_getElem? (i := 0) rfl) rfl _ _ rfl rfl
          have d25 : a.eval (.tmp 25) = .pointer (some ⟨q, 0, none⟩) := hdep _ (Array.mem_of_getElem? (i := 1) rfl) rfl _ _ rfl rfl
          have d29 : a.eval (.tmp 29) = .pointer pr := hdep _ (Array.mem_of_getElem? (i := 2) rfl) rfl _ _ rfl rfl
          obtain ⟨p24, e24, z24⟩ := d24
          exact ⟨rfl, wp_to (f := 30) (args := #[.pointer p24, .pointer (some ⟨q, 0, none⟩), .pointer pr]) (by simp [go_sem, QT.nf e24, QT.nf d25, QT.nf d29]) (HBL.out wz hI p24 z24) fun v w' h => ⟨v, rfl, h.1, h.2⟩⟩
        | 12, ho =>
          obtain rfl := (Option.some.inj ho).symm
          have d30 : ((.tree (dropL lo.list k ++ (k', z') :: hi.list)) : FactN).holds (a.eval (.tmp 30)) wz := hdep _ (Array.mem_of_getElem? (i := 0) rfl) rfl _ _ rfl rfl
          exact ⟨rfl, QT.wp_value (BigFrame.run_assign (.tmp 30) rfl wz) ⟨_, rfl, d30, Below.refl _ _⟩⟩
        | n + 13, ho => simp at ho
      · have f0 : a.eval (.tmp 19) = .pointer (some ⟨q, 0, none⟩) := hf 0 _ _ rfl rfl
        have f1 : a.eval (.tmp 20) = .pointer (some ⟨q, 0, none⟩) := hf 1 _ _ rfl rfl
        have f2 : a.eval (.tmp 21) = .pointer (some ⟨q, 2, none⟩) := hf 2 _ _ rfl rfl
        have f3 : a.eval (.tmp 22) = .pointer pl := hf 3 _ _ rfl rfl
        have f4 : a.eval (.tmp 23) = .string k := hf 4 _ _ rfl rfl
        obtain ⟨u5, f5, y5⟩ := hf 5 _ _ rfl rfl
        have f6 : a.eval (.tmp 25) = .pointer (some ⟨q, 0, none⟩) := hf 6 _ _ rfl rfl
        have f7 : a.eval (.tmp 26) = .pointer (some ⟨q, 0, none⟩) := hf 7 _ _ rfl rfl
        have f8 : a.eval (.tmp 27) = .pointer (some ⟨q, 0, none⟩) := hf 8 _ _ rfl rfl
        have f9 : a.eval (.tmp 28) = .pointer (some ⟨q, 3, none⟩) := hf 9 _ _ rfl rfl
        have f10 : a.eval (.tmp 29) = .pointer pr := hf 10 _ _ rfl rfl
        obtain ⟨u11, f11, y11⟩ := hf 11 _ _ rfl rfl
        obtain ⟨u12, f12, y12⟩ := hf 12 _ _ rfl rfl
        have ha := hag.puts [(19, .pointer (some ⟨q, 0, none⟩)), (20, .pointer (some ⟨q, 0, none⟩)), (21, .pointer (some ⟨q, 2, none⟩)), (22, .pointer pl), (23, .string k), (24, .pointer u5), (25, .pointer (some ⟨q, 0, none⟩)), (26, .pointer (some ⟨q, 0, none⟩)), (27, .pointer (some ⟨q, 0, none⟩)), (28, .pointer (some ⟨q, 3, none⟩)), (29, .pointer pr), (30, .pointer u11), (4, .pointer u12)] rfl (by simp) (by simp only [List.forall_mem_cons, List.not_mem_nil, false_implies, implies_true, and_true]; exact ⟨f0, f1, f2, f3, f4, f5, f6, f7, f8, f9, f10, f11, f12⟩)
        subst ha
        clear hag hf f0 f1 f2 f3 f4 f5 f6 f7 f8 f9 f10 f11 f12
        simp only [List.foldl_cons, List.foldl_nil, Act.put, List.setIfInBounds_toArray, List.set_cons_succ, List.set_cons_zero]
        rename World => w2
        go_wp2_with fail
        go_ret
        exact ⟨_, rfl, ⟨_, rfl, y12⟩, hI⟩
    · rw [drop_right (x := (k', z')) hs3 hk]
      rw [cmpK_more hk] at HCM
      have HBL := Lib.hid (fun (wz : World) (hI : Below w.heap.size w wz) a ha => code_balanced pl a lo.list (dropL hi.list k) q k' z' _ _ _ wz (HLO.out wz hI) ha (HQ.out.go hI) (by have := drop_len_le hi.list k; omega))
      clear hk hs1 hs2 hs3 hn hc hlo hhi ihl ihr hs hn2
      go_enter Try.func24, Try.ntmps24
      go_wp2_with fail
      refine HCM.out.mono ?_
      rintro e w1 ⟨rfl, hb1⟩
      have HB1 := Lib.hid hb1
      clear hb1 c0
      go_upto_region 7 with (fail)
      refine QT.wp_region_facts (by kernel_rfl) (fun w' => Below w.heap.size w w') (fun n v w' => (([.val (.pointer (some ⟨q, 0, none⟩)), .val (.pointer (some ⟨q, 0, none⟩)), .val (.pointer (some ⟨q, 2, none⟩)), .val (.pointer pl), .val (.pointer (some ⟨q, 0, none⟩)), .val (.pointer (some ⟨q, 0, none⟩)), .val (.pointer (some ⟨q, 0, none⟩)), .val (.pointer (some ⟨q, 3, none⟩)), .val (.pointer pr), .val (.string k), .tree (dropL hi.list k), .tree (lo.list ++ (k', z') :: dropL hi.list k), .tree (lo.list ++ (k', z') :: dropL hi.list k)] : List FactN).getD n (.val undef) : FactN).holds v w') (by kernel_rfl) (by kernel_rfl) HB1.out.drew (fun w1 w2 h1 hb => h1.trans (hb.mono h1.size)) (fun n v w1 w2 h hb => FactN.kept _ v w1 w2 h hb) (fun n o ho a wz hI hag hdep => ?_) (fun a wz hI hag hf => ?_)
      · have t0 : a.eval (.tmp 0) = .pointer (some ⟨q, 0, none⟩) := hag.old 0 _ (by kernel_rfl) rfl
        have t1 : a.eval (.tmp 1) = .string k := hag.old 1 _ (by kernel_rfl) rfl
        have c_q_2 : wz.cell? ⟨q, 2, none⟩ = some (.pointer pl) := by rw [Lib.cell_of_heap ((hI.block q Lq.out).trans Hq.out)]; rfl
        have c_q_3 : wz.cell? ⟨q, 3, none⟩ = some (.pointer pr) := by rw [Lib.cell_of_heap ((hI.block q Lq.out).trans Hq.out)]; rfl
        match n, ho with
        | 0, ho =>
          obtain rfl := (Option.some.inj ho).symm
          exact ⟨rfl, QT.wp_value (BigFrame.run_move (.tmp 0) rfl wz) ⟨_, rfl, t0, Below.refl _ _⟩⟩
        | 1, ho =>
          obtain rfl := (Option.some.inj ho).symm
          have d34 : a.eval (.tmp 34) = .pointer (some ⟨q, 0, none⟩) := hdep _ (Array.mem_of_getElem? (i := 0) rfl) rfl _ _ rfl rfl
          exact ⟨rfl, QT.wp_value (v := .pointer (some ⟨q, 0, none⟩)) (by simp [go_sem, QT.nf d34]) ⟨_, rfl, rfl, Below.refl _ _⟩⟩
        | 2, ho =>
          obtain rfl := (Option.some.inj ho).symm
          have d35 : a.eval (.tmp 35) = .pointer (some ⟨q, 0, none⟩) := hdep _ (Array.mem_of_getElem? (i := 0) rfl) rfl _ _ rfl rfl
          exact ⟨rfl, QT.wp_value (v := .pointer (some ⟨q, 2, none⟩)) (by simp [go_sem, QT.nf d35]) ⟨_, rfl, rfl, Below.refl _ _⟩⟩
        | 3, ho =>
          obtain rfl := (Option.some.inj ho).symm
          have d36 : a.eval (.tmp 36) = .pointer (some ⟨q, 2, none⟩) := hdep _ (Array.mem_of_getElem? (i := 0) rfl) rfl _ _ rfl rfl
          exact ⟨rfl, QT.wp_value (v := .pointer pl) (by simp [go_sem, QT.nf d36, c_q_2]) ⟨_, rfl, rfl, Below.refl _ _⟩⟩
        | 4, ho =>
          obtain rfl := (Option.some.inj ho).symm
          exact ⟨rfl, QT.wp_value (BigFrame.run_move (.tmp 0) rfl wz) ⟨_, rfl, t0, Below.refl _ _⟩⟩
        | 5, ho =>
          obtain rfl := (Option.some.inj ho).symm
          exact ⟨rfl, QT.wp_value (BigFrame.run_move (.tmp 0) rfl wz) ⟨_, rfl, t0, Below.refl _ _⟩⟩
        | 6, ho =>
          obtain rfl := (Option.some.inj ho).symm
          have d39 : a.eval (.tmp 39) = .pointer (some ⟨q, 0, none⟩) := hdep _ (Array.mem_of_getElem? (i := 0) rfl) rfl _ _ rfl rfl
          exact ⟨rfl, QT.wp_value (v := .pointer (some ⟨q, 0, none⟩)) (by simp [go_sem, QT.nf d39]) ⟨_, rfl, rfl, Below.refl _ _⟩⟩
        | 7, ho =>
          obtain rfl := (Option.some.inj ho).symm
          have d40 : a.eval (.tmp 40) = .pointer (some ⟨q, 0, none⟩) := hdep _ (Array.mem_of_getElem? (i := 0) rfl) rfl _ _ rfl rfl
          exact ⟨rfl, QT.wp_value (v := .pointer (some ⟨q, 3, none⟩)) (by simp [go_sem, QT.nf d40]) ⟨_, rfl, rfl, Below.refl _ _⟩⟩
        | 8, ho =>
          obtain rfl := (Option.some.inj ho).symm
          have d41 : a.eval (.tmp 41) = .pointer (some ⟨q, 3, none⟩) := hdep _ (Array.mem_of_getElem? (i := 0) rfl) rfl _ _ rfl rfl
          exact ⟨rfl, QT.wp_value (v := .pointer pr) (by simp [go_sem, QT.nf d41, c_q_3]) ⟨_, rfl, rfl, Below.refl _ _⟩⟩
        | 9, ho =>
          obtain rfl := (Option.some.inj ho).symm
          exact ⟨rfl, QT.wp_value (BigFrame.run_move (.tmp 1) rfl wz) ⟨_, rfl, t1, Below.refl _ _⟩⟩
        | 10, ho =>
          obtain rfl := (Option.some.inj ho).symm
          have d42 : a.eval (.tmp 42) = .pointer pr := hdep _ (Array.mem_of_getElem? (i := 0) rfl) rfl _ _ rfl rfl
          have d43 : a.eval (.tmp 43) = .string k := hdep _ (Array.mem_of_getElem? (i := 1) rfl) rfl _ _ rfl rfl
          exact ⟨rfl, wp_to (f := 24) (args := #[.pointer pr, .string k]) (by simp [go_sem, QT.nf d42, QT.nf d43]) (HPR.out wz hI) fun v w' h => ⟨v, rfl, h.1, h.2⟩⟩
        | 11, ho =>
          obtain rfl := (Option.some.inj ho).symm
          have d37 : a.eval (.tmp 37) = .pointer pl := hdep _ (Array.mem_of_getElem? (i := 0) rfl) rfl _ _ rfl rfl
          have d38 : a.eval (.tmp 38) = .pointer (some ⟨q, 0, none⟩) := hdep _ (Array.mem_of_getElem? (i := 1) rfl) rfl _ _ rfl rfl
          have d44 : ((.tree (dropL hi.list k)) : FactN).holds (a.eval (.tmp 44)) wz := hdep _ (Array.mem_of_getElem? (i := 2) rfl) rfl _ _ rfl rfl
          obtain ⟨p44, e44, z44⟩ := d44
          exact ⟨rfl, wp_to (f := 30) (args := #[.pointer pl, .pointer (some ⟨q, 0, none⟩), .pointer p44]) (by simp [go_sem, QT.nf d37, QT.nf d38, QT.nf e44]) (HBL.out wz hI p44 z44) fun v w' h => ⟨v, rfl, h.1, h.2⟩⟩
        | 12, ho =>
          obtain rfl := (Option.some.inj ho).symm
          have d45 : ((.tree (lo.list ++ (k', z') :: dropL hi.list k)) : FactN).holds (a.eval (.tmp 45)) wz := hdep _ (Array.mem_of_getElem? (i := 0) rfl) rfl _ _ rfl rfl
          exact ⟨rfl, QT.wp_value (BigFrame.run_assign (.tmp 45) rfl wz) ⟨_, rfl, d45, Below.refl _ _⟩⟩
        | n + 13, ho => simp at ho
      · have f0 : a.eval (.tmp 34) = .pointer (some ⟨q, 0, none⟩) := hf 0 _ _ rfl rfl
        have f1 : a.eval (.tmp 35) = .pointer (some ⟨q, 0, none⟩) := hf 1 _ _ rfl rfl
        have f2 : a.eval (.tmp 36) = .pointer (some ⟨q, 2, none⟩) := hf 2 _ _ rfl rfl
        have f3 : a.eval (.tmp 37) = .pointer pl := hf 3 _ _ rfl rfl
        have f4 : a.eval (.tmp 38) = .pointer (some ⟨q, 0, none⟩) := hf 4 _ _ rfl rfl
        have f5 : a.eval (.tmp 39) = .pointer (some ⟨q, 0, none⟩) := hf 5 _ _ rfl rfl
        have f6 : a.eval (.tmp 40) = .pointer (some ⟨q, 0, none⟩) := hf 6 _ _ rfl rfl
        have f7 : a.eval (.tmp 41) = .pointer (some ⟨q, 3, none⟩) := hf 7 _ _ rfl rfl
        have f8 : a.eval (.tmp 42) = .pointer pr := hf 8 _ _ rfl rfl
        have f9 : a.eval (.tmp 43) = .string k := hf 9 _ _ rfl rfl
        obtain ⟨u10, f10, y10⟩ := hf 10 _ _ rfl rfl
        obtain ⟨u11, f11, y11⟩ := hf 11 _ _ rfl rfl
        obtain ⟨u12, f12, y12⟩ := hf 12 _ _ rfl rfl
        have ha := hag.puts [(34, .pointer (some ⟨q, 0, none⟩)), (35, .pointer (some ⟨q, 0, none⟩)), (36, .pointer (some ⟨q, 2, none⟩)), (37, .pointer pl), (38, .pointer (some ⟨q, 0, none⟩)), (39, .pointer (some ⟨q, 0, none⟩)), (40, .pointer (some ⟨q, 0, none⟩)), (41, .pointer (some ⟨q, 3, none⟩)), (42, .pointer pr), (43, .string k), (44, .pointer u10), (45, .pointer u11), (4, .pointer u12)] rfl (by simp) (by simp only [List.forall_mem_cons, List.not_mem_nil, false_implies, implies_true, and_true]; exact ⟨f0, f1, f2, f3, f4, f5, f6, f7, f8, f9, f10, f11, f12⟩)
        subst ha
        clear hag hf f0 f1 f2 f3 f4 f5 f6 f7 f8 f9 f10 f11 f12
        simp only [List.foldl_cons, List.foldl_nil, Act.put, List.setIfInBounds_toArray, List.set_cons_succ, List.set_cons_zero]
        rename World => w2
        go_wp2_with fail
        go_ret
        exact ⟨_, rfl, ⟨_, rfl, y12⟩, hI⟩
    · rw [drop_mid (x := (k, z')) hs3]
      rw [cmpK_self] at HCM
      cases hi with
      | leaf =>
        obtain rfl : pr = none := hhi
        have HLO2 := Lib.hid (fun (wz : World) (hI : Below w.heap.size w wz) => HLO.out wz hI)
        rw [show lo.list ++ Tr.leaf.list = lo.list from List.append_nil _]
        clear hs1 hs2 hs3 hn hlo ihl ihr hs hn2 HHI HPR HPL
        go_enter Try.func24, Try.ntmps24
        go_wp2_with fail
        refine HCM.out.mono ?_
        rintro e w1 ⟨rfl, hb1⟩
        have HB1 := Lib.hid hb1
        clear hb1 c0
        have c2 : w1.cell? ⟨q, 2, none⟩ = some (.pointer pl) := by rw [Lib.cell_of_heap ((HB1.out.block q Lq.out).trans Hq.out)]; rfl
        have c3 : w1.cell? ⟨q, 3, none⟩ = some (.pointer none) := by rw [Lib.cell_of_heap ((HB1.out.block q Lq.out).trans Hq.out)]; rfl
        go_wp2_with fail
        go_ret
        exact ⟨_, rfl, ⟨_, rfl, HLO.out w1 HB1.out⟩, HB1.out⟩
      | node k2 z2 l2 r2 =>
        obtain ⟨k3, z3, rest3, h3⟩ : ∃ k3 z3 rest3, (Tr.node k2 z2 l2 r2).list = (k3, z3) :: rest3 := by
          cases h : (Tr.node k2 z2 l2 r2).list with
          | nil => simp [Tr.list] at h
          | cons a b => exact ⟨a.1, a.2, b, rfl⟩
        have hn4 : (Tr.node k2 z2 l2 r2).many ≤ 10000000000 := by omega
        have HC := Lib.hid (fun (wz : World) (hI : Below w.heap.size w wz) => code_cut _ pr k3 z3 rest3 wz (hhi.below hI hI.size) h3 hn4)
        obtain ⟨j, _, _, rfl, _⟩ := hhi
        have hn3 : lo.list.length + rest3.length ≤ 10000000000 := by rw [h3] at hn2; simp only [List.length_cons] at hn2; omega
        have HBL := Lib.hid (fun (wz : World) (hI : Below w.heap.size w wz) gg a b c a2 (hg : NodeAt wz gg k3 z3 a b c) ha => code_balanced pl a2 lo.list rest3 gg k3 z3 a b c wz (HLO.out wz hI) ha hg (by omega))
        rw [h3]
        clear hs1 hs2 hs3 hn hlo ihl ihr hs hn2 h3 hn4 hn3 HHI HPR HPL
        go_enter Try.func24, Try.ntmps24
        go_wp2_with fail
        refine HCM.out.mono ?_
        rintro e w1 ⟨rfl, hb1⟩
        have HB1 := Lib.hid hb1
        clear hb1 c0
        have c3 : w1.cell? ⟨q, 3, none⟩ = some (.pointer (some ⟨j, 0, none⟩)) := by rw [Lib.cell_of_heap ((HB1.out.block q Lq.out).trans Hq.out)]; rfl
        go_wp2_with fail
        refine (HC.out w1 HB1.out).mono ?_
        rintro e w2 ⟨g, x, y, u, q1, rfl, hg, hq1, hb2⟩
        have HB2 := Lib.hid (HB1.out.trans (hb2.mono HB1.out.size))
        have HG := Lib.hid hg
        have HQ1 := Lib.hid hq1
        have c2 : w2.cell? ⟨q, 2, none⟩ = some (.pointer pl) := by rw [Lib.cell_of_heap ((HB2.out.block q Lq.out).trans Hq.out)]; rfl
        clear hg hq1 hb2 c3
        go_wp2_with fail
        refine (HBL.out w2 HB2.out g x y u q1 HG.out HQ1.out).mono ?_
        rintro e w3 ⟨v, rfl, hv, hb3⟩
        have HV := Lib.hid hv
        have HB3 := Lib.hid hb3
        clear hv hb3 c2
        go_wp2_with fail
        go_ret
        exact ⟨_, rfl, HV.out, HB2.out.trans (HB3.out.mono HB2.out.size)⟩

end Go.Proofs.Ytpepijoppgbbfaa.Shf
