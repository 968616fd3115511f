/- shelf: put. -/
import Derived.Test.YtpepijoppgbbfaaSfDd
namespace Go.Proofs.Ytpepijoppgbbfaa.Shf
open Go.RowKit Go.Proofs.Ytpepijoppgbbfaa.Gr

theorem put_len_le (l : List Th) (k : ByteArray) (z : Nat) : (putL l k z).length ≤ l.length + 1 := by
  rw [put_len]
  split <;> omega
theorem drop_len_le (l : List Th) (k : ByteArray) : (dropL l k).length ≤ l.length := by
  rw [drop_len]
  split <;> omega
theorem sorted_parts {lo hi : List Th} {x : Th} (h : SortedL (lo ++ x :: hi)) : SortedL lo ∧ SortedL hi ∧ ∀ y ∈ lo, ltK y.1 x.1 = true := by
  obtain ⟨h1, h2, h3⟩ := List.pairwise_append.1 h
  exact ⟨h1, (List.pairwise_cons.1 h2).2, fun y hy => h3 y hy x (List.mem_cons_self ..)⟩

set_option maxRecDepth 100000 in
set_option maxHeartbeats 6400000 in
attribute [local irreducible] Go.wpQuiet in
theorem code_put (g : Nat) (k : ByteArray) (z : Nat) (x y u : Value) : ∀ (T : Tr) (p : Option Addr) (w : World), IsTr w.heap.size w p T → SortedL T.list → T.many ≤ 10000000000 → TreeOf w (some ⟨g, 0, none⟩) [(k, z)] → NodeAt w g k z x y u →
    Calls Try.prog 22 #[.pointer p, .pointer (some ⟨g, 0, none⟩)] w fun e w' => ∃ v, e = .returned v ∧ (FactN.tree (putL T.list k z)).holds v w' ∧ Below w.heap.size w w' := by
  intro T
  induction T with
  | leaf =>
    intro p w hp _ _ ht hg
    obtain rfl : p = none := hp
    have HT := Lib.hid ht
    clear ht hg
    go_enter Try.func22, Try.ntmps22
    go_wp2_with fail
    go_ret
    exact ⟨_, rfl, ⟨_, rfl, HT.out⟩, Below.refl _ _⟩
  | node k' z' lo hi ihl ihr =>
    intro p w hp hs hn ht hg
    obtain ⟨q, pl, pr, rfl, _, hc, hlo, hhi⟩ := hp
    obtain ⟨hs1, hs2, hs3⟩ := sorted_parts hs
    rw [many_node] at hn
    have HQ := Lib.hid (show NodeAt w q k' z' _ _ _ from ⟨hc⟩)
    have Hq := Lib.hid hc
    have Lq := Lib.hid HQ.out.lt
    have Hg := Lib.hid hg.cells
    have Lg := Lib.hid hg.lt
    have HCM := Lib.hid (fun (wz : World) (_ : Below w.heap.size w wz) => code_compare k k' wz)
    have HPL := Lib.hid (fun (wz : World) (hI : Below w.heap.size w wz) => ihl pl wz (hlo.below hI hI.size) hs1 (by omega) (ht.go hI) (hg.go hI))
    have HPR := Lib.hid (fun (wz : World) (hI : Below w.heap.size w wz) => ihr pr wz (hhi.below hI hI.size) hs2 (by omega) (ht.go hI) (hg.go hI))
    have HLO := Lib.hid (fun (wz : World) (hI : Below w.heap.size w wz) => show TreeOf wz pl lo.list from ⟨lo, hlo.below hI hI.size, rfl⟩)
    have HHI := Lib.hid (fun (wz : World) (hI : Below w.heap.size w wz) => show TreeOf wz pr hi.list from ⟨hi, hhi.below hI hI.size, rfl⟩)
    have HG := Lib.hid hg
    have HN := Lib.hid hn
    rw [show (Tr.node k' z' lo hi).list = lo.list ++ (k', z') :: hi.list from rfl]
    clear hc hlo hhi ihl ihr hs ht hg
    rcases key_cases k k' with hk | hk | rfl
    · rw [put_left (x := (k', z')) hk]
      rw [cmpK_less hk] at HCM
      have HBL := Lib.hid (fun (wz : World) (hI : Below w.heap.size w wz) a ha => code_balanced a pr (putL lo.list k z) hi.list q k' z' _ _ _ wz ha (HHI.out wz hI) (HQ.out.go hI) (by have := HN.out; have := put_len_le lo.list k z; simp only [Tr.many] at *; omega))
      clear hk hs1 hs2 hs3 hn
      go_enter Try.func22, Try.ntmps22
      go_upto_region 3 with (fail)
      refine QT.wp_region_facts (by kernel_rfl) (fun w' => Below w.heap.size w w') (fun n v w' => (([.val (.pointer (some ⟨g, 0, none⟩)), .val (.pointer (some ⟨g, 0, none⟩)), .val (.pointer (some ⟨g, 0, none⟩)), .val (.string k), .val (.pointer (some ⟨q, 0, none⟩)), .val (.pointer (some ⟨q, 0, none⟩)), .val (.pointer (some ⟨q, 0, none⟩)), .val (.string k'), .val (.int .i64 (-1)), .val (.int .i64 (-1))] : List FactN).getD n (.val undef) : FactN).holds v w') (by kernel_rfl) (by kernel_rfl) (Below.refl _ _).drew (fun w1 w2 h1 hb => h1.trans (hb.mono h1.size)) (fun n v w1 w2 h hb => FactN.kept _ v w1 w2 h hb) (fun n o ho a wz hI hag hdep => ?_) (fun a wz hI hag hf => ?_)
      · have t0 : a.eval (.tmp 0) = .pointer (some ⟨q, 0, none⟩) := hag.old 0 _ (by kernel_rfl) rfl
        have t1 : a.eval (.tmp 1) = .pointer (some ⟨g, 0, none⟩) := hag.old 1 _ (by kernel_rfl) rfl
        have c_g_0 : wz.cell? ⟨g, 0, none⟩ = some (.string k) := by rw [Lib.cell_of_heap ((hI.block g Lg.out).trans Hg.out)]; rfl
        have c_q_0 : wz.cell? ⟨q, 0, none⟩ = some (.string k') := by rw [Lib.cell_of_heap ((hI.block q Lq.out).trans Hq.out)]; rfl
        match n, ho with
        | 0, ho =>
          obtain rfl := (Option.some.inj ho).symm
          exact ⟨rfl, QT.wp_value (BigFrame.run_move (.tmp 1) rfl wz) ⟨_, rfl, t1, Below.refl _ _⟩⟩
        | 1, ho =>
          obtain rfl := (Option.some.inj ho).symm
          have d9 : a.eval (.tmp 9) = .pointer (some ⟨g, 0, none⟩) := hdep _ (Array.mem_of_getElem? (i := 0) rfl) rfl _ _ rfl rfl
          exact ⟨rfl, QT.wp_value (v := .pointer (some ⟨g, 0, none⟩)) (by simp [go_sem, QT.nf d9]) ⟨_, rfl, rfl, Below.refl _ _⟩⟩
        | 2, ho =>
          obtain rfl := (Option.some.inj ho).symm
          have d10 : a.eval (.tmp 10) = .pointer (some ⟨g, 0, none⟩) := hdep _ (Array.mem_of_getElem? (i := 0) rfl) rfl _ _ rfl rfl
          exact ⟨rfl, QT.wp_value (v := .pointer (some ⟨g, 0, none⟩)) (by simp [go_sem, QT.nf d10]) ⟨_, rfl, rfl, Below.refl _ _⟩⟩
        | 3, ho =>
          obtain rfl := (Option.some.inj ho).symm
          have d11 : a.eval (.tmp 11) = .pointer (some ⟨g, 0, none⟩) := hdep _ (Array.mem_of_getElem? (i := 0) rfl) rfl _ _ rfl rfl
          exact ⟨rfl, QT.wp_value (v := .string k) (by simp [go_sem, QT.nf d11, c_g_0]) ⟨_, rfl, rfl, Below.refl _ _⟩⟩
        | 4, ho =>
          obtain rfl := (Option.some.inj ho).symm
          exact ⟨rfl, QT.wp_value (BigFrame.run_move (.tmp 0) rfl wz) ⟨_, rfl, t0, Below.refl _ _⟩⟩
        | 5, ho =>
          obtain rfl := (Option.some.inj ho).symm
          have d13 : a.eval (.tmp 13) = .pointer (some ⟨q, 0, none⟩) := hdep _ (Array.mem_of_getElem? (i := 0) rfl) rfl _ _ rfl rfl
          exact ⟨rfl, QT.wp_value (v := .pointer (some ⟨q, 0, none⟩)) (by simp [go_sem, QT.nf d13]) ⟨_, rfl, rfl, Below.refl _ _⟩⟩
        | 6, ho =>
          obtain rfl := (Option.some.inj ho).symm
          have d14 : a.eval (.tmp 14) = .pointer (some ⟨q, 0, none⟩) := hdep _ (Array.mem_of_getElem? (i := 0) rfl) rfl _ _ rfl rfl
          exact ⟨rfl, QT.wp_value (v := .pointer (some ⟨q, 0, none⟩)) (by simp [go_sem, QT.nf d14]) ⟨_, rfl, rfl, Below.refl _ _⟩⟩
        | 7, ho =>
          obtain rfl := (Option.some.inj ho).symm
          have d15 : a.eval (.tmp 15) = .pointer (some ⟨q, 0, none⟩) := hdep _ (Array.mem_of_getElem? (i := 0) rfl) rfl _ _ rfl rfl
          exact ⟨rfl, QT.wp_value (v := .string k') (by simp [go_sem, QT.nf d15, c_q_0]) ⟨_, rfl, rfl, Below.refl _ _⟩⟩
        | 8, ho =>
          obtain rfl := (Option.some.inj ho).symm
          have d12 : a.eval (.tmp 12) = .string k := hdep _ (Array.mem_of_getElem? (i := 0) rfl) rfl _ _ rfl rfl
          have d16 : a.eval (.tmp 16) = .string k' := hdep _ (Array.mem_of_getElem? (i := 1) rfl) rfl _ _ rfl rfl
          exact ⟨rfl, QT.wp_enter (f := 29) (args := #[.string k, .string k']) (by simp [go_sem, QT.nf d12, QT.nf d16]) (HCM.out wz hI) fun w' hb => ⟨_, rfl, rfl, hb⟩⟩
        | 9, ho =>
          obtain rfl := (Option.some.inj ho).symm
          have d17 : a.eval (.tmp 17) = .int .i64 (-1) := hdep _ (Array.mem_of_getElem? (i := 0) rfl) rfl _ _ rfl rfl
          exact ⟨rfl, QT.wp_value (BigFrame.run_assign (.tmp 17) rfl wz) ⟨_, rfl, d17, Below.refl _ _⟩⟩
        | n + 10, ho => simp at ho
      · have f0 : a.eval (.tmp 9) = .pointer (some ⟨g, 0, none⟩) := hf 0 _ _ rfl rfl
        have f1 : a.eval (.tmp 10) = .pointer (some ⟨g, 0, none⟩) := hf 1 _ _ rfl rfl
        have f2 : a.eval (.tmp 11) = .pointer (some ⟨g, 0, none⟩) := hf 2 _ _ rfl rfl
        have f3 : a.eval (.tmp 12) = .string k := hf 3 _ _ rfl rfl
        have f4 : a.eval (.tmp 13) = .pointer (some ⟨q, 0, none⟩) := hf 4 _ _ rfl rfl
        have f5 : a.eval (.tmp 14) = .pointer (some ⟨q, 0, none⟩) := hf 5 _ _ rfl rfl
        have f6 : a.eval (.tmp 15) = .pointer (some ⟨q, 0, none⟩) := hf 6 _ _ rfl rfl
        have f7 : a.eval (.tmp 16) = .string k' := hf 7 _ _ rfl rfl
        have f8 : a.eval (.tmp 17) = .int .i64 (-1) := hf 8 _ _ rfl rfl
        have f9 : a.eval (.tmp 5) = .int .i64 (-1) := hf 9 _ _ rfl rfl
        have ha := hag.puts [(9, .pointer (some ⟨g, 0, none⟩)), (10, .pointer (some ⟨g, 0, none⟩)), (11, .pointer (some ⟨g, 0, none⟩)), (12, .string k), (13, .pointer (some ⟨q, 0, none⟩)), (14, .pointer (some ⟨q, 0, none⟩)), (15, .pointer (some ⟨q, 0, none⟩)), (16, .string k'), (17, .int .i64 (-1)), (5, .int .i64 (-1))] rfl (by simp) (by simp only [List.forall_mem_cons, List.not_mem_nil, false_implies, implies_true, and_true]; exact ⟨f0, f1, f2, f3, f4, f5, f6, f7, f8, f9⟩)
        subst ha
        clear hag hf f0 f1 f2 f3 f4 f5 f6 f7 f8 f9
        simp only [List.foldl_cons, List.foldl_nil, Act.put, List.setIfInBounds_toArray, List.set_cons_succ, List.set_cons_zero]
        rename World => w1
        have HB1 := Lib.hid hI
        clear hI
        go_upto_region 5 with (fail)
        refine QT.wp_region_facts (by kernel_rfl) (fun w' => Below w.heap.size w w') (fun n v w' => (([.val (.pointer (some ⟨q, 0, none⟩)), .val (.pointer (some ⟨q, 0, none⟩)), .val (.pointer (some ⟨q, 2, none⟩)), .val (.pointer pl), .val (.pointer (some ⟨g, 0, none⟩)), .tree (putL lo.list k z), .val (.pointer (some ⟨q, 0, none⟩)), .val (.pointer (some ⟨q, 0, none⟩)), .val (.pointer (some ⟨q, 0, none⟩)), .val (.pointer (some ⟨q, 3, none⟩)), .val (.pointer pr), .tree (putL lo.list k z ++ (k', z') :: hi.list), .tree (putL lo.list k z ++ (k', z') :: hi.list)] : List FactN).getD n (.val undef) : FactN).holds v w') (by kernel_rfl) (by kernel_rfl) HB1.out.drew (fun w1 w2 h1 hb => h1.trans (hb.mono h1.size)) (fun n v w1 w2 h hb => FactN.kept _ v w1 w2 h hb) (fun n o ho a wz hI hag hdep => ?_) (fun a wz hI hag hf => ?_)
        · have t0 : a.eval (.tmp 0) = .pointer (some ⟨q, 0, none⟩) := hag.old 0 _ (by kernel_rfl) rfl
          have t1 : a.eval (.tmp 1) = .pointer (some ⟨g, 0, none⟩) := hag.old 1 _ (by kernel_rfl) rfl
          have c_q_2 : wz.cell? ⟨q, 2, none⟩ = some (.pointer pl) := by rw [Lib.cell_of_heap ((hI.block q Lq.out).trans Hq.out)]; rfl
          have c_q_3 : wz.cell? ⟨q, 3, none⟩ = some (.pointer pr) := by rw [Lib.cell_of_heap ((hI.block q Lq.out).trans Hq.out)]; rfl
          match n, ho with
          | 0, ho =>
            obtain rfl := (Option.some.inj ho).symm
            exact ⟨rfl, QT.wp_value (BigFrame.run_move (.tmp 0) rfl wz) ⟨_, rfl, t0, Below.refl _ _⟩⟩
          | 1, ho =>
            obtain rfl := (Option.some.inj ho).symm
            have d21 : a.eval (.tmp 21) = .pointer (some ⟨q, 0, none⟩) := hdep _ (Array.mem_of_getElem? (i := 0) rfl) rfl _ _ rfl rfl
            exact ⟨rfl, QT.wp_value (v := .pointer (some ⟨q, 0, none⟩)) (by simp [go_sem, QT.nf d21]) ⟨_, rfl, rfl, Below.refl _ _⟩⟩
          | 2, ho =>
            obtain rfl := (Option.some.inj ho).symm
            have d22 : a.eval (.tmp 22) = .pointer (some ⟨q, 0, none⟩) := hdep _ (Array.mem_of_getElem? (i := 0) rfl) rfl _ _ rfl rfl
            exact ⟨rfl, QT.wp_value (v := .pointer (some ⟨q, 2, none⟩)) (by simp [go_sem, QT.nf d22]) ⟨_, rfl, rfl, Below.refl _ _⟩⟩
          | 3, ho =>
            obtain rfl := (Option.some.inj ho).symm
            have d23 : a.eval (.tmp 23) = .pointer (some ⟨q, 2, none⟩) := hdep _ (Array.mem_of_getElem? (i := 0) rfl) rfl _ _ rfl rfl
            exact ⟨rfl, QT.wp_value (v := .pointer pl) (by simp [go_sem, QT.nf d23, c_q_2]) ⟨_, rfl, rfl, Below.refl _ _⟩⟩
          | 4, ho =>
            obtain rfl := (Option.some.inj ho).symm
            exact ⟨rfl, QT.wp_value (BigFrame.run_move (.tmp 1) rfl wz) ⟨_, rfl, t1, Below.refl _ _⟩⟩
          | 5, ho =>
            obtain rfl := (Option.some.inj ho).symm
            have d24 : a.eval (.tmp 24) = .pointer pl := hdep _ (Array.mem_of_getElem? (i := 0) rfl) rfl _ _ rfl rfl
            have d25 : a.eval (.tmp 25) = .pointer (some ⟨g, 0, none⟩) := hdep _ (Array.mem_of_getElem? (i := 1) rfl) rfl _ _ rfl rfl
            exact ⟨rfl, wp_to (f := 22) (args := #[.pointer pl, .pointer (some ⟨g, 0, none⟩)]) (by simp [go_sem, QT.nf d24, QT.nf d25]) (HPL.out wz hI) fun v w' h => ⟨v, rfl, h.1, h.2⟩⟩
          | 6, ho =>
            obtain rfl := (Option.some.inj ho).symm
            exact ⟨rfl, QT.wp_value (BigFrame.run_move (.tmp 0) rfl wz) ⟨_, rfl, t0, Below.refl _ _⟩⟩
          | 7, ho =>
            obtain rfl := (Option.some.inj ho).symm
            exact ⟨rfl, QT.wp_value (BigFrame.run_move (.tmp 0) rfl wz) ⟨_, rfl, t0, Below.refl _ _⟩⟩
          | 8, ho =>
            obtain rfl := (Option.some.inj ho).symm
            have d28 : a.eval (.tmp 28) = .pointer (some ⟨q, 0, none⟩) := hdep _ (Array.mem_of_getElem? (i := 0) rfl) rfl _ _ rfl rfl
            exact ⟨rfl, QT.wp_value (v := .pointer (some ⟨q, 0, none⟩)) (by simp [go_sem, QT.nf d28]) ⟨_, rfl, rfl, Below.refl _ _⟩⟩
          | 9, ho =>
            obtain rfl := (Option.some.inj ho).symm
            have d29 : a.eval (.tmp 29) = .pointer (some ⟨q, 0, none⟩) := hdep _ (Array.mem_of_getElem? (i := 0) rfl) rfl _ _ rfl rfl
            exact ⟨rfl, QT.wp_value (v := .pointer (some ⟨q, 3, none⟩)) (by simp [go_sem, QT.nf d29]) ⟨_, rfl, rfl, Below.refl _ _⟩⟩
          | 10, ho =>
            obtain rfl := (Option.some.inj ho).symm
            have d30 : a.eval (.tmp 30) = .pointer (some ⟨q, 3, none⟩) := hdep _ (Array.mem_of_getElem? (i := 0) rfl) rfl _ _ rfl rfl
            exact ⟨rfl, QT.wp_value (v := .pointer pr) (by simp [go_sem, QT.nf d30, c_q_3]) ⟨_, rfl, rfl, Below.refl _ _⟩⟩
          | 11, ho =>
            obtain rfl := (Option.some.inj ho).symm
            have d26 : ((.tree (putL lo.list k z)) : FactN).holds (a.eval (.tmp 26)) wz := hdep _ (Array.mem_of_getElem? (i := 0) rfl) rfl _ _ rfl rfl
            have d27 : a.eval (.tmp 27) = .pointer (some ⟨q, 0, none⟩) := hdep _ (Array.mem_of_getElem? (i := 1) rfl) rfl _ _ rfl rfl
            have d31 : a.eval (.tmp 31) = .pointer pr := hdep _ (Array.mem_of_getElem? (i := 2) rfl) rfl _ _ rfl rfl
            obtain ⟨p26, e26, z26⟩ := d26
            exact ⟨rfl, wp_to (f := 30) (args := #[.pointer p26, .pointer (some ⟨q, 0, none⟩), .pointer pr]) (by simp [go_sem, QT.nf e26, QT.nf d27, QT.nf d31]) (HBL.out wz hI p26 z26) fun v w' h => ⟨v, rfl, h.1, h.2⟩⟩
          | 12, ho =>
            obtain rfl := (Option.some.inj ho).symm
            have d32 : ((.tree (putL lo.list k z ++ (k', z') :: hi.list)) : FactN).holds (a.eval (.tmp 32)) wz := hdep _ (Array.mem_of_getElem? (i := 0) rfl) rfl _ _ rfl rfl
            exact ⟨rfl, QT.wp_value (BigFrame.run_assign (.tmp 32) rfl wz) ⟨_, rfl, d32, Below.refl _ _⟩⟩
          | n + 13, ho => simp at ho
        · have f0 : a.eval (.tmp 21) = .pointer (some ⟨q, 0, none⟩) := hf 0 _ _ rfl rfl
          have f1 : a.eval (.tmp 22) = .pointer (some ⟨q, 0, none⟩) := hf 1 _ _ rfl rfl
          have f2 : a.eval (.tmp 23) = .pointer (some ⟨q, 2, none⟩) := hf 2 _ _ rfl rfl
          have f3 : a.eval (.tmp 24) = .pointer pl := hf 3 _ _ rfl rfl
          have f4 : a.eval (.tmp 25) = .pointer (some ⟨g, 0, none⟩) := hf 4 _ _ rfl rfl
          obtain ⟨u5, f5, y5⟩ := hf 5 _ _ rfl rfl
          have f6 : a.eval (.tmp 27) = .pointer (some ⟨q, 0, none⟩) := hf 6 _ _ rfl rfl
          have f7 : a.eval (.tmp 28) = .pointer (some ⟨q, 0, none⟩) := hf 7 _ _ rfl rfl
          have f8 : a.eval (.tmp 29) = .pointer (some ⟨q, 0, none⟩) := hf 8 _ _ rfl rfl
          have f9 : a.eval (.tmp 30) = .pointer (some ⟨q, 3, none⟩) := hf 9 _ _ rfl rfl
          have f10 : a.eval (.tmp 31) = .pointer pr := hf 10 _ _ rfl rfl
          obtain ⟨u11, f11, y11⟩ := hf 11 _ _ rfl rfl
          obtain ⟨u12, f12, y12⟩ := hf 12 _ _ rfl rfl
          have ha := hag.puts [(21, .pointer (some ⟨q, 0, none⟩)), (22, .pointer (some ⟨q, 0, none⟩)), (23, .pointer (some ⟨q, 2, none⟩)), (24, .pointer pl), (25, .pointer (some ⟨g, 0, none⟩)), (26, .pointer u5), (27, .pointer (some ⟨q, 0, none⟩)), (28, .pointer (some ⟨q, 0, none⟩)), (29, .pointer (some ⟨q, 0, none⟩)), (30, .pointer (some ⟨q, 3, none⟩)), (31, .pointer pr), (32, .pointer u11), (4, .pointer u12)] rfl (by simp) (by simp only [List.forall_mem_cons, List.not_mem_nil, false_implies, implies_true, and_true]; exact ⟨f0, f1, f2, f3, f4, f5, f6, f7, f8, f9, f10, f11, f12⟩)
          subst ha
          clear hag hf f0 f1 f2 f3 f4 f5 f6 f7 f8 f9 f10 f11 f12
          simp only [List.foldl_cons, List.foldl_nil, Act.put, List.setIfInBounds_toArray, List.set_cons_succ, List.set_cons_zero]
          rename World => w2
          go_wp2_with fail
          go_ret
          exact ⟨_, rfl, ⟨_, rfl, y12⟩, hI⟩
    · rw [put_right (x := (k', z')) hs3 hk]
      rw [cmpK_more hk] at HCM
      have HBL := Lib.hid (fun (wz : World) (hI : Below w.heap.size w wz) a ha => code_balanced pl a lo.list (putL hi.list k z) q k' z' _ _ _ wz (HLO.out wz hI) ha (HQ.out.go hI) (by have := HN.out; have := put_len_le hi.list k z; simp only [Tr.many] at *; omega))
      clear hk hs1 hs2 hs3 hn
      go_enter Try.func22, Try.ntmps22
      go_upto_region 3 with (fail)
      refine QT.wp_region_facts (by kernel_rfl) (fun w' => Below w.heap.size w w') (fun n v w' => (([.val (.pointer (some ⟨g, 0, none⟩)), .val (.pointer (some ⟨g, 0, none⟩)), .val (.pointer (some ⟨g, 0, none⟩)), .val (.string k), .val (.pointer (some ⟨q, 0, none⟩)), .val (.pointer (some ⟨q, 0, none⟩)), .val (.pointer (some ⟨q, 0, none⟩)), .val (.string k'), .val (.int .i64 1), .val (.int .i64 1)] : List FactN).getD n (.val undef) : FactN).holds v w') (by kernel_rfl) (by kernel_rfl) (Below.refl _ _).drew (fun w1 w2 h1 hb => h1.trans (hb.mono h1.size)) (fun n v w1 w2 h hb => FactN.kept _ v w1 w2 h hb) (fun n o ho a wz hI hag hdep => ?_) (fun a wz hI hag hf => ?_)
      · have t0 : a.eval (.tmp 0) = .pointer (some ⟨q, 0, none⟩) := hag.old 0 _ (by kernel_rfl) rfl
        have t1 : a.eval (.tmp 1) = .pointer (some ⟨g, 0, none⟩) := hag.old 1 _ (by kernel_rfl) rfl
        have c_g_0 : wz.cell? ⟨g, 0, none⟩ = some (.string k) := by rw [Lib.cell_of_heap ((hI.block g Lg.out).trans Hg.out)]; rfl
        have c_q_0 : wz.cell? ⟨q, 0, none⟩ = some (.string k') := by rw [Lib.cell_of_heap ((hI.block q Lq.out).trans Hq.out)]; rfl
        match n, ho with
        | 0, ho =>
          obtain rfl := (Option.some.inj ho).symm
          exact ⟨rfl, QT.wp_value (BigFrame.run_move (.tmp 1) rfl wz) ⟨_, rfl, t1, Below.refl _ _⟩⟩
        | 1, ho =>
          obtain rfl := (Option.some.inj ho).symm
          have d9 : a.eval (.tmp 9) = .pointer (some ⟨g, 0, none⟩) := hdep _ (Array.mem_of_getElem? (i := 0) rfl) rfl _ _ rfl rfl
          exact ⟨rfl, QT.wp_value (v := .pointer (some ⟨g, 0, none⟩)) (by simp [go_sem, QT.nf d9]) ⟨_, rfl, rfl, Below.refl _ _⟩⟩
        | 2, ho =>
          obtain rfl := (Option.some.inj ho).symm
          have d10 : a.eval (.tmp 10) = .pointer (some ⟨g, 0, none⟩) := hdep _ (Array.mem_of_getElem? (i := 0) rfl) rfl _ _ rfl rfl
          exact ⟨rfl, QT.wp_value (v := .pointer (some ⟨g, 0, none⟩)) (by simp [go_sem, QT.nf d10]) ⟨_, rfl, rfl, Below.refl _ _⟩⟩
        | 3, ho =>
          obtain rfl := (Option.some.inj ho).symm
          have d11 : a.eval (.tmp 11) = .pointer (some ⟨g, 0, none⟩) := hdep _ (Array.mem_of_getElem? (i := 0) rfl) rfl _ _ rfl rfl
          exact ⟨rfl, QT.wp_value (v := .string k) (by simp [go_sem, QT.nf d11, c_g_0]) ⟨_, rfl, rfl, Below.refl _ _⟩⟩
        | 4, ho =>
          obtain rfl := (Option.some.inj ho).symm
          exact ⟨rfl, QT.wp_value (BigFrame.run_move (.tmp 0) rfl wz) ⟨_, rfl, t0, Below.refl _ _⟩⟩
        | 5, ho =>
          obtain rfl := (Option.some.inj ho).symm
          have d13 : a.eval (.tmp 13) = .pointer (some ⟨q, 0, none⟩) := hdep _ (Array.mem_of_getElem? (i := 0) rfl) rfl _ _ rfl rfl
          exact ⟨rfl, QT.wp_value (v := .pointer (some ⟨q, 0, none⟩)) (by simp [go_sem, QT.nf d13]) ⟨_, rfl, rfl, Below.refl _ _⟩⟩
        | 6, ho =>
          obtain rfl := (Option.some.inj ho).symm
          have d14 : a.eval (.tmp 14) = .pointer (some ⟨q, 0, none⟩) := hdep _ (Array.mem_of_getElem? (i := 0) rfl) rfl _ _ rfl rfl
          exact ⟨rfl, QT.wp_value (v := .pointer (some ⟨q, 0, none⟩)) (by simp [go_sem, QT.nf d14]) ⟨_, rfl, rfl, Below.refl _ _⟩⟩
        | 7, ho =>
          obtain rfl := (Option.some.inj ho).symm
          have d15 : a.eval (.tmp 15) = .pointer (some ⟨q, 0, none⟩) := hdep _ (Array.mem_of_getElem? (i := 0) rfl) rfl _ _ rfl rfl
          exact ⟨rfl, QT.wp_value (v := .string k') (by simp [go_sem, QT.nf d15, c_q_0]) ⟨_, rfl, rfl, Below.refl _ _⟩⟩
        | 8, ho =>
          obtain rfl := (Option.some.inj ho).symm
          have d12 : a.eval (.tmp 12) = .string k := hdep _ (Array.mem_of_getElem? (i := 0) rfl) rfl _ _ rfl rfl
          have d16 : a.eval (.tmp 16) = .string k' := hdep _ (Array.mem_of_getElem? (i := 1) rfl) rfl _ _ rfl rfl
          exact ⟨rfl, QT.wp_enter (f := 29) (args := #[.string k, .string k']) (by simp [go_sem, QT.nf d12, QT.nf d16]) (HCM.out wz hI) fun w' hb => ⟨_, rfl, rfl, hb⟩⟩
        | 9, ho =>
          obtain rfl := (Option.some.inj ho).symm
          have d17 : a.eval (.tmp 17) = .int .i64 1 := hdep _ (Array.mem_of_getElem? (i := 0) rfl) rfl _ _ rfl rfl
          exact ⟨rfl, QT.wp_value (BigFrame.run_assign (.tmp 17) rfl wz) ⟨_, rfl, d17, Below.refl _ _⟩⟩
        | n + 10, ho => simp at ho
      · have f0 : a.eval (.tmp 9) = .pointer (some ⟨g, 0, none⟩) := hf 0 _ _ rfl rfl
        have f1 : a.eval (.tmp 10) = .pointer (some ⟨g, 0, none⟩) := hf 1 _ _ rfl rfl
        have f2 : a.eval (.tmp 11) = .pointer (some ⟨g, 0, none⟩) := hf 2 _ _ rfl rfl
        have f3 : a.eval (.tmp 12) = .string k := hf 3 _ _ rfl rfl
        have f4 : a.eval (.tmp 13) = .pointer (some ⟨q, 0, none⟩) := hf 4 _ _ rfl rfl
        have f5 : a.eval (.tmp 14) = .pointer (some ⟨q, 0, none⟩) := hf 5 _ _ rfl rfl
        have f6 : a.eval (.tmp 15) = .pointer (some ⟨q, 0, none⟩) := hf 6 _ _ rfl rfl
        have f7 : a.eval (.tmp 16) = .string k' := hf 7 _ _ rfl rfl
        have f8 : a.eval (.tmp 17) = .int .i64 1 := hf 8 _ _ rfl rfl
        have f9 : a.eval (.tmp 5) = .int .i64 1 := hf 9 _ _ rfl rfl
        have ha := hag.puts [(9, .pointer (some ⟨g, 0, none⟩)), (10, .pointer (some ⟨g, 0, none⟩)), (11, .pointer (some ⟨g, 0, none⟩)), (12, .string k), (13, .pointer (some ⟨q, 0, none⟩)), (14, .pointer (some ⟨q, 0, none⟩)), (15, .pointer (some ⟨q, 0, none⟩)), (16, .string k'), (17, .int .i64 1), (5, .int .i64 1)] rfl (by simp) (by simp only [List.forall_mem_cons, List.not_mem_nil, false_implies, implies_true, and_true]; exact ⟨f0, f1, f2, f3, f4, f5, f6, f7, f8, f9⟩)
        subst ha
        clear hag hf f0 f1 f2 f3 f4 f5 f6 f7 f8 f9
        simp only [List.foldl_cons, List.foldl_nil, Act.put, List.setIfInBounds_toArray, List.set_cons_succ, List.set_cons_zero]
        rename World => w1
        have HB1 := Lib.hid hI
        clear hI
        go_upto_region 7 with (fail)
        refine QT.wp_region_facts (by kernel_rfl) (fun w' => Below w.heap.size w w') (fun n v w' => (([.val (.pointer (some ⟨q, 0, none⟩)), .val (.pointer (some ⟨q, 0, none⟩)), .val (.pointer (some ⟨q, 2, none⟩)), .val (.pointer pl), .val (.pointer (some ⟨q, 0, none⟩)), .val (.pointer (some ⟨q, 0, none⟩)), .val (.pointer (some ⟨q, 0, none⟩)), .val (.pointer (some ⟨q, 3, none⟩)), .val (.pointer pr), .val (.pointer (some ⟨g, 0, none⟩)), .tree (putL hi.list k z), .tree (lo.list ++ (k', z') :: putL hi.list k z), .tree (lo.list ++ (k', z') :: putL hi.list k z)] : List FactN).getD n (.val undef) : FactN).holds v w') (by kernel_rfl) (by kernel_rfl) HB1.out.drew (fun w1 w2 h1 hb => h1.trans (hb.mono h1.size)) (fun n v w1 w2 h hb => FactN.kept _ v w1 w2 h hb) (fun n o ho a wz hI hag hdep => ?_) (fun a wz hI hag hf => ?_)
        · have t0 : a.eval (.tmp 0) = .pointer (some ⟨q, 0, none⟩) := hag.old 0 _ (by kernel_rfl) rfl
          have t1 : a.eval (.tmp 1) = .pointer (some ⟨g, 0, none⟩) := hag.old 1 _ (by kernel_rfl) rfl
          have c_q_2 : wz.cell? ⟨q, 2, none⟩ = some (.pointer pl) := by rw [Lib.cell_of_heap ((hI.block q Lq.out).trans Hq.out)]; rfl
          have c_q_3 : wz.cell? ⟨q, 3, none⟩ = some (.pointer pr) := by rw [Lib.cell_of_heap ((hI.block q Lq.out).trans Hq.out)]; rfl
          match n, ho with
          | 0, ho =>
            obtain rfl := (Option.some.inj ho).symm
            exact ⟨rfl, QT.wp_value (BigFrame.run_move (.tmp 0) rfl wz) ⟨_, rfl, t0, Below.refl _ _⟩⟩
          | 1, ho =>
            obtain rfl := (Option.some.inj ho).symm
            have d36 : a.eval (.tmp 36) = .pointer (some ⟨q, 0, none⟩) := hdep _ (Array.mem_of_getElem? (i := 0) rfl) rfl _ _ rfl rfl
            exact ⟨rfl, QT.wp_value (v := .pointer (some ⟨q, 0, none⟩)) (by simp [go_sem, QT.nf d36]) ⟨_, rfl, rfl, Below.refl _ _⟩⟩
          | 2, ho =>
            obtain rfl := (Option.some.inj ho).symm
            have d37 : a.eval (.tmp 37) = .pointer (some ⟨q, 0, none⟩) := hdep _ (Array.mem_of_getElem? (i := 0) rfl) rfl _ _ rfl rfl
            exact ⟨rfl, QT.wp_value (v := .pointer (some ⟨q, 2, none⟩)) (by simp [go_sem, QT.nf d37]) ⟨_, rfl, rfl, Below.refl _ _⟩⟩
          | 3, ho =>
            obtain rfl := (Option.some.inj ho).symm
            have d38 : a.eval (.tmp 38) = .pointer (some ⟨q, 2, none⟩) := hdep _ (Array.mem_of_getElem? (i := 0) rfl) rfl _ _ rfl rfl
            exact ⟨rfl, QT.wp_value (v := .pointer pl) (by simp [go_sem, QT.nf d38, c_q_2]) ⟨_, rfl, rfl, Below.refl _ _⟩⟩
          | 4, ho =>
            obtain rfl := (Option.some.inj ho).symm
            exact ⟨rfl, QT.wp_value (BigFrame.run_move (.tmp 0) rfl wz) ⟨_, rfl, t0, Below.refl _ _⟩⟩
          | 5, ho =>
            obtain rfl := (Option.some.inj ho).symm
            exact ⟨rfl, QT.wp_value (BigFrame.run_move (.tmp 0) rfl wz) ⟨_, rfl, t0, Below.refl _ _⟩⟩
          | 6, ho =>
            obtain rfl := (Option.some.inj ho).symm
            have d41 : a.eval (.tmp 41) = .pointer (some ⟨q, 0, none⟩) := hdep _ (Array.mem_of_getElem? (i := 0) rfl) rfl _ _ rfl rfl
            exact ⟨rfl, QT.wp_value (v := .pointer (some ⟨q, 0, none⟩)) (by simp [go_sem, QT.nf d41]) ⟨_, rfl, rfl, Below.refl _ _⟩⟩
          | 7, ho =>
            obtain rfl := (Option.some.inj ho).symm
            have d42 : a.eval (.tmp 42) = .pointer (some ⟨q, 0, none⟩) := hdep _ (Array.mem_of_getElem? (i := 0) rfl) rfl _ _ rfl rfl
            exact ⟨rfl, QT.wp_value (v := .pointer (some ⟨q, 3, none⟩)) (by simp [go_sem, QT.nf d42]) ⟨_, rfl, rfl, Below.refl _ _⟩⟩
          | 8, ho =>
            obtain rfl := (Option.some.inj ho).symm
            have d43 : a.eval (.tmp 43) = .pointer (some ⟨q, 3, none⟩) := hdep _ (Array.mem_of_getElem? (i := 0) rfl) rfl _ _ rfl rfl
            exact ⟨rfl, QT.wp_value (v := .pointer pr) (by simp [go_sem, QT.nf d43, c_q_3]) ⟨_, rfl, rfl, Below.refl _ _⟩⟩
          | 9, ho =>
            obtain rfl := (Option.some.inj ho).symm
            exact ⟨rfl, QT.wp_value (BigFrame.run_move (.tmp 1) rfl wz) ⟨_, rfl, t1, Below.refl _ _⟩⟩
          | 10, ho =>
            obtain rfl := (Option.some.inj ho).symm
            have d44 : a.eval (.tmp 44) = .pointer pr := hdep _ (Array.mem_of_getElem? (i := 0) rfl) rfl _ _ rfl rfl
            have d45 : a.eval (.tmp 45) = .pointer (some ⟨g, 0, none⟩) := hdep _ (Array.mem_of_getElem? (i := 1) rfl) rfl _ _ rfl rfl
            exact ⟨rfl, wp_to (f := 22) (args := #[.pointer pr, .pointer (some ⟨g, 0, none⟩)]) (by simp [go_sem, QT.nf d44, QT.nf d45]) (HPR.out wz hI) fun v w' h => ⟨v, rfl, h.1, h.2⟩⟩
          | 11, ho =>
            obtain rfl := (Option.some.inj ho).symm
            have d39 : a.eval (.tmp 39) = .pointer pl := hdep _ (Array.mem_of_getElem? (i := 0) rfl) rfl _ _ rfl rfl
            have d40 : a.eval (.tmp 40) = .pointer (some ⟨q, 0, none⟩) := hdep _ (Array.mem_of_getElem? (i := 1) rfl) rfl _ _ rfl rfl
            have d46 : ((.tree (putL hi.list k z)) : FactN).holds (a.eval (.tmp 46)) wz := hdep _ (Array.mem_of_getElem? (i := 2) rfl) rfl _ _ rfl rfl
            obtain ⟨p46, e46, z46⟩ := d46
            exact ⟨rfl, wp_to (f := 30) (args := #[.pointer pl, .pointer (some ⟨q, 0, none⟩), .pointer p46]) (by simp [go_sem, QT.nf d39, QT.nf d40, QT.nf e46]) (HBL.out wz hI p46 z46) fun v w' h => ⟨v, rfl, h.1, h.2⟩⟩
          | 12, ho =>
            obtain rfl := (Option.some.inj ho).symm
            have d47 : ((.tree (lo.list ++ (k', z') :: putL hi.list k z)) : FactN).holds (a.eval (.tmp 47)) wz := hdep _ (Array.mem_of_getElem? (i := 0) rfl) rfl _ _ rfl rfl
            exact ⟨rfl, QT.wp_value (BigFrame.run_assign (.tmp 47) rfl wz) ⟨_, rfl, d47, Below.refl _ _⟩⟩
          | n + 13, ho => simp at ho
        · have f0 : a.eval (.tmp 36) = .pointer (some ⟨q, 0, none⟩) := hf 0 _ _ rfl rfl
          have f1 : a.eval (.tmp 37) = .pointer (some ⟨q, 0, none⟩) := hf 1 _ _ rfl rfl
          have f2 : a.eval (.tmp 38) = .pointer (some ⟨q, 2, none⟩) := hf 2 _ _ rfl rfl
          have f3 : a.eval (.tmp 39) = .pointer pl := hf 3 _ _ rfl rfl
          have f4 : a.eval (.tmp 40) = .pointer (some ⟨q, 0, none⟩) := hf 4 _ _ rfl rfl
          have f5 : a.eval (.tmp 41) = .pointer (some ⟨q, 0, none⟩) := hf 5 _ _ rfl rfl
          have f6 : a.eval (.tmp 42) = .pointer (some ⟨q, 0, none⟩) := hf 6 _ _ rfl rfl
          have f7 : a.eval (.tmp 43) = .pointer (some ⟨q, 3, none⟩) := hf 7 _ _ rfl rfl
          have f8 : a.eval (.tmp 44) = .pointer pr := hf 8 _ _ rfl rfl
          have f9 : a.eval (.tmp 45) = .pointer (some ⟨g, 0, none⟩) := hf 9 _ _ rfl rfl
          obtain ⟨u10, f10, y10⟩ := hf 10 _ _ rfl rfl
          obtain ⟨u11, f11, y11⟩ := hf 11 _ _ rfl rfl
          obtain ⟨u12, f12, y12⟩ := hf 12 _ _ rfl rfl
          have ha := hag.puts [(36, .pointer (some ⟨q, 0, none⟩)), (37, .pointer (some ⟨q, 0, none⟩)), (38, .pointer (some ⟨q, 2, none⟩)), (39, .pointer pl), (40, .pointer (some ⟨q, 0, none⟩)), (41, .pointer (some ⟨q, 0, none⟩)), (42, .pointer (some ⟨q, 0, none⟩)), (43, .pointer (some ⟨q, 3, none⟩)), (44, .pointer pr), (45, .pointer (some ⟨g, 0, none⟩)), (46, .pointer u10), (47, .pointer u11), (4, .pointer u12)] rfl (by simp) (by simp only [List.forall_mem_cons, List.not_mem_nil, false_implies, implies_true, and_true]; exact ⟨f0, f1, f2, f3, f4, f5, f6, f7, f8, f9, f10, f11, f12⟩)
          subst ha
          clear hag hf f0 f1 f2 f3 f4 f5 f6 f7 f8 f9 f10 f11 f12
          simp only [List.foldl_cons, List.foldl_nil, Act.put, List.setIfInBounds_toArray, List.set_cons_succ, List.set_cons_zero]
          rename World => w2
          go_wp2_with fail
          go_ret
          exact ⟨_, rfl, ⟨_, rfl, y12⟩, hI⟩
    · rw [put_mid (x := (k, z')) hs3]
      rw [cmpK_self] at HCM
      have HJ := Lib.hid (fun (wz : World) (hI : Below w.heap.size w wz) => code_joined pl pr lo.list hi.list g k z x y u wz (HLO.out wz hI) (HHI.out wz hI) (HG.out.go hI) (by have := HN.out; simp only [Tr.many] at *; omega))
      clear hs1 hs2 hs3 hn
      go_enter Try.func22, Try.ntmps22
      go_upto_region 3 with (fail)
      refine QT.wp_region_facts (by kernel_rfl) (fun w' => Below w.heap.size w w') (fun n v w' => (([.val (.pointer (some ⟨g, 0, none⟩)), .val (.pointer (some ⟨g, 0, none⟩)), .val (.pointer (some ⟨g, 0, none⟩)), .val (.string k), .val (.pointer (some ⟨q, 0, none⟩)), .val (.pointer (some ⟨q, 0, none⟩)), .val (.pointer (some ⟨q, 0, none⟩)), .val (.string k), .val (.int .i64 0), .val (.int .i64 0)] : List FactN).getD n (.val undef) : FactN).holds v w') (by kernel_rfl) (by kernel_rfl) (Below.refl _ _).drew (fun w1 w2 h1 hb => h1.trans (hb.mono h1.size)) (fun n v w1 w2 h hb => FactN.kept _ v w1 w2 h hb) (fun n o ho a wz hI hag hdep => ?_) (fun a wz hI hag hf => ?_)
      · have t0 : a.eval (.tmp 0) = .pointer (some ⟨q, 0, none⟩) := hag.old 0 _ (by kernel_rfl) rfl
        have t1 : a.eval (.tmp 1) = .pointer (some ⟨g, 0, none⟩) := hag.old 1 _ (by kernel_rfl) rfl
        have c_g_0 : wz.cell? ⟨g, 0, none⟩ = some (.string k) := by rw [Lib.cell_of_heap ((hI.block g Lg.out).trans Hg.out)]; rfl
        have c_q_0 : wz.cell? ⟨q, 0, none⟩ = some (.string k) := by rw [Lib.cell_of_heap ((hI.block q Lq.out).trans Hq.out)]; rfl
        match n, ho with
        | 0, ho =>
          obtain rfl := (Option.some.inj ho).symm
          exact ⟨rfl, QT.wp_value (BigFrame.run_move (.tmp 1) rfl wz) ⟨_, rfl, t1, Below.refl _ _⟩⟩
        | 1, ho =>
          obtain rfl := (Option.some.inj ho).symm
          have d9 : a.eval (.tmp 9) = .pointer (some ⟨g, 0, none⟩) := hdep _ (Array.mem_of_getElem? (i := 0) rfl) rfl _ _ rfl rfl
          exact ⟨rfl, QT.wp_value (v := .pointer (some ⟨g, 0, none⟩)) (by simp [go_sem, QT.nf d9]) ⟨_, rfl, rfl, Below.refl _ _⟩⟩
        | 2, ho =>
          obtain rfl := (Option.some.inj ho).symm
          have d10 : a.eval (.tmp 10) = .pointer (some ⟨g, 0, none⟩) := hdep _ (Array.mem_of_getElem? (i := 0) rfl) rfl _ _ rfl rfl
          exact ⟨rfl, QT.wp_value (v := .pointer (some ⟨g, 0, none⟩)) (by simp [go_sem, QT.nf d10]) ⟨_, rfl, rfl, Below.refl _ _⟩⟩
        | 3, ho =>
          obtain rfl := (Option.some.inj ho).symm
          have d11 : a.eval (.tmp 11) = .pointer (some ⟨g, 0, none⟩) := hdep _ (Array.mem_of_getElem? (i := 0) rfl) rfl _ _ rfl rfl
          exact ⟨rfl, QT.wp_value (v := .string k) (by simp [go_sem, QT.nf d11, c_g_0]) ⟨_, rfl, rfl, Below.refl _ _⟩⟩
        | 4, ho =>
          obtain rfl := (Option.some.inj ho).symm
          exact ⟨rfl, QT.wp_value (BigFrame.run_move (.tmp 0) rfl wz) ⟨_, rfl, t0, Below.refl _ _⟩⟩
        | 5, ho =>
          obtain rfl := (Option.some.inj ho).symm
          have d13 : a.eval (.tmp 13) = .pointer (some ⟨q, 0, none⟩) := hdep _ (Array.mem_of_getElem? (i := 0) rfl) rfl _ _ rfl rfl
          exact ⟨rfl, QT.wp_value (v := .pointer (some ⟨q, 0, none⟩)) (by simp [go_sem, QT.nf d13]) ⟨_, rfl, rfl, Below.refl _ _⟩⟩
        | 6, ho =>
          obtain rfl := (Option.some.inj ho).symm
          have d14 : a.eval (.tmp 14) = .pointer (some ⟨q, 0, none⟩) := hdep _ (Array.mem_of_getElem? (i := 0) rfl) rfl _ _ rfl rfl
          exact ⟨rfl, QT.wp_value (v := .pointer (some ⟨q, 0, none⟩)) (by simp [go_sem, QT.nf d14]) ⟨_, rfl, rfl, Below.refl _ _⟩⟩
        | 7, ho =>
          obtain rfl := (Option.some.inj ho).symm
          have d15 : a.eval (.tmp 15) = .pointer (some ⟨q, 0, none⟩) := hdep _ (Array.mem_of_getElem? (i := 0) rfl) rfl _ _ rfl rfl
          exact ⟨rfl, QT.wp_value (v := .string k) (by simp [go_sem, QT.nf d15, c_q_0]) ⟨_, rfl, rfl, Below.refl _ _⟩⟩
        | 8, ho =>
          obtain rfl := (Option.some.inj ho).symm
          have d12 : a.eval (.tmp 12) = .string k := hdep _ (Array.mem_of_getElem? (i := 0) rfl) rfl _ _ rfl rfl
          have d16 : a.eval (.tmp 16) = .string k := hdep _ (Array.mem_of_getElem? (i := 1) rfl) rfl _ _ rfl rfl
          exact ⟨rfl, QT.wp_enter (f := 29) (args := #[.string k, .string k]) (by simp [go_sem, QT.nf d12, QT.nf d16]) (HCM.out wz hI) fun w' hb => ⟨_, rfl, rfl, hb⟩⟩
        | 9, ho =>
          obtain rfl := (Option.some.inj ho).symm
          have d17 : a.eval (.tmp 17) = .int .i64 0 := hdep _ (Array.mem_of_getElem? (i := 0) rfl) rfl _ _ rfl rfl
          exact ⟨rfl, QT.wp_value (BigFrame.run_assign (.tmp 17) rfl wz) ⟨_, rfl, d17, Below.refl _ _⟩⟩
        | n + 10, ho => simp at ho
      · have f0 : a.eval (.tmp 9) = .pointer (some ⟨g, 0, none⟩) := hf 0 _ _ rfl rfl
        have f1 : a.eval (.tmp 10) = .pointer (some ⟨g, 0, none⟩) := hf 1 _ _ rfl rfl
        have f2 : a.eval (.tmp 11) = .pointer (some ⟨g, 0, none⟩) := hf 2 _ _ rfl rfl
        have f3 : a.eval (.tmp 12) = .string k := hf 3 _ _ rfl rfl
        have f4 : a.eval (.tmp 13) = .pointer (some ⟨q, 0, none⟩) := hf 4 _ _ rfl rfl
        have f5 : a.eval (.tmp 14) = .pointer (some ⟨q, 0, none⟩) := hf 5 _ _ rfl rfl
        have f6 : a.eval (.tmp 15) = .pointer (some ⟨q, 0, none⟩) := hf 6 _ _ rfl rfl
        have f7 : a.eval (.tmp 16) = .string k := hf 7 _ _ rfl rfl
        have f8 : a.eval (.tmp 17) = .int .i64 0 := hf 8 _ _ rfl rfl
        have f9 : a.eval (.tmp 5) = .int .i64 0 := hf 9 _ _ rfl rfl
        have ha := hag.puts [(9, .pointer (some ⟨g, 0, none⟩)), (10, .pointer (some ⟨g, 0, none⟩)), (11, .pointer (some ⟨g, 0, none⟩)), (12, .string k), (13, .pointer (some ⟨q, 0, none⟩)), (14, .pointer (some ⟨q, 0, none⟩)), (15, .pointer (some ⟨q, 0, none⟩)), (16, .string k), (17, .int .i64 0), (5, .int .i64 0)] rfl (by simp) (by simp only [List.forall_mem_cons, List.not_mem_nil, false_implies, implies_true, and_true]; exact ⟨f0, f1, f2, f3, f4, f5, f6, f7, f8, f9⟩)
        subst ha
        clear hag hf f0 f1 f2 f3 f4 f5 f6 f7 f8 f9
        simp only [List.foldl_cons, List.foldl_nil, Act.put, List.setIfInBounds_toArray, List.set_cons_succ, List.set_cons_zero]
        rename World => w1
        have HB1 := Lib.hid hI
        clear hI
        go_upto_region 8 with (fail)
        refine QT.wp_region_facts (by kernel_rfl) (fun w' => Below w.heap.size w w') (fun n v w' => (([.val (.pointer (some ⟨q, 0, none⟩)), .val (.pointer (some ⟨q, 0, none⟩)), .val (.pointer (some ⟨q, 2, none⟩)), .val (.pointer pl), .val (.pointer (some ⟨g, 0, none⟩)), .val (.pointer (some ⟨q, 0, none⟩)), .val (.pointer (some ⟨q, 0, none⟩)), .val (.pointer (some ⟨q, 3, none⟩)), .val (.pointer pr), .tree (lo.list ++ (k, z) :: hi.list), .tree (lo.list ++ (k, z) :: hi.list)] : List FactN).getD n (.val undef) : FactN).holds v w') (by kernel_rfl) (by kernel_rfl) HB1.out.drew (fun w1 w2 h1 hb => h1.trans (hb.mono h1.size)) (fun n v w1 w2 h hb => FactN.kept _ v w1 w2 h hb) (fun n o ho a wz hI hag hdep => ?_) (fun a wz hI hag hf => ?_)
        · have t0 : a.eval (.tmp 0) = .pointer (some ⟨q, 0, none⟩) := hag.old 0 _ (by kernel_rfl) rfl
          have t1 : a.eval (.tmp 1) = .pointer (some ⟨g, 0, none⟩) := hag.old 1 _ (by kernel_rfl) rfl
          have c_q_2 : wz.cell? ⟨q, 2, none⟩ = some (.pointer pl) := by rw [Lib.cell_of_heap ((hI.block q Lq.out).trans Hq.out)]; rfl
          have c_q_3 : wz.cell? ⟨q, 3, none⟩ = some (.pointer pr) := by rw [Lib.cell_of_heap ((hI.block q Lq.out).trans Hq.out)]; rfl
          match n, ho with
          | 0, ho =>
            obtain rfl := (Option.some.inj ho).symm
            exact ⟨rfl, QT.wp_value (BigFrame.run_move (.tmp 0) rfl wz) ⟨_, rfl, t0, Below.refl _ _⟩⟩
          | 1, ho =>
            obtain rfl := (Option.some.inj ho).symm
            have d48 : a.eval (.tmp 48) = .pointer (some ⟨q, 0, none⟩) := hdep _ (Array.mem_of_getElem? (i := 0) rfl) rfl _ _ rfl rfl
            exact ⟨rfl, QT.wp_value (v := .pointer (some ⟨q, 0, none⟩)) (by simp [go_sem, QT.nf d48]) ⟨_, rfl, rfl, Below.refl _ _⟩⟩
          | 2, ho =>
            obtain rfl := (Option.some.inj ho).symm
            have d49 : a.eval (.tmp 49) = .pointer (some ⟨q, 0, none⟩) := hdep _ (Array.mem_of_getElem? (i := 0) rfl) rfl _ _ rfl rfl
            exact ⟨rfl, QT.wp_value (v := .pointer (some ⟨q, 2, none⟩)) (by simp [go_sem, QT.nf d49]) ⟨_, rfl, rfl, Below.refl _ _⟩⟩
          | 3, ho =>
            obtain rfl := (Option.some.inj ho).symm
            have d50 : a.eval (.tmp 50) = .pointer (some ⟨q, 2, none⟩) := hdep _ (Array.mem_of_getElem? (i := 0) rfl) rfl _ _ rfl rfl
            exact ⟨rfl, QT.wp_value (v := .pointer pl) (by simp [go_sem, QT.nf d50, c_q_2]) ⟨_, rfl, rfl, Below.refl _ _⟩⟩
          | 4, ho =>
            obtain rfl := (Option.some.inj ho).symm
            exact ⟨rfl, QT.wp_value (BigFrame.run_move (.tmp 1) rfl wz) ⟨_, rfl, t1, Below.refl _ _⟩⟩
          | 5, ho =>
            obtain rfl := (Option.some.inj ho).symm
            exact ⟨rfl, QT.wp_value (BigFrame.run_move (.tmp 0) rfl wz) ⟨_, rfl, t0, Below.refl _ _⟩⟩
          | 6, ho =>
            obtain rfl := (Option.some.inj ho).symm
            have d53 : a.eval (.tmp 53) = .pointer (some ⟨q, 0, none⟩) := hdep _ (Array.mem_of_getElem? (i := 0) rfl) rfl _ _ rfl rfl
            exact ⟨rfl, QT.wp_value (v := .pointer (some ⟨q, 0, none⟩)) (by simp [go_sem, QT.nf d53]) ⟨_, rfl, rfl, Below.refl _ _⟩⟩
          | 7, ho =>
            obtain rfl := (Option.some.inj ho).symm
            have d54 : a.eval (.tmp 54) = .pointer (some ⟨q, 0, none⟩) := hdep _ (Array.mem_of_getElem? (i := 0) rfl) rfl _ _ rfl rfl
            exact ⟨rfl, QT.wp_value (v := .pointer (some ⟨q, 3, none⟩)) (by simp [go_sem, QT.nf d54]) ⟨_, rfl, rfl, Below.refl _ _⟩⟩
          | 8, ho =>
            obtain rfl := (Option.some.inj ho).symm
            have d55 : a.eval (.tmp 55) = .pointer (some ⟨q, 3, none⟩) := hdep _ (Array.mem_of_getElem? (i := 0) rfl) rfl _ _ rfl rfl
            exact ⟨rfl, QT.wp_value (v := .pointer pr) (by simp [go_sem, QT.nf d55, c_q_3]) ⟨_, rfl, rfl, Below.refl _ _⟩⟩
          | 9, ho =>
            obtain rfl := (Option.some.inj ho).symm
            have d51 : a.eval (.tmp 51) = .pointer pl := hdep _ (Array.mem_of_getElem? (i := 0) rfl) rfl _ _ rfl rfl
            have d52 : a.eval (.tmp 52) = .pointer (some ⟨g, 0, none⟩) := hdep _ (Array.mem_of_getElem? (i := 1) rfl) rfl _ _ rfl rfl
            have d56 : a.eval (.tmp 56) = .pointer pr := hdep _ (Array.mem_of_getElem? (i := 2) rfl) rfl _ _ rfl rfl
            exact ⟨rfl, wp_to (f := 31) (args := #[.pointer pl, .pointer (some ⟨g, 0, none⟩), .pointer pr]) (by simp [go_sem, QT.nf d51, QT.nf d52, QT.nf d56]) (HJ.out wz hI) fun v w' h => ⟨v, rfl, h.1, h.2⟩⟩
          | 10, ho =>
            obtain rfl := (Option.some.inj ho).symm
            have d57 : ((.tree (lo.list ++ (k, z) :: hi.list)) : FactN).holds (a.eval (.tmp 57)) wz := hdep _ (Array.mem_of_getElem? (i := 0) rfl) rfl _ _ rfl rfl
            exact ⟨rfl, QT.wp_value (BigFrame.run_assign (.tmp 57) rfl wz) ⟨_, rfl, d57, Below.refl _ _⟩⟩
          | n + 11, ho => simp at ho
        · have f0 : a.eval (.tmp 48) = .pointer (some ⟨q, 0, none⟩) := hf 0 _ _ rfl rfl
          have f1 : a.eval (.tmp 49) = .pointer (some ⟨q, 0, none⟩) := hf 1 _ _ rfl rfl
          have f2 : a.eval (.tmp 50) = .pointer (some ⟨q, 2, none⟩) := hf 2 _ _ rfl rfl
          have f3 : a.eval (.tmp 51) = .pointer pl := hf 3 _ _ rfl rfl
          have f4 : a.eval (.tmp 52) = .pointer (some ⟨g, 0, none⟩) := hf 4 _ _ rfl rfl
          have f5 : a.eval (.tmp 53) = .pointer (some ⟨q, 0, none⟩) := hf 5 _ _ rfl rfl
          have f6 : a.eval (.tmp 54) = .pointer (some ⟨q, 0, none⟩) := hf 6 _ _ rfl rfl
          have f7 : a.eval (.tmp 55) = .pointer (some ⟨q, 3, none⟩) := hf 7 _ _ rfl rfl
          have f8 : a.eval (.tmp 56) = .pointer pr := hf 8 _ _ rfl rfl
          obtain ⟨u9, f9, y9⟩ := hf 9 _ _ rfl rfl
          obtain ⟨u10, f10, y10⟩ := hf 10 _ _ rfl rfl
          have ha := hag.puts [(48, .pointer (some ⟨q, 0, none⟩)), (49, .pointer (some ⟨q, 0, none⟩)), (50, .pointer (some ⟨q, 2, none⟩)), (51, .pointer pl), (52, .pointer (some ⟨g, 0, none⟩)), (53, .pointer (some ⟨q, 0, none⟩)), (54, .pointer (some ⟨q, 0, none⟩)), (55, .pointer (some ⟨q, 3, none⟩)), (56, .pointer pr), (57, .pointer u9), (4, .pointer u10)] rfl (by simp) (by simp only [List.forall_mem_cons, List.not_mem_nil, false_implies, implies_true, and_true]; exact ⟨f0, f1, f2, f3, f4, f5, f6, f7, f8, f9, f10⟩)
          subst ha
          clear hag hf f0 f1 f2 f3 f4 f5 f6 f7 f8 f9 f10
          simp only [List.foldl_cons, List.foldl_nil, Act.put, List.setIfInBounds_toArray, List.set_cons_succ, List.set_cons_zero]
          rename World => w2
          go_wp2_with fail
          go_ret
          exact ⟨_, rfl, ⟨_, rfl, y10⟩, hI⟩

end Go.Proofs.Ytpepijoppgbbfaa.Shf
