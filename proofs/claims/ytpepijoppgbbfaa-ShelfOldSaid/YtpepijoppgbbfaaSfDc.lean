/- shelf: what is too much on one side goes up; balanced. -/
import Derived.Test.YtpepijoppgbbfaaSfDb
namespace Go.Proofs.Ytpepijoppgbbfaa.Shf
open Go.RowKit Go.Proofs.Ytpepijoppgbbfaa.Gr

set_option maxRecDepth 100000 in
set_option maxHeartbeats 6400000 in
attribute [local irreducible] Go.wpQuiet in
theorem code_turnedRight (j : Nat) (kj : ByteArray) (zj : Nat) (ja jb : Option Addr) (m : Value) (po : Option Addr) (la lb lo : List Th) (g : Nat) (k : ByteArray) (z : Nat) (x y u : Value) (w : World) (hj : NodeAt w j kj zj (.pointer ja) (.pointer jb) m) (ha : TreeOf w ja la) (hb : TreeOf w jb lb) (ho : TreeOf w po lo) (hg : NodeAt w g k z x y u) (hn : la.length + lb.length + lo.length ≤ 30000000000) :
    Calls Try.prog 34 #[.pointer (some ⟨j, 0, none⟩), .pointer (some ⟨g, 0, none⟩), .pointer po] w fun e w' => ∃ v, e = .returned v ∧ (FactN.tree (la ++ (kj, zj) :: lb ++ (k, z) :: lo)).holds v w' ∧ Below w.heap.size w w' := by
  obtain ⟨na, hna⟩ : ∃ a : Int, ((lb).length : Int) + 1 = a := ⟨_, rfl⟩
  obtain ⟨nb, hnb⟩ : ∃ a : Int, ((la).length : Int) + 1 = a := ⟨_, rfl⟩
  obtain ⟨nc, hnc⟩ : ∃ a : Int, 2 * nb = a := ⟨_, rfl⟩
  have HWU := Lib.hid (fun (wz : World) (hI : Below w.heap.size w wz) => code_weight jb lb wz (hb.go hI) (by omega))
  have HWO := Lib.hid (fun (wz : World) (hI : Below w.heap.size w wz) => code_weight ja la wz (ha.go hI) (by omega))
  rw [hna] at HWU
  rw [hnb] at HWO
  have HWC := Lib.hid (show IntKind.i64.wrap (2 * nb) = nc by rw [wrap_in _ (by omega) (by omega)]; exact hnc)
  have Hj := Lib.hid hj.cells
  have Lj := Lib.hid hj.lt
  have HNA := Lib.hid hna
  have HNB := Lib.hid hnb
  have HNC := Lib.hid hnc
  have HA := Lib.hid ha
  have HB := Lib.hid hb
  have HO := Lib.hid ho
  have HJ := Lib.hid hj
  have HG := Lib.hid hg
  have HN := Lib.hid hn
  clear hna hnb hnc ha hb ho hj hg hn
  by_cases hlt : na < nc
  · have HLT := Lib.hid hlt
    have cj : w.cell? ⟨j, 3, none⟩ = some (.pointer jb) := by rw [Lib.cell_of_heap Hj.out]; rfl
    go_enter Try.func34, Try.ntmps34
    go_upto_region 2 with (fail)
    refine QT.wp_region_facts (by kernel_rfl) (fun w' => Below w.heap.size w w') (fun n v w' => (([.val (.pointer jb), .val (.int .i64 na), .val (.pointer (some ⟨j, 0, none⟩)), .val (.pointer (some ⟨j, 0, none⟩)), .val (.pointer (some ⟨j, 2, none⟩)), .val (.pointer ja), .val (.int .i64 nb), .val (.int .i64 nc), .val (.bool true)] : List FactN).getD n (.val undef) : FactN).holds v w') (by kernel_rfl) (by kernel_rfl) (Below.refl _ _).drew (fun w1 w2 h1 hb => h1.trans (hb.mono h1.size)) (fun n v w1 w2 h hb => FactN.kept _ v w1 w2 h hb) (fun n o ho a wz hI hag hdep => ?_) (fun a wz hI hag hf => ?_)
    · have t0 : a.eval (.tmp 0) = .pointer (some ⟨j, 0, none⟩) := hag.old 0 _ (by kernel_rfl) rfl
      have t7 : a.eval (.tmp 7) = .pointer jb := hag.old 7 _ (by kernel_rfl) rfl
      have c_j_2 : wz.cell? ⟨j, 2, none⟩ = some (.pointer ja) := by rw [Lib.cell_of_heap ((hI.block j Lj.out).trans Hj.out)]; rfl
      match n, ho with
      | 0, ho =>
        obtain rfl := (Option.some.inj ho).symm
        exact ⟨rfl, QT.wp_value (BigFrame.run_move (.tmp 7) rfl wz) ⟨_, rfl, t7, Below.refl _ _⟩⟩
      | 1, ho =>
        obtain rfl := (Option.some.inj ho).symm
        have d12 : a.eval (.tmp 12) = .pointer jb := hdep _ (Array.mem_of_getElem? (i := 0) rfl) rfl _ _ rfl rfl
        exact ⟨rfl, QT.wp_enter (f := 26) (args := #[.pointer jb]) (by simp [go_sem, QT.nf d12]) (HWU.out wz hI) fun w' hb => ⟨_, rfl, rfl, hb⟩⟩
      | 2, ho =>
        obtain rfl := (Option.some.inj ho).symm
        exact ⟨rfl, QT.wp_value (BigFrame.run_move (.tmp 0) rfl wz) ⟨_, rfl, t0, Below.refl _ _⟩⟩
      | 3, ho =>
        obtain rfl := (Option.some.inj ho).symm
        have d14 : a.eval (.tmp 14) = .pointer (some ⟨j, 0, none⟩) := hdep _ (Array.mem_of_getElem? (i := 0) rfl) rfl _ _ rfl rfl
        exact ⟨rfl, QT.wp_value (v := .pointer (some ⟨j, 0, none⟩)) (by simp [go_sem, QT.nf d14]) ⟨_, rfl, rfl, Below.refl _ _⟩⟩
      | 4, ho =>
        obtain rfl := (Option.some.inj ho).symm
        have d15 : a.eval (.tmp 15) = .pointer (some ⟨j, 0, none⟩) := hdep _ (Array.mem_of_getElem? (i := 0) rfl) rfl _ _ rfl rfl
        exact ⟨rfl, QT.wp_value (v := .pointer (some ⟨j, 2, none⟩)) (by simp [go_sem, QT.nf d15]) ⟨_, rfl, rfl, Below.refl _ _⟩⟩
      | 5, ho =>
        obtain rfl := (Option.some.inj ho).symm
        have d16 : a.eval (.tmp 16) = .pointer (some ⟨j, 2, none⟩) := hdep _ (Array.mem_of_getElem? (i := 0) rfl) rfl _ _ rfl rfl
        exact ⟨rfl, QT.wp_value (v := .pointer ja) (by simp [go_sem, QT.nf d16, c_j_2]) ⟨_, rfl, rfl, Below.refl _ _⟩⟩
      | 6, ho =>
        obtain rfl := (Option.some.inj ho).symm
        have d17 : a.eval (.tmp 17) = .pointer ja := hdep _ (Array.mem_of_getElem? (i := 0) rfl) rfl _ _ rfl rfl
        exact ⟨rfl, QT.wp_enter (f := 26) (args := #[.pointer ja]) (by simp [go_sem, QT.nf d17]) (HWO.out wz hI) fun w' hb => ⟨_, rfl, rfl, hb⟩⟩
      | 7, ho =>
        obtain rfl := (Option.some.inj ho).symm
        have d18 : a.eval (.tmp 18) = .int .i64 nb := hdep _ (Array.mem_of_getElem? (i := 0) rfl) rfl _ _ rfl rfl
        exact ⟨rfl, QT.wp_value (v := .int .i64 nc) (by simp [go_sem, QT.nf d18, HWC.out]) ⟨_, rfl, rfl, Below.refl _ _⟩⟩
      | 8, ho =>
        obtain rfl := (Option.some.inj ho).symm
        have d13 : a.eval (.tmp 13) = .int .i64 na := hdep _ (Array.mem_of_getElem? (i := 0) rfl) rfl _ _ rfl rfl
        have d19 : a.eval (.tmp 19) = .int .i64 nc := hdep _ (Array.mem_of_getElem? (i := 1) rfl) rfl _ _ rfl rfl
        exact ⟨rfl, QT.wp_value (v := .bool true) (by simp [go_sem, QT.nf d13, QT.nf d19, HLT.out]) ⟨_, rfl, rfl, Below.refl _ _⟩⟩
      | n + 9, ho => simp at ho
    · have f0 : a.eval (.tmp 12) = .pointer jb := hf 0 _ _ rfl rfl
      have f1 : a.eval (.tmp 13) = .int .i64 na := hf 1 _ _ rfl rfl
      have f2 : a.eval (.tmp 14) = .pointer (some ⟨j, 0, none⟩) := hf 2 _ _ rfl rfl
      have f3 : a.eval (.tmp 15) = .pointer (some ⟨j, 0, none⟩) := hf 3 _ _ rfl rfl
      have f4 : a.eval (.tmp 16) = .pointer (some ⟨j, 2, none⟩) := hf 4 _ _ rfl rfl
      have f5 : a.eval (.tmp 17) = .pointer ja := hf 5 _ _ rfl rfl
      have f6 : a.eval (.tmp 18) = .int .i64 nb := hf 6 _ _ rfl rfl
      have f7 : a.eval (.tmp 19) = .int .i64 nc := hf 7 _ _ rfl rfl
      have f8 : a.eval (.tmp 20) = .bool true := hf 8 _ _ rfl rfl
      have ha := hag.puts [(12, .pointer jb), (13, .int .i64 na), (14, .pointer (some ⟨j, 0, none⟩)), (15, .pointer (some ⟨j, 0, none⟩)), (16, .pointer (some ⟨j, 2, none⟩)), (17, .pointer ja), (18, .int .i64 nb), (19, .int .i64 nc), (20, .bool true)] rfl (by simp) (by simp only [List.forall_mem_cons, List.not_mem_nil, false_implies, implies_true, and_true]; exact ⟨f0, f1, f2, f3, f4, f5, f6, f7, f8⟩)
      subst ha
      clear hag hf f0 f1 f2 f3 f4 f5 f6 f7 f8
      simp only [List.foldl_cons, List.foldl_nil, Act.put, List.setIfInBounds_toArray, List.set_cons_succ, List.set_cons_zero]
      rename World => w1
      have HB1 := Lib.hid hI
      clear hI
      have HJ1 := Lib.hid (fun (wz : World) (hI : Below w.heap.size w wz) => code_joined jb po lb lo g k z x y u wz (HB.out.go hI) (HO.out.go hI) (HG.out.go hI) (by have := HN.out; omega))
      have HJ2 := Lib.hid (fun (wz : World) (hI : Below w.heap.size w wz) p hp => code_joined ja p la (lb ++ (k, z) :: lo) j kj zj _ _ _ wz (HA.out.go hI) hp (HJ.out.go hI) (by have := HN.out; simp only [List.length_append, List.length_cons]; omega))
      go_upto_region 3 with (fail)
      refine QT.wp_region_facts (by kernel_rfl) (fun w' => Below w.heap.size w w') (fun n v w' => (([.val (.pointer (some ⟨j, 0, none⟩)), .val (.pointer (some ⟨j, 0, none⟩)), .val (.pointer (some ⟨j, 2, none⟩)), .val (.pointer ja), .val (.pointer (some ⟨j, 0, none⟩)), .val (.pointer jb), .val (.pointer (some ⟨g, 0, none⟩)), .val (.pointer po), .tree (lb ++ (k, z) :: lo), .tree (la ++ (kj, zj) :: (lb ++ (k, z) :: lo)), .tree (la ++ (kj, zj) :: (lb ++ (k, z) :: lo))] : List FactN).getD n (.val undef) : FactN).holds v w') (by kernel_rfl) (by kernel_rfl) HB1.out.drew (fun w1 w2 h1 hb => h1.trans (hb.mono h1.size)) (fun n v w1 w2 h hb => FactN.kept _ v w1 w2 h hb) (fun n o ho a wz hI hag hdep => ?_) (fun a wz hI hag hf => ?_)
      · have t0 : a.eval (.tmp 0) = .pointer (some ⟨j, 0, none⟩) := hag.old 0 _ (by kernel_rfl) rfl
        have t1 : a.eval (.tmp 1) = .pointer (some ⟨g, 0, none⟩) := hag.old 1 _ (by kernel_rfl) rfl
        have t2 : a.eval (.tmp 2) = .pointer po := hag.old 2 _ (by kernel_rfl) rfl
        have t7 : a.eval (.tmp 7) = .pointer jb := hag.old 7 _ (by kernel_rfl) rfl
        have c_j_2 : wz.cell? ⟨j, 2, none⟩ = some (.pointer ja) := by rw [Lib.cell_of_heap ((hI.block j Lj.out).trans Hj.out)]; rfl
        match n, ho with
        | 0, ho =>
          obtain rfl := (Option.some.inj ho).symm
          exact ⟨rfl, QT.wp_value (BigFrame.run_move (.tmp 0) rfl wz) ⟨_, rfl, t0, Below.refl _ _⟩⟩
        | 1, ho =>
          obtain rfl := (Option.some.inj ho).symm
          have d21 : a.eval (.tmp 21) = .pointer (some ⟨j, 0, none⟩) := hdep _ (Array.mem_of_getElem? (i := 0) rfl) rfl _ _ rfl rfl
          exact ⟨rfl, QT.wp_value (v := .pointer (some ⟨j, 0, none⟩)) (by simp [go_sem, QT.nf d21]) ⟨_, rfl, rfl, Below.refl _ _⟩⟩
        | 2, ho =>
          obtain rfl := (Option.some.inj ho).symm
          have d22 : a.eval (.tmp 22) = .pointer (some ⟨j, 0, none⟩) := hdep _ (Array.mem_of_getElem? (i := 0) rfl) rfl _ _ rfl rfl
          exact ⟨rfl, QT.wp_value (v := .pointer (some ⟨j, 2, none⟩)) (by simp [go_sem, QT.nf d22]) ⟨_, rfl, rfl, Below.refl _ _⟩⟩
        | 3, ho =>
          obtain rfl := (Option.some.inj ho).symm
          have d23 : a.eval (.tmp 23) = .pointer (some ⟨j, 2, none⟩) := hdep _ (Array.mem_of_getElem? (i := 0) rfl) rfl _ _ rfl rfl
          exact ⟨rfl, QT.wp_value (v := .pointer ja) (by simp [go_sem, QT.nf d23, c_j_2]) ⟨_, rfl, rfl, Below.refl _ _⟩⟩
        | 4, ho =>
          obtain rfl := (Option.some.inj ho).symm
          exact ⟨rfl, QT.wp_value (BigFrame.run_move (.tmp 0) rfl wz) ⟨_, rfl, t0, Below.refl _ _⟩⟩
        | 5, ho =>
          obtain rfl := (Option.some.inj ho).symm
          exact ⟨rfl, QT.wp_value (BigFrame.run_move (.tmp 7) rfl wz) ⟨_, rfl, t7, Below.refl _ _⟩⟩
        | 6, ho =>
          obtain rfl := (Option.some.inj ho).symm
          exact ⟨rfl, QT.wp_value (BigFrame.run_move (.tmp 1) rfl wz) ⟨_, rfl, t1, Below.refl _ _⟩⟩
        | 7, ho =>
          obtain rfl := (Option.some.inj ho).symm
          exact ⟨rfl, QT.wp_value (BigFrame.run_move (.tmp 2) rfl wz) ⟨_, rfl, t2, Below.refl _ _⟩⟩
        | 8, ho =>
          obtain rfl := (Option.some.inj ho).symm
          have d26 : a.eval (.tmp 26) = .pointer jb := hdep _ (Array.mem_of_getElem? (i := 0) rfl) rfl _ _ rfl rfl
          have d27 : a.eval (.tmp 27) = .pointer (some ⟨g, 0, none⟩) := hdep _ (Array.mem_of_getElem? (i := 1) rfl) rfl _ _ rfl rfl
          have d28 : a.eval (.tmp 28) = .pointer po := hdep _ (Array.mem_of_getElem? (i := 2) rfl) rfl _ _ rfl rfl
          exact ⟨rfl, wp_to (f := 31) (args := #[.pointer jb, .pointer (some ⟨g, 0, none⟩), .pointer po]) (by simp [go_sem, QT.nf d26, QT.nf d27, QT.nf d28]) (HJ1.out wz hI) fun v w' h => ⟨v, rfl, h.1, h.2⟩⟩
        | 9, ho =>
          obtain rfl := (Option.some.inj ho).symm
          have d24 : a.eval (.tmp 24) = .pointer ja := hdep _ (Array.mem_of_getElem? (i := 0) rfl) rfl _ _ rfl rfl
          have d25 : a.eval (.tmp 25) = .pointer (some ⟨j, 0, none⟩) := hdep _ (Array.mem_of_getElem? (i := 1) rfl) rfl _ _ rfl rfl
          have d29 : ((.tree (lb ++ (k, z) :: lo)) : FactN).holds (a.eval (.tmp 29)) wz := hdep _ (Array.mem_of_getElem? (i := 2) rfl) rfl _ _ rfl rfl
          obtain ⟨p29, e29, z29⟩ := d29
          exact ⟨rfl, wp_to (f := 31) (args := #[.pointer ja, .pointer (some ⟨j, 0, none⟩), .pointer p29]) (by simp [go_sem, QT.nf d24, QT.nf d25, QT.nf e29]) (HJ2.out wz hI p29 z29) fun v w' h => ⟨v, rfl, h.1, h.2⟩⟩
        | 10, ho =>
          obtain rfl := (Option.some.inj ho).symm
          have d30 : ((.tree (la ++ (kj, zj) :: (lb ++ (k, z) :: lo))) : FactN).holds (a.eval (.tmp 30)) wz := hdep _ (Array.mem_of_getElem? (i := 0) rfl) rfl _ _ rfl rfl
          exact ⟨rfl, QT.wp_value (BigFrame.run_assign (.tmp 30) rfl wz) ⟨_, rfl, d30, Below.refl _ _⟩⟩
        | n + 11, ho => simp at ho
      · have f0 : a.eval (.tmp 21) = .pointer (some ⟨j, 0, none⟩) := hf 0 _ _ rfl rfl
        have f1 : a.eval (.tmp 22) = .pointer (some ⟨j, 0, none⟩) := hf 1 _ _ rfl rfl
        have f2 : a.eval (.tmp 23) = .pointer (some ⟨j, 2, none⟩) := hf 2 _ _ rfl rfl
        have f3 : a.eval (.tmp 24) = .pointer ja := hf 3 _ _ rfl rfl
        have f4 : a.eval (.tmp 25) = .pointer (some ⟨j, 0, none⟩) := hf 4 _ _ rfl rfl
        have f5 : a.eval (.tmp 26) = .pointer jb := hf 5 _ _ rfl rfl
        have f6 : a.eval (.tmp 27) = .pointer (some ⟨g, 0, none⟩) := hf 6 _ _ rfl rfl
        have f7 : a.eval (.tmp 28) = .pointer po := hf 7 _ _ rfl rfl
        obtain ⟨u8, f8, y8⟩ := hf 8 _ _ rfl rfl
        obtain ⟨u9, f9, y9⟩ := hf 9 _ _ rfl rfl
        obtain ⟨u10, f10, y10⟩ := hf 10 _ _ rfl rfl
        have ha := hag.puts [(21, .pointer (some ⟨j, 0, none⟩)), (22, .pointer (some ⟨j, 0, none⟩)), (23, .pointer (some ⟨j, 2, none⟩)), (24, .pointer ja), (25, .pointer (some ⟨j, 0, none⟩)), (26, .pointer jb), (27, .pointer (some ⟨g, 0, none⟩)), (28, .pointer po), (29, .pointer u8), (30, .pointer u9), (6, .pointer u10)] rfl (by simp) (by simp only [List.forall_mem_cons, List.not_mem_nil, false_implies, implies_true, and_true]; exact ⟨f0, f1, f2, f3, f4, f5, f6, f7, f8, f9, f10⟩)
        subst ha
        clear hag hf f0 f1 f2 f3 f4 f5 f6 f7 f8 f9 f10
        simp only [List.foldl_cons, List.foldl_nil, Act.put, List.setIfInBounds_toArray, List.set_cons_succ, List.set_cons_zero]
        rename World => w2
        go_wp2_with fail
        go_ret
        refine ⟨_, rfl, ⟨_, rfl, ?_⟩, hI⟩
        simpa only [List.append_assoc, List.cons_append] using y10
  · have HLT := Lib.hid hlt
    have hne : lb ≠ [] := fun e => by
      have h1 := HNA.out
      have h2 := HNB.out
      have h3 := HNC.out
      rw [e] at h1
      simp at h1
      omega
    obtain ⟨q, qa, qb, kq, zq, lqa, lqb, mq, rfl, hq, hqa, hqb, rfl⟩ := HB.out.node hne
    have HQ := Lib.hid hq
    have Hq := Lib.hid hq.cells
    have Lq := Lib.hid hq.lt
    have HQA := Lib.hid hqa
    have HQB := Lib.hid hqb
    clear hq hqa hqb hne
    have cj : w.cell? ⟨j, 3, none⟩ = some (.pointer (some ⟨q, 0, none⟩)) := by rw [Lib.cell_of_heap Hj.out]; rfl
    go_enter Try.func34, Try.ntmps34
    go_upto_region 2 with (fail)
    refine QT.wp_region_facts (by kernel_rfl) (fun w' => Below w.heap.size w w') (fun n v w' => (([.val (.pointer (some ⟨q, 0, none⟩)), .val (.int .i64 na), .val (.pointer (some ⟨j, 0, none⟩)), .val (.pointer (some ⟨j, 0, none⟩)), .val (.pointer (some ⟨j, 2, none⟩)), .val (.pointer ja), .val (.int .i64 nb), .val (.int .i64 nc), .val (.bool false)] : List FactN).getD n (.val undef) : FactN).holds v w') (by kernel_rfl) (by kernel_rfl) (Below.refl _ _).drew (fun w1 w2 h1 hb => h1.trans (hb.mono h1.size)) (fun n v w1 w2 h hb => FactN.kept _ v w1 w2 h hb) (fun n o ho a wz hI hag hdep => ?_) (fun a wz hI hag hf => ?_)
    · have t0 : a.eval (.tmp 0) = .pointer (some ⟨j, 0, none⟩) := hag.old 0 _ (by kernel_rfl) rfl
      have t7 : a.eval (.tmp 7) = .pointer (some ⟨q, 0, none⟩) := hag.old 7 _ (by kernel_rfl) rfl
      have c_j_2 : wz.cell? ⟨j, 2, none⟩ = some (.pointer ja) := by rw [Lib.cell_of_heap ((hI.block j Lj.out).trans Hj.out)]; rfl
      match n, ho with
      | 0, ho =>
        obtain rfl := (Option.some.inj ho).symm
        exact ⟨rfl, QT.wp_value (BigFrame.run_move (.tmp 7) rfl wz) ⟨_, rfl, t7, Below.refl _ _⟩⟩
      | 1, ho =>
        obtain rfl := (Option.some.inj ho).symm
        have d12 : a.eval (.tmp 12) = .pointer (some ⟨q, 0, none⟩) := hdep _ (Array.mem_of_getElem? (i := 0) rfl) rfl _ _ rfl rfl
        exact ⟨rfl, QT.wp_enter (f := 26) (args := #[.pointer (some ⟨q, 0, none⟩)]) (by simp [go_sem, QT.nf d12]) (HWU.out wz hI) fun w' hb => ⟨_, rfl, rfl, hb⟩⟩
      | 2, ho =>
        obtain rfl := (Option.some.inj ho).symm
        exact ⟨rfl, QT.wp_value (BigFrame.run_move (.tmp 0) rfl wz) ⟨_, rfl, t0, Below.refl _ _⟩⟩
      | 3, ho =>
        obtain rfl := (Option.some.inj ho).symm
        have d14 : a.eval (.tmp 14) = .pointer (some ⟨j, 0, none⟩) := hdep _ (Array.mem_of_getElem? (i := 0) rfl) rfl _ _ rfl rfl
        exact ⟨rfl, QT.wp_value (v := .pointer (some ⟨j, 0, none⟩)) (by simp [go_sem, QT.nf d14]) ⟨_, rfl, rfl, Below.refl _ _⟩⟩
      | 4, ho =>
        obtain rfl := (Option.some.inj ho).symm
        have d15 : a.eval (.tmp 15) = .pointer (some ⟨j, 0, none⟩) := hdep _ (Array.mem_of_getElem? (i := 0) rfl) rfl _ _ rfl rfl
        exact ⟨rfl, QT.wp_value (v := .pointer (some ⟨j, 2, none⟩)) (by simp [go_sem, QT.nf d15]) ⟨_, rfl, rfl, Below.refl _ _⟩⟩
      | 5, ho =>
        obtain rfl := (Option.some.inj ho).symm
        have d16 : a.eval (.tmp 16) = .pointer (some ⟨j, 2, none⟩) := hdep _ (Array.mem_of_getElem? (i := 0) rfl) rfl _ _ rfl rfl
        exact ⟨rfl, QT.wp_value (v := .pointer ja) (by simp [go_sem, QT.nf d16, c_j_2]) ⟨_, rfl, rfl, Below.refl _ _⟩⟩
      | 6, ho =>
        obtain rfl := (Option.some.inj ho).symm
        have d17 : a.eval (.tmp 17) = .pointer ja := hdep _ (Array.mem_of_getElem? (i := 0) rfl) rfl _ _ rfl rfl
        exact ⟨rfl, QT.wp_enter (f := 26) (args := #[.pointer ja]) (by simp [go_sem, QT.nf d17]) (HWO.out wz hI) fun w' hb => ⟨_, rfl, rfl, hb⟩⟩
      | 7, ho =>
        obtain rfl := (Option.some.inj ho).symm
        have d18 : a.eval (.tmp 18) = .int .i64 nb := hdep _ (Array.mem_of_getElem? (i := 0) rfl) rfl _ _ rfl rfl
        exact ⟨rfl, QT.wp_value (v := .int .i64 nc) (by simp [go_sem, QT.nf d18, HWC.out]) ⟨_, rfl, rfl, Below.refl _ _⟩⟩
      | 8, ho =>
        obtain rfl := (Option.some.inj ho).symm
        have d13 : a.eval (.tmp 13) = .int .i64 na := hdep _ (Array.mem_of_getElem? (i := 0) rfl) rfl _ _ rfl rfl
        have d19 : a.eval (.tmp 19) = .int .i64 nc := hdep _ (Array.mem_of_getElem? (i := 1) rfl) rfl _ _ rfl rfl
        exact ⟨rfl, QT.wp_value (v := .bool false) (by simp [go_sem, QT.nf d13, QT.nf d19, HLT.out]) ⟨_, rfl, rfl, Below.refl _ _⟩⟩
      | n + 9, ho => simp at ho
    · have f0 : a.eval (.tmp 12) = .pointer (some ⟨q, 0, none⟩) := hf 0 _ _ rfl rfl
      have f1 : a.eval (.tmp 13) = .int .i64 na := hf 1 _ _ rfl rfl
      have f2 : a.eval (.tmp 14) = .pointer (some ⟨j, 0, none⟩) := hf 2 _ _ rfl rfl
      have f3 : a.eval (.tmp 15) = .pointer (some ⟨j, 0, none⟩) := hf 3 _ _ rfl rfl
      have f4 : a.eval (.tmp 16) = .pointer (some ⟨j, 2, none⟩) := hf 4 _ _ rfl rfl
      have f5 : a.eval (.tmp 17) = .pointer ja := hf 5 _ _ rfl rfl
      have f6 : a.eval (.tmp 18) = .int .i64 nb := hf 6 _ _ rfl rfl
      have f7 : a.eval (.tmp 19) = .int .i64 nc := hf 7 _ _ rfl rfl
      have f8 : a.eval (.tmp 20) = .bool false := hf 8 _ _ rfl rfl
      have ha := hag.puts [(12, .pointer (some ⟨q, 0, none⟩)), (13, .int .i64 na), (14, .pointer (some ⟨j, 0, none⟩)), (15, .pointer (some ⟨j, 0, none⟩)), (16, .pointer (some ⟨j, 2, none⟩)), (17, .pointer ja), (18, .int .i64 nb), (19, .int .i64 nc), (20, .bool false)] rfl (by simp) (by simp only [List.forall_mem_cons, List.not_mem_nil, false_implies, implies_true, and_true]; exact ⟨f0, f1, f2, f3, f4, f5, f6, f7, f8⟩)
      subst ha
      clear hag hf f0 f1 f2 f3 f4 f5 f6 f7 f8
      simp only [List.foldl_cons, List.foldl_nil, Act.put, List.setIfInBounds_toArray, List.set_cons_succ, List.set_cons_zero]
      rename World => w1
      have HB1 := Lib.hid hI
      clear hI
      have HJ1 := Lib.hid (fun (wz : World) (hI : Below w.heap.size w wz) => code_joined ja qa la lqa j kj zj _ _ _ wz (HA.out.go hI) (HQA.out.go hI) (HJ.out.go hI) (by have := HN.out; simp only [List.length_append, List.length_cons] at this; omega))
      have HJ2 := Lib.hid (fun (wz : World) (hI : Below w.heap.size w wz) => code_joined qb po lqb lo g k z x y u wz (HQB.out.go hI) (HO.out.go hI) (HG.out.go hI) (by have := HN.out; simp only [List.length_append, List.length_cons] at this; omega))
      have HJ3 := Lib.hid (fun (wz : World) (hI : Below w.heap.size w wz) p1 h1 p2 h2 => code_joined p1 p2 (la ++ (kj, zj) :: lqa) (lqb ++ (k, z) :: lo) q kq zq _ _ _ wz h1 h2 (HQ.out.go hI) (by have := HN.out; simp only [List.length_append, List.length_cons] at this ⊢; omega))
      go_upto_region 4 with (fail)
      refine QT.wp_region_facts (by kernel_rfl) (fun w' => Below w.heap.size w w') (fun n v w' => (([.val (.pointer (some ⟨j, 0, none⟩)), .val (.pointer (some ⟨j, 0, none⟩)), .val (.pointer (some ⟨j, 2, none⟩)), .val (.pointer ja), .val (.pointer (some ⟨j, 0, none⟩)), .val (.pointer (some ⟨q, 0, none⟩)), .val (.pointer (some ⟨q, 0, none⟩)), .val (.pointer (some ⟨q, 2, none⟩)), .val (.pointer qa), .tree (la ++ (kj, zj) :: lqa), .val (.pointer (some ⟨q, 0, none⟩)), .val (.pointer (some ⟨q, 0, none⟩)), .val (.pointer (some ⟨q, 0, none⟩)), .val (.pointer (some ⟨q, 3, none⟩)), .val (.pointer qb), .val (.pointer (some ⟨g, 0, none⟩)), .val (.pointer po), .tree (lqb ++ (k, z) :: lo), .tree (la ++ (kj, zj) :: lqa ++ (kq, zq) :: (lqb ++ (k, z) :: lo)), .tree (la ++ (kj, zj) :: lqa ++ (kq, zq) :: (lqb ++ (k, z) :: lo))] : List FactN).getD n (.val undef) : FactN).holds v w') (by kernel_rfl) (by kernel_rfl) HB1.out.drew (fun w1 w2 h1 hb => h1.trans (hb.mono h1.size)) (fun n v w1 w2 h hb => FactN.kept _ v w1 w2 h hb) (fun n o ho a wz hI hag hdep => ?_) (fun a wz hI hag hf => ?_)
      · have t0 : a.eval (.tmp 0) = .pointer (some ⟨j, 0, none⟩) := hag.old 0 _ (by kernel_rfl) rfl
        have t1 : a.eval (.tmp 1) = .pointer (some ⟨g, 0, none⟩) := hag.old 1 _ (by kernel_rfl) rfl
        have t2 : a.eval (.tmp 2) = .pointer po := hag.old 2 _ (by kernel_rfl) rfl
        have t7 : a.eval (.tmp 7) = .pointer (some ⟨q, 0, none⟩) := hag.old 7 _ (by kernel_rfl) rfl
        have c_j_2 : wz.cell? ⟨j, 2, none⟩ = some (.pointer ja) := by rw [Lib.cell_of_heap ((hI.block j Lj.out).trans Hj.out)]; rfl
        have c_q_2 : wz.cell? ⟨q, 2, none⟩ = some (.pointer qa) := by rw [Lib.cell_of_heap ((hI.block q Lq.out).trans Hq.out)]; rfl
        have c_q_3 : wz.cell? ⟨q, 3, none⟩ = some (.pointer qb) := by rw [Lib.cell_of_heap ((hI.block q Lq.out).trans Hq.out)]; rfl
        match n, ho with
        | 0, ho =>
          obtain rfl := (Option.some.inj ho).symm
          exact ⟨rfl, QT.wp_value (BigFrame.run_move (.tmp 0) rfl wz) ⟨_, rfl, t0, Below.refl _ _⟩⟩
        | 1, ho =>
          obtain rfl := (Option.some.inj ho).symm
          have d31 : a.eval (.tmp 31) = .pointer (some ⟨j, 0, none⟩) := hdep _ (Array.mem_of_getElem? (i := 0) rfl) rfl _ _ rfl rfl
          exact ⟨rfl, QT.wp_value (v := .pointer (some ⟨j, 0, none⟩)) (by simp [go_sem, QT.nf d31]) ⟨_, rfl, rfl, Below.refl _ _⟩⟩
        | 2, ho =>
          obtain rfl := (Option.some.inj ho).symm
          have d32 : a.eval (.tmp 32) = .pointer (some ⟨j, 0, none⟩) := hdep _ (Array.mem_of_getElem? (i := 0) rfl) rfl _ _ rfl rfl
          exact ⟨rfl, QT.wp_value (v := .pointer (some ⟨j, 2, none⟩)) (by simp [go_sem, QT.nf d32]) ⟨_, rfl, rfl, Below.refl _ _⟩⟩
        | 3, ho =>
          obtain rfl := (Option.some.inj ho).symm
          have d33 : a.eval (.tmp 33) = .pointer (some ⟨j, 2, none⟩) := hdep _ (Array.mem_of_getElem? (i := 0) rfl) rfl _ _ rfl rfl
          exact ⟨rfl, QT.wp_value (v := .pointer ja) (by simp [go_sem, QT.nf d33, c_j_2]) ⟨_, rfl, rfl, Below.refl _ _⟩⟩
        | 4, ho =>
          obtain rfl := (Option.some.inj ho).symm
          exact ⟨rfl, QT.wp_value (BigFrame.run_move (.tmp 0) rfl wz) ⟨_, rfl, t0, Below.refl _ _⟩⟩
        | 5, ho =>
          obtain rfl := (Option.some.inj ho).symm
          exact ⟨rfl, QT.wp_value (BigFrame.run_move (.tmp 7) rfl wz) ⟨_, rfl, t7, Below.refl _ _⟩⟩
        | 6, ho =>
          obtain rfl := (Option.some.inj ho).symm
          have d36 : a.eval (.tmp 36) = .pointer (some ⟨q, 0, none⟩) := hdep _ (Array.mem_of_getElem? (i := 0) rfl) rfl _ _ rfl rfl
          exact ⟨rfl, QT.wp_value (v := .pointer (some ⟨q, 0, none⟩)) (by simp [go_sem, QT.nf d36]) ⟨_, rfl, rfl, Below.refl _ _⟩⟩
        | 7, ho =>
          obtain rfl := (Option.some.inj ho).symm
          have d37 : a.eval (.tmp 37) = .pointer (some ⟨q, 0, none⟩) := hdep _ (Array.mem_of_getElem? (i := 0) rfl) rfl _ _ rfl rfl
          exact ⟨rfl, QT.wp_value (v := .pointer (some ⟨q, 2, none⟩)) (by simp [go_sem, QT.nf d37]) ⟨_, rfl, rfl, Below.refl _ _⟩⟩
        | 8, ho =>
          obtain rfl := (Option.some.inj ho).symm
          have d38 : a.eval (.tmp 38) = .pointer (some ⟨q, 2, none⟩) := hdep _ (Array.mem_of_getElem? (i := 0) rfl) rfl _ _ rfl rfl
          exact ⟨rfl, QT.wp_value (v := .pointer qa) (by simp [go_sem, QT.nf d38, c_q_2]) ⟨_, rfl, rfl, Below.refl _ _⟩⟩
        | 9, ho =>
          obtain rfl := (Option.some.inj ho).symm
          have d34 : a.eval (.tmp 34) = .pointer ja := hdep _ (Array.mem_of_getElem? (i := 0) rfl) rfl _ _ rfl rfl
          have d35 : a.eval (.tmp 35) = .pointer (some ⟨j, 0, none⟩) := hdep _ (Array.mem_of_getElem? (i := 1) rfl) rfl _ _ rfl rfl
          have d39 : a.eval (.tmp 39) = .pointer qa := hdep _ (Array.mem_of_getElem? (i := 2) rfl) rfl _ _ rfl rfl
          exact ⟨rfl, wp_to (f := 31) (args := #[.pointer ja, .pointer (some ⟨j, 0, none⟩), .pointer qa]) (by simp [go_sem, QT.nf d34, QT.nf d35, QT.nf d39]) (HJ1.out wz hI) fun v w' h => ⟨v, rfl, h.1, h.2⟩⟩
        | 10, ho =>
          obtain rfl := (Option.some.inj ho).symm
          exact ⟨rfl, QT.wp_value (BigFrame.run_move (.tmp 7) rfl wz) ⟨_, rfl, t7, Below.refl _ _⟩⟩
        | 11, ho =>
          obtain rfl := (Option.some.inj ho).symm
          exact ⟨rfl, QT.wp_value (BigFrame.run_move (.tmp 7) rfl wz) ⟨_, rfl, t7, Below.refl _ _⟩⟩
        | 12, ho =>
          obtain rfl := (Option.some.inj ho).symm
          have d42 : a.eval (.tmp 42) = .pointer (some ⟨q, 0, none⟩) := hdep _ (Array.mem_of_getElem? (i := 0) rfl) rfl _ _ rfl rfl
          exact ⟨rfl, QT.wp_value (v := .pointer (some ⟨q, 0, none⟩)) (by simp [go_sem, QT.nf d42]) ⟨_, rfl, rfl, Below.refl _ _⟩⟩
        | 13, ho =>
          obtain rfl := (Option.some.inj ho).symm
          have d43 : a.eval (.tmp 43) = .pointer (some ⟨q, 0, none⟩) := hdep _ (Array.mem_of_getElem? (i := 0) rfl) rfl _ _ rfl rfl
          exact ⟨rfl, QT.wp_value (v := .pointer (some ⟨q, 3, none⟩)) (by simp [go_sem, QT.nf d43]) ⟨_, rfl, rfl, Below.refl _ _⟩⟩
        | 14, ho =>
          obtain rfl := (Option.some.inj ho).symm
          have d44 : a.eval (.tmp 44) = .pointer (some ⟨q, 3, none⟩) := hdep _ (Array.mem_of_getElem? (i := 0) rfl) rfl _ _ rfl rfl
          exact ⟨rfl, QT.wp_value (v := .pointer qb) (by simp [go_sem, QT.nf d44, c_q_3]) ⟨_, rfl, rfl, Below.refl _ _⟩⟩
        | 15, ho =>
          obtain rfl := (Option.some.inj ho).symm
          exact ⟨rfl, QT.wp_value (BigFrame.run_move (.tmp 1) rfl wz) ⟨_, rfl, t1, Below.refl _ _⟩⟩
        | 16, ho =>
          obtain rfl := (Option.some.inj ho).symm
          exact ⟨rfl, QT.wp_value (BigFrame.run_move (.tmp 2) rfl wz) ⟨_, rfl, t2, Below.refl _ _⟩⟩
        | 17, ho =>
          obtain rfl := (Option.some.inj ho).symm
          have d45 : a.eval (.tmp 45) = .pointer qb := hdep _ (Array.mem_of_getElem? (i := 0) rfl) rfl _ _ rfl rfl
          have d46 : a.eval (.tmp 46) = .pointer (some ⟨g, 0, none⟩) := hdep _ (Array.mem_of_getElem? (i := 1) rfl) rfl _ _ rfl rfl
          have d47 : a.eval (.tmp 47) = .pointer po := hdep _ (Array.mem_of_getElem? (i := 2) rfl) rfl _ _ rfl rfl
          exact ⟨rfl, wp_to (f := 31) (args := #[.pointer qb, .pointer (some ⟨g, 0, none⟩), .pointer po]) (by simp [go_sem, QT.nf d45, QT.nf d46, QT.nf d47]) (HJ2.out wz hI) fun v w' h => ⟨v, rfl, h.1, h.2⟩⟩
        | 18, ho =>
          obtain rfl := (Option.some.inj ho).symm
          have d40 : ((.tree (la ++ (kj, zj) :: lqa)) : FactN).holds (a.eval (.tmp 40)) wz := hdep _ (Array.mem_of_getElem? (i := 0) rfl) rfl _ _ rfl rfl
          have d41 : a.eval (.tmp 41) = .pointer (some ⟨q, 0, none⟩) := hdep _ (Array.mem_of_getElem? (i := 1) rfl) rfl _ _ rfl rfl
          have d48 : ((.tree (lqb ++ (k, z) :: lo)) : FactN).holds (a.eval (.tmp 48)) wz := hdep _ (Array.mem_of_getElem? (i := 2) rfl) rfl _ _ rfl rfl
          obtain ⟨p40, e40, z40⟩ := d40
          obtain ⟨p48, e48, z48⟩ := d48
          exact ⟨rfl, wp_to (f := 31) (args := #[.pointer p40, .pointer (some ⟨q, 0, none⟩), .pointer p48]) (by simp [go_sem, QT.nf e40, QT.nf d41, QT.nf e48]) (HJ3.out wz hI p40 z40 p48 z48) fun v w' h => ⟨v, rfl, h.1, h.2⟩⟩
        | 19, ho =>
          obtain rfl := (Option.some.inj ho).symm
          have d49 : ((.tree (la ++ (kj, zj) :: lqa ++ (kq, zq) :: (lqb ++ (k, z) :: lo))) : FactN).holds (a.eval (.tmp 49)) wz := hdep _ (Array.mem_of_getElem? (i := 0) rfl) rfl _ _ rfl rfl
          exact ⟨rfl, QT.wp_value (BigFrame.run_assign (.tmp 49) rfl wz) ⟨_, rfl, d49, Below.refl _ _⟩⟩
        | n + 20, ho => simp at ho
      · have f0 : a.eval (.tmp 31) = .pointer (some ⟨j, 0, none⟩) := hf 0 _ _ rfl rfl
        have f1 : a.eval (.tmp 32) = .pointer (some ⟨j, 0, none⟩) := hf 1 _ _ rfl rfl
        have f2 : a.eval (.tmp 33) = .pointer (some ⟨j, 2, none⟩) := hf 2 _ _ rfl rfl
        have f3 : a.eval (.tmp 34) = .pointer ja := hf 3 _ _ rfl rfl
        have f4 : a.eval (.tmp 35) = .pointer (some ⟨j, 0, none⟩) := hf 4 _ _ rfl rfl
        have f5 : a.eval (.tmp 36) = .pointer (some ⟨q, 0, none⟩) := hf 5 _ _ rfl rfl
        have f6 : a.eval (.tmp 37) = .pointer (some ⟨q, 0, none⟩) := hf 6 _ _ rfl rfl
        have f7 : a.eval (.tmp 38) = .pointer (some ⟨q, 2, none⟩) := hf 7 _ _ rfl rfl
        have f8 : a.eval (.tmp 39) = .pointer qa := hf 8 _ _ rfl rfl
        obtain ⟨u9, f9, y9⟩ := hf 9 _ _ rfl rfl
        have f10 : a.eval (.tmp 41) = .pointer (some ⟨q, 0, none⟩) := hf 10 _ _ rfl rfl
        have f11 : a.eval (.tmp 42) = .pointer (some ⟨q, 0, none⟩) := hf 11 _ _ rfl rfl
        have f12 : a.eval (.tmp 43) = .pointer (some ⟨q, 0, none⟩) := hf 12 _ _ rfl rfl
        have f13 : a.eval (.tmp 44) = .pointer (some ⟨q, 3, none⟩) := hf 13 _ _ rfl rfl
        have f14 : a.eval (.tmp 45) = .pointer qb := hf 14 _ _ rfl rfl
        have f15 : a.eval (.tmp 46) = .pointer (some ⟨g, 0, none⟩) := hf 15 _ _ rfl rfl
        have f16 : a.eval (.tmp 47) = .pointer po := hf 16 _ _ rfl rfl
        obtain ⟨u17, f17, y17⟩ := hf 17 _ _ rfl rfl
        obtain ⟨u18, f18, y18⟩ := hf 18 _ _ rfl rfl
        obtain ⟨u19, f19, y19⟩ := hf 19 _ _ rfl rfl
        have ha := hag.puts [(31, .pointer (some ⟨j, 0, none⟩)), (32, .pointer (some ⟨j, 0, none⟩)), (33, .pointer (some ⟨j, 2, none⟩)), (34, .pointer ja), (35, .pointer (some ⟨j, 0, none⟩)), (36, .pointer (some ⟨q, 0, none⟩)), (37, .pointer (some ⟨q, 0, none⟩)), (38, .pointer (some ⟨q, 2, none⟩)), (39, .pointer qa), (40, .pointer u9), (41, .pointer (some ⟨q, 0, none⟩)), (42, .pointer (some ⟨q, 0, none⟩)), (43, .pointer (some ⟨q, 0, none⟩)), (44, .pointer (some ⟨q, 3, none⟩)), (45, .pointer qb), (46, .pointer (some ⟨g, 0, none⟩)), (47, .pointer po), (48, .pointer u17), (49, .pointer u18), (6, .pointer u19)] rfl (by simp) (by simp only [List.forall_mem_cons, List.not_mem_nil, false_implies, implies_true, and_true]; exact ⟨f0, f1, f2, f3, f4, f5, f6, f7, f8, f9, f10, f11, f12, f13, f14, f15, f16, f17, f18, f19⟩)
        subst ha
        clear hag hf f0 f1 f2 f3 f4 f5 f6 f7 f8 f9 f10 f11 f12 f13 f14 f15 f16 f17 f18 f19
        simp only [List.foldl_cons, List.foldl_nil, Act.put, List.setIfInBounds_toArray, List.set_cons_succ, List.set_cons_zero]
        rename World => w2
        go_wp2_with fail
        go_ret
        refine ⟨_, rfl, ⟨_, rfl, ?_⟩, hI⟩
        simpa only [List.append_assoc, List.cons_append] using y19

set_option maxRecDepth 100000 in
set_option maxHeartbeats 6400000 in
attribute [local irreducible] Go.wpQuiet in
theorem code_turnedLeft (j : Nat) (kj : ByteArray) (zj : Nat) (ja jb : Option Addr) (m : Value) (po : Option Addr) (la lb lo : List Th) (g : Nat) (k : ByteArray) (z : Nat) (x y u : Value) (w : World) (hj : NodeAt w j kj zj (.pointer ja) (.pointer jb) m) (ha : TreeOf w ja la) (hb : TreeOf w jb lb) (ho : TreeOf w po lo) (hg : NodeAt w g k z x y u) (hn : la.length + lb.length + lo.length ≤ 30000000000) :
    Calls Try.prog 35 #[.pointer po, .pointer (some ⟨g, 0, none⟩), .pointer (some ⟨j, 0, none⟩)] w fun e w' => ∃ v, e = .returned v ∧ (FactN.tree (lo ++ (k, z) :: (la ++ (kj, zj) :: lb))).holds v w' ∧ Below w.heap.size w w' := by
  obtain ⟨na, hna⟩ : ∃ a : Int, ((la).length : Int) + 1 = a := ⟨_, rfl⟩
  obtain ⟨nb, hnb⟩ : ∃ a : Int, ((lb).length : Int) + 1 = a := ⟨_, rfl⟩
  obtain ⟨nc, hnc⟩ : ∃ a : Int, 2 * nb = a := ⟨_, rfl⟩
  have HWU := Lib.hid (fun (wz : World) (hI : Below w.heap.size w wz) => code_weight ja la wz (ha.go hI) (by omega))
  have HWO := Lib.hid (fun (wz : World) (hI : Below w.heap.size w wz) => code_weight jb lb wz (hb.go hI) (by omega))
  rw [hna] at HWU
  rw [hnb] at HWO
  have HWC := Lib.hid (show IntKind.i64.wrap (2 * nb) = nc by rw [wrap_in _ (by omega) (by omega)]; exact hnc)
  have Hj := Lib.hid hj.cells
  have Lj := Lib.hid hj.lt
  have HNA := Lib.hid hna
  have HNB := Lib.hid hnb
  have HNC := Lib.hid hnc
  have HA := Lib.hid ha
  have HB := Lib.hid hb
  have HO := Lib.hid ho
  have HJ := Lib.hid hj
  have HG := Lib.hid hg
  have HN := Lib.hid hn
  clear hna hnb hnc ha hb ho hj hg hn
  by_cases hlt : na < nc
  · have HLT := Lib.hid hlt
    have cj : w.cell? ⟨j, 2, none⟩ = some (.pointer ja) := by rw [Lib.cell_of_heap Hj.out]; rfl
    go_enter Try.func35, Try.ntmps35
    go_upto_region 2 with (fail)
    refine QT.wp_region_facts (by kernel_rfl) (fun w' => Below w.heap.size w w') (fun n v w' => (([.val (.pointer ja), .val (.int .i64 na), .val (.pointer (some ⟨j, 0, none⟩)), .val (.pointer (some ⟨j, 0, none⟩)), .val (.pointer (some ⟨j, 3, none⟩)), .val (.pointer jb), .val (.int .i64 nb), .val (.int .i64 nc), .val (.bool true)] : List FactN).getD n (.val undef) : FactN).holds v w') (by kernel_rfl) (by kernel_rfl) (Below.refl _ _).drew (fun w1 w2 h1 hb => h1.trans (hb.mono h1.size)) (fun n v w1 w2 h hb => FactN.kept _ v w1 w2 h hb) (fun n o ho a wz hI hag hdep => ?_) (fun a wz hI hag hf => ?_)
    · have t2 : a.eval (.tmp 2) = .pointer (some ⟨j, 0, none⟩) := hag.old 2 _ (by kernel_rfl) rfl
      have t7 : a.eval (.tmp 7) = .pointer ja := hag.old 7 _ (by kernel_rfl) rfl
      have c_j_3 : wz.cell? ⟨j, 3, none⟩ = some (.pointer jb) := by rw [Lib.cell_of_heap ((hI.block j Lj.out).trans Hj.out)]; rfl
      match n, ho with
      | 0, ho =>
        obtain rfl := (Option.some.inj ho).symm
        exact ⟨rfl, QT.wp_value (BigFrame.run_move (.tmp 7) rfl wz) ⟨_, rfl, t7, Below.refl _ _⟩⟩
      | 1, ho =>
        obtain rfl := (Option.some.inj ho).symm
        have d12 : a.eval (.tmp 12) = .pointer ja := hdep _ (Array.mem_of_getElem? (i := 0) rfl) rfl _ _ rfl rfl
        exact ⟨rfl, QT.wp_enter (f := 26) (args := #[.pointer ja]) (by simp [go_sem, QT.nf d12]) (HWU.out wz hI) fun w' hb => ⟨_, rfl, rfl, hb⟩⟩
      | 2, ho =>
        obtain rfl := (Option.some.inj ho).symm
        exact ⟨rfl, QT.wp_value (BigFrame.run_move (.tmp 2) rfl wz) ⟨_, rfl, t2, Below.refl _ _⟩⟩
      | 3, ho =>
        obtain rfl := (Option.some.inj ho).symm
        have d14 : a.eval (.tmp 14) = .pointer (some ⟨j, 0, none⟩) := hdep _ (Array.mem_of_getElem? (i := 0) rfl) rfl _ _ rfl rfl
        exact ⟨rfl, QT.wp_value (v := .pointer (some ⟨j, 0, none⟩)) (by simp [go_sem, QT.nf d14]) ⟨_, rfl, rfl, Below.refl _ _⟩⟩
      | 4, ho =>
        obtain rfl := (Option.some.inj ho).symm
        have d15 : a.eval (.tmp 15) = .pointer (some ⟨j, 0, none⟩) := hdep _ (Array.mem_of_getElem? (i := 0) rfl) rfl _ _ rfl rfl
        exact ⟨rfl, QT.wp_value (v := .pointer (some ⟨j, 3, none⟩)) (by simp [go_sem, QT.nf d15]) ⟨_, rfl, rfl, Below.refl _ _⟩⟩
      | 5, ho =>
        obtain rfl := (Option.some.inj ho).symm
        have d16 : a.eval (.tmp 16) = .pointer (some ⟨j, 3, none⟩) := hdep _ (Array.mem_of_getElem? (i := 0) rfl) rfl _ _ rfl rfl
        exact ⟨rfl, QT.wp_value (v := .pointer jb) (by simp [go_sem, QT.nf d16, c_j_3]) ⟨_, rfl, rfl, Below.refl _ _⟩⟩
      | 6, ho =>
        obtain rfl := (Option.some.inj ho).symm
        have d17 : a.eval (.tmp 17) = .pointer jb := hdep _ (Array.mem_of_getElem? (i := 0) rfl) rfl _ _ rfl rfl
        exact ⟨rfl, QT.wp_enter (f := 26) (args := #[.pointer jb]) (by simp [go_sem, QT.nf d17]) (HWO.out wz hI) fun w' hb => ⟨_, rfl, rfl, hb⟩⟩
      | 7, ho =>
        obtain rfl := (Option.some.inj ho).symm
        have d18 : a.eval (.tmp 18) = .int .i64 nb := hdep _ (Array.mem_of_getElem? (i := 0) rfl) rfl _ _ rfl rfl
        exact ⟨rfl, QT.wp_value (v := .int .i64 nc) (by simp [go_sem, QT.nf d18, HWC.out]) ⟨_, rfl, rfl, Below.refl _ _⟩⟩
      | 8, ho =>
        obtain rfl := (Option.some.inj ho).symm
        have d13 : a.eval (.tmp 13) = .int .i64 na := hdep _ (Array.mem_of_getElem? (i := 0) rfl) rfl _ _ rfl rfl
        have d19 : a.eval (.tmp 19) = .int .i64 nc := hdep _ (Array.mem_of_getElem? (i := 1) rfl) rfl _ _ rfl rfl
        exact ⟨rfl, QT.wp_value (v := .bool true) (by simp [go_sem, QT.nf d13, QT.nf d19, HLT.out]) ⟨_, rfl, rfl, Below.refl _ _⟩⟩
      | n + 9, ho => simp at ho
    · have f0 : a.eval (.tmp 12) = .pointer ja := hf 0 _ _ rfl rfl
      have f1 : a.eval (.tmp 13) = .int .i64 na := hf 1 _ _ rfl rfl
      have f2 : a.eval (.tmp 14) = .pointer (some ⟨j, 0, none⟩) := hf 2 _ _ rfl rfl
      have f3 : a.eval (.tmp 15) = .pointer (some ⟨j, 0, none⟩) := hf 3 _ _ rfl rfl
      have f4 : a.eval (.tmp 16) = .pointer (some ⟨j, 3, none⟩) := hf 4 _ _ rfl rfl
      have f5 : a.eval (.tmp 17) = .pointer jb := hf 5 _ _ rfl rfl
      have f6 : a.eval (.tmp 18) = .int .i64 nb := hf 6 _ _ rfl rfl
      have f7 : a.eval (.tmp 19) = .int .i64 nc := hf 7 _ _ rfl rfl
      have f8 : a.eval (.tmp 20) = .bool true := hf 8 _ _ rfl rfl
      have ha := hag.puts [(12, .pointer ja), (13, .int .i64 na), (14, .pointer (some ⟨j, 0, none⟩)), (15, .pointer (some ⟨j, 0, none⟩)), (16, .pointer (some ⟨j, 3, none⟩)), (17, .pointer jb), (18, .int .i64 nb), (19, .int .i64 nc), (20, .bool true)] rfl (by simp) (by simp only [List.forall_mem_cons, List.not_mem_nil, false_implies, implies_true, and_true]; exact ⟨f0, f1, f2, f3, f4, f5, f6, f7, f8⟩)
      subst ha
      clear hag hf f0 f1 f2 f3 f4 f5 f6 f7 f8
      simp only [List.foldl_cons, List.foldl_nil, Act.put, List.setIfInBounds_toArray, List.set_cons_succ, List.set_cons_zero]
      rename World => w1
      have HB1 := Lib.hid hI
      clear hI
      have HJ1 := Lib.hid (fun (wz : World) (hI : Below w.heap.size w wz) => code_joined po ja lo la g k z x y u wz (HO.out.go hI) (HA.out.go hI) (HG.out.go hI) (by have := HN.out; omega))
      have HJ2 := Lib.hid (fun (wz : World) (hI : Below w.heap.size w wz) p hp => code_joined p jb (lo ++ (k, z) :: la) lb j kj zj _ _ _ wz hp (HB.out.go hI) (HJ.out.go hI) (by have := HN.out; simp only [List.length_append, List.length_cons]; omega))
      go_upto_region 3 with (fail)
      refine QT.wp_region_facts (by kernel_rfl) (fun w' => Below w.heap.size w w') (fun n v w' => (([.val (.pointer po), .val (.pointer (some ⟨g, 0, none⟩)), .val (.pointer ja), .tree (lo ++ (k, z) :: la), .val (.pointer (some ⟨j, 0, none⟩)), .val (.pointer (some ⟨j, 0, none⟩)), .val (.pointer (some ⟨j, 0, none⟩)), .val (.pointer (some ⟨j, 3, none⟩)), .val (.pointer jb), .tree (lo ++ (k, z) :: la ++ (kj, zj) :: lb), .tree (lo ++ (k, z) :: la ++ (kj, zj) :: lb)] : List FactN).getD n (.val undef) : FactN).holds v w') (by kernel_rfl) (by kernel_rfl) HB1.out.drew (fun w1 w2 h1 hb => h1.trans (hb.mono h1.size)) (fun n v w1 w2 h hb => FactN.kept _ v w1 w2 h hb) (fun n o ho a wz hI hag hdep => ?_) (fun a wz hI hag hf => ?_)
      · have t0 : a.eval (.tmp 0) = .pointer po := hag.old 0 _ (by kernel_rfl) rfl
        have t1 : a.eval (.tmp 1) = .pointer (some ⟨g, 0, none⟩) := hag.old 1 _ (by kernel_rfl) rfl
        have t2 : a.eval (.tmp 2) = .pointer (some ⟨j, 0, none⟩) := hag.old 2 _ (by kernel_rfl) rfl
        have t7 : a.eval (.tmp 7) = .pointer ja := hag.old 7 _ (by kernel_rfl) rfl
        have c_j_3 : wz.cell? ⟨j, 3, none⟩ = some (.pointer jb) := by rw [Lib.cell_of_heap ((hI.block j Lj.out).trans Hj.out)]; rfl
        match n, ho with
        | 0, ho =>
          obtain rfl := (Option.some.inj ho).symm
          exact ⟨rfl, QT.wp_value (BigFrame.run_move (.tmp 0) rfl wz) ⟨_, rfl, t0, Below.refl _ _⟩⟩
        | 1, ho =>
          obtain rfl := (Option.some.inj ho).symm
          exact ⟨rfl, QT.wp_value (BigFrame.run_move (.tmp 1) rfl wz) ⟨_, rfl, t1, Below.refl _ _⟩⟩
        | 2, ho =>
          obtain rfl := (Option.some.inj ho).symm
          exact ⟨rfl, QT.wp_value (BigFrame.run_move (.tmp 7) rfl wz) ⟨_, rfl, t7, Below.refl _ _⟩⟩
        | 3, ho =>
          obtain rfl := (Option.some.inj ho).symm
          have d21 : a.eval (.tmp 21) = .pointer po := hdep _ (Array.mem_of_getElem? (i := 0) rfl) rfl _ _ rfl rfl
          have d22 : a.eval (.tmp 22) = .pointer (some ⟨g, 0, none⟩) := hdep _ (Array.mem_of_getElem? (i := 1) rfl) rfl _ _ rfl rfl
          have d23 : a.eval (.tmp 23) = .pointer ja := hdep _ (Array.mem_of_getElem? (i := 2) rfl) rfl _ _ rfl rfl
          exact ⟨rfl, wp_to (f := 31) (args := #[.pointer po, .pointer (some ⟨g, 0, none⟩), .pointer ja]) (by simp [go_sem, QT.nf d21, QT.nf d22, QT.nf d23]) (HJ1.out wz hI) fun v w' h => ⟨v, rfl, h.1, h.2⟩⟩
        | 4, ho =>
          obtain rfl := (Option.some.inj ho).symm
          exact ⟨rfl, QT.wp_value (BigFrame.run_move (.tmp 2) rfl wz) ⟨_, rfl, t2, Below.refl _ _⟩⟩
        | 5, ho =>
          obtain rfl := (Option.some.inj ho).symm
          exact ⟨rfl, QT.wp_value (BigFrame.run_move (.tmp 2) rfl wz) ⟨_, rfl, t2, Below.refl _ _⟩⟩
        | 6, ho =>
          obtain rfl := (Option.some.inj ho).symm
          have d26 : a.eval (.tmp 26) = .pointer (some ⟨j, 0, none⟩) := hdep _ (Array.mem_of_getElem? (i := 0) rfl) rfl _ _ rfl rfl
          exact ⟨rfl, QT.wp_value (v := .pointer (some ⟨j, 0, none⟩)) (by simp [go_sem, QT.nf d26]) ⟨_, rfl, rfl, Below.refl _ _⟩⟩
        | 7, ho =>
          obtain rfl := (Option.some.inj ho).symm
          have d27 : a.eval (.tmp 27) = .pointer (some ⟨j, 0, none⟩) := hdep _ (Array.mem_of_getElem? (i := 0) rfl) rfl _ _ rfl rfl
          exact ⟨rfl, QT.wp_value (v := .pointer (some ⟨j, 3, none⟩)) (by simp [go_sem, QT.nf d27]) ⟨_, rfl, rfl, Below.refl _ _⟩⟩
        | 8, ho =>
          obtain rfl := (Option.some.inj ho).symm
          have d28 : a.eval (.tmp 28) = .pointer (some ⟨j, 3, none⟩) := hdep _ (Array.mem_of_getElem? (i := 0) rfl) rfl _ _ rfl rfl
          exact ⟨rfl, QT.wp_value (v := .pointer jb) (by simp [go_sem, QT.nf d28, c_j_3]) ⟨_, rfl, rfl, Below.refl _ _⟩⟩
        | 9, ho =>
          obtain rfl := (Option.some.inj ho).symm
          have d24 : ((.tree (lo ++ (k, z) :: la)) : FactN).holds (a.eval (.tmp 24)) wz := hdep _ (Array.mem_of_getElem? (i := 0) rfl) rfl _ _ rfl rfl
          have d25 : a.eval (.tmp 25) = .pointer (some ⟨j, 0, none⟩) := hdep _ (Array.mem_of_getElem? (i := 1) rfl) rfl _ _ rfl rfl
          have d29 : a.eval (.tmp 29) = .pointer jb := hdep _ (Array.mem_of_getElem? (i := 2) rfl) rfl _ _ rfl rfl
          obtain ⟨p24, e24, z24⟩ := d24
          exact ⟨rfl, wp_to (f := 31) (args := #[.pointer p24, .pointer (some ⟨j, 0, none⟩), .pointer jb]) (by simp [go_sem, QT.nf e24, QT.nf d25, QT.nf d29]) (HJ2.out wz hI p24 z24) fun v w' h => ⟨v, rfl, h.1, h.2⟩⟩
        | 10, ho =>
          obtain rfl := (Option.some.inj ho).symm
          have d30 : ((.tree (lo ++ (k, z) :: la ++ (kj, zj) :: lb)) : FactN).holds (a.eval (.tmp 30)) wz := hdep _ (Array.mem_of_getElem? (i := 0) rfl) rfl _ _ rfl rfl
          exact ⟨rfl, QT.wp_value (BigFrame.run_assign (.tmp 30) rfl wz) ⟨_, rfl, d30, Below.refl _ _⟩⟩
        | n + 11, ho => simp at ho
      · have f0 : a.eval (.tmp 21) = .pointer po := hf 0 _ _ rfl rfl
        have f1 : a.eval (.tmp 22) = .pointer (some ⟨g, 0, none⟩) := hf 1 _ _ rfl rfl
        have f2 : a.eval (.tmp 23) = .pointer ja := hf 2 _ _ rfl rfl
        obtain ⟨u3, f3, y3⟩ := hf 3 _ _ rfl rfl
        have f4 : a.eval (.tmp 25) = .pointer (some ⟨j, 0, none⟩) := hf 4 _ _ rfl rfl
        have f5 : a.eval (.tmp 26) = .pointer (some ⟨j, 0, none⟩) := hf 5 _ _ rfl rfl
        have f6 : a.eval (.tmp 27) = .pointer (some ⟨j, 0, none⟩) := hf 6 _ _ rfl rfl
        have f7 : a.eval (.tmp 28) = .pointer (some ⟨j, 3, none⟩) := hf 7 _ _ rfl rfl
        have f8 : a.eval (.tmp 29) = .pointer jb := hf 8 _ _ rfl rfl
        obtain ⟨u9, f9, y9⟩ := hf 9 _ _ rfl rfl
        obtain ⟨u10, f10, y10⟩ := hf 10 _ _ rfl rfl
        have ha := hag.puts [(21, .pointer po), (22, .pointer (some ⟨g, 0, none⟩)), (23, .pointer ja), (24, .pointer u3), (25, .pointer (some ⟨j, 0, none⟩)), (26, .pointer (some ⟨j, 0, none⟩)), (27, .pointer (some ⟨j, 0, none⟩)), (28, .pointer (some ⟨j, 3, none⟩)), (29, .pointer jb), (30, .pointer u9), (6, .pointer u10)] rfl (by simp) (by simp only [List.forall_mem_cons, List.not_mem_nil, false_implies, implies_true, and_true]; exact ⟨f0, f1, f2, f3, f4, f5, f6, f7, f8, f9, f10⟩)
        subst ha
        clear hag hf f0 f1 f2 f3 f4 f5 f6 f7 f8 f9 f10
        simp only [List.foldl_cons, List.foldl_nil, Act.put, List.setIfInBounds_toArray, List.set_cons_succ, List.set_cons_zero]
        rename World => w2
        go_wp2_with fail
        go_ret
        refine ⟨_, rfl, ⟨_, rfl, ?_⟩, hI⟩
        simpa only [List.append_assoc, List.cons_append] using y10
  · have HLT := Lib.hid hlt
    have hne : la ≠ [] := fun e => by
      have h1 := HNA.out
      have h2 := HNB.out
      have h3 := HNC.out
      rw [e] at h1
      simp at h1
      omega
    obtain ⟨q, qa, qb, kq, zq, lqa, lqb, mq, rfl, hq, hqa, hqb, rfl⟩ := HA.out.node hne
    have HQ := Lib.hid hq
    have Hq := Lib.hid hq.cells
    have Lq := Lib.hid hq.lt
    have HQA := Lib.hid hqa
    have HQB := Lib.hid hqb
    clear hq hqa hqb hne
    have cj : w.cell? ⟨j, 2, none⟩ = some (.pointer (some ⟨q, 0, none⟩)) := by rw [Lib.cell_of_heap Hj.out]; rfl
    go_enter Try.func35, Try.ntmps35
    go_upto_region 2 with (fail)
    refine QT.wp_region_facts (by kernel_rfl) (fun w' => Below w.heap.size w w') (fun n v w' => (([.val (.pointer (some ⟨q, 0, none⟩)), .val (.int .i64 na), .val (.pointer (some ⟨j, 0, none⟩)), .val (.pointer (some ⟨j, 0, none⟩)), .val (.pointer (some ⟨j, 3, none⟩)), .val (.pointer jb), .val (.int .i64 nb), .val (.int .i64 nc), .val (.bool false)] : List FactN).getD n (.val undef) : FactN).holds v w') (by kernel_rfl) (by kernel_rfl) (Below.refl _ _).drew (fun w1 w2 h1 hb => h1.trans (hb.mono h1.size)) (fun n v w1 w2 h hb => FactN.kept _ v w1 w2 h hb) (fun n o ho a wz hI hag hdep => ?_) (fun a wz hI hag hf => ?_)
    · have t2 : a.eval (.tmp 2) = .pointer (some ⟨j, 0, none⟩) := hag.old 2 _ (by kernel_rfl) rfl
      have t7 : a.eval (.tmp 7) = .pointer (some ⟨q, 0, none⟩) := hag.old 7 _ (by kernel_rfl) rfl
      have c_j_3 : wz.cell? ⟨j, 3, none⟩ = some (.pointer jb) := by rw [Lib.cell_of_heap ((hI.block j Lj.out).trans Hj.out)]; rfl
      match n, ho with
      | 0, ho =>
        obtain rfl := (Option.some.inj ho).symm
        exact ⟨rfl, QT.wp_value (BigFrame.run_move (.tmp 7) rfl wz) ⟨_, rfl, t7, Below.refl _ _⟩⟩
      | 1, ho =>
        obtain rfl := (Option.some.inj ho).symm
        have d12 : a.eval (.tmp 12) = .pointer (some ⟨q, 0, none⟩) := hdep _ (Array.mem_of_getElem? (i := 0) rfl) rfl _ _ rfl rfl
        exact ⟨rfl, QT.wp_enter (f := 26) (args := #[.pointer (some ⟨q, 0, none⟩)]) (by simp [go_sem, QT.nf d12]) (HWU.out wz hI) fun w' hb => ⟨_, rfl, rfl, hb⟩⟩
      | 2, ho =>
        obtain rfl := (Option.some.inj ho).symm
        exact ⟨rfl, QT.wp_value (BigFrame.run_move (.tmp 2) rfl wz) ⟨_, rfl, t2, Below.refl _ _⟩⟩
      | 3, ho =>
        obtain rfl := (Option.some.inj ho).symm
        have d14 : a.eval (.tmp 14) = .pointer (some ⟨j, 0, none⟩) := hdep _ (Array.mem_of_getElem? (i := 0) rfl) rfl _ _ rfl rfl
        exact ⟨rfl, QT.wp_value (v := .pointer (some ⟨j, 0, none⟩)) (by simp [go_sem, QT.nf d14]) ⟨_, rfl, rfl, Below.refl _ _⟩⟩
      | 4, ho =>
        obtain rfl := (Option.some.inj ho).symm
        have d15 : a.eval (.tmp 15) = .pointer (some ⟨j, 0, none⟩) := hdep _ (Array.mem_of_getElem? (i := 0) rfl) rfl _ _ rfl rfl
        exact ⟨rfl, QT.wp_value (v := .pointer (some ⟨j, 3, none⟩)) (by simp [go_sem, QT.nf d15]) ⟨_, rfl, rfl, Below.refl _ _⟩⟩
      | 5, ho =>
        obtain rfl := (Option.some.inj ho).symm
        have d16 : a.eval (.tmp 16) = .pointer (some ⟨j, 3, none⟩) := hdep _ (Array.mem_of_getElem? (i := 0) rfl) rfl _ _ rfl rfl
        exact ⟨rfl, QT.wp_value (v := .pointer jb) (by simp [go_sem, QT.nf d16, c_j_3]) ⟨_, rfl, rfl, Below.refl _ _⟩⟩
      | 6, ho =>
        obtain rfl := (Option.some.inj ho).symm
        have d17 : a.eval (.tmp 17) = .pointer jb := hdep _ (Array.mem_of_getElem? (i := 0) rfl) rfl _ _ rfl rfl
        exact ⟨rfl, QT.wp_enter (f := 26) (args := #[.pointer jb]) (by simp [go_sem, QT.nf d17]) (HWO.out wz hI) fun w' hb => ⟨_, rfl, rfl, hb⟩⟩
      | 7, ho =>
        obtain rfl := (Option.some.inj ho).symm
        have d18 : a.eval (.tmp 18) = .int .i64 nb := hdep _ (Array.mem_of_getElem? (i := 0) rfl) rfl _ _ rfl rfl
        exact ⟨rfl, QT.wp_value (v := .int .i64 nc) (by simp [go_sem, QT.nf d18, HWC.out]) ⟨_, rfl, rfl, Below.refl _ _⟩⟩
      | 8, ho =>
        obtain rfl := (Option.some.inj ho).symm
        have d13 : a.eval (.tmp 13) = .int .i64 na := hdep _ (Array.mem_of_getElem? (i := 0) rfl) rfl _ _ rfl rfl
        have d19 : a.eval (.tmp 19) = .int .i64 nc := hdep _ (Array.mem_of_getElem? (i := 1) rfl) rfl _ _ rfl rfl
        exact ⟨rfl, QT.wp_value (v := .bool false) (by simp [go_sem, QT.nf d13, QT.nf d19, HLT.out]) ⟨_, rfl, rfl, Below.refl _ _⟩⟩
      | n + 9, ho => simp at ho
    · have f0 : a.eval (.tmp 12) = .pointer (some ⟨q, 0, none⟩) := hf 0 _ _ rfl rfl
      have f1 : a.eval (.tmp 13) = .int .i64 na := hf 1 _ _ rfl rfl
      have f2 : a.eval (.tmp 14) = .pointer (some ⟨j, 0, none⟩) := hf 2 _ _ rfl rfl
      have f3 : a.eval (.tmp 15) = .pointer (some ⟨j, 0, none⟩) := hf 3 _ _ rfl rfl
      have f4 : a.eval (.tmp 16) = .pointer (some ⟨j, 3, none⟩) := hf 4 _ _ rfl rfl
      have f5 : a.eval (.tmp 17) = .pointer jb := hf 5 _ _ rfl rfl
      have f6 : a.eval (.tmp 18) = .int .i64 nb := hf 6 _ _ rfl rfl
      have f7 : a.eval (.tmp 19) = .int .i64 nc := hf 7 _ _ rfl rfl
      have f8 : a.eval (.tmp 20) = .bool false := hf 8 _ _ rfl rfl
      have ha := hag.puts [(12, .pointer (some ⟨q, 0, none⟩)), (13, .int .i64 na), (14, .pointer (some ⟨j, 0, none⟩)), (15, .pointer (some ⟨j, 0, none⟩)), (16, .pointer (some ⟨j, 3, none⟩)), (17, .pointer jb), (18, .int .i64 nb), (19, .int .i64 nc), (20, .bool false)] rfl (by simp) (by simp only [List.forall_mem_cons, List.not_mem_nil, false_implies, implies_true, and_true]; exact ⟨f0, f1, f2, f3, f4, f5, f6, f7, f8⟩)
      subst ha
      clear hag hf f0 f1 f2 f3 f4 f5 f6 f7 f8
      simp only [List.foldl_cons, List.foldl_nil, Act.put, List.setIfInBounds_toArray, List.set_cons_succ, List.set_cons_zero]
      rename World => w1
      have HB1 := Lib.hid hI
      clear hI
      have HJ1 := Lib.hid (fun (wz : World) (hI : Below w.heap.size w wz) => code_joined po qa lo lqa g k z x y u wz (HO.out.go hI) (HQA.out.go hI) (HG.out.go hI) (by have := HN.out; simp only [List.length_append, List.length_cons] at this; omega))
      have HJ2 := Lib.hid (fun (wz : World) (hI : Below w.heap.size w wz) => code_joined qb jb lqb lb j kj zj _ _ _ wz (HQB.out.go hI) (HB.out.go hI) (HJ.out.go hI) (by have := HN.out; simp only [List.length_append, List.length_cons] at this; omega))
      have HJ3 := Lib.hid (fun (wz : World) (hI : Below w.heap.size w wz) p1 h1 p2 h2 => code_joined p1 p2 (lo ++ (k, z) :: lqa) (lqb ++ (kj, zj) :: lb) q kq zq _ _ _ wz h1 h2 (HQ.out.go hI) (by have := HN.out; simp only [List.length_append, List.length_cons] at this ⊢; omega))
      go_upto_region 4 with (fail)
      refine QT.wp_region_facts (by kernel_rfl) (fun w' => Below w.heap.size w w') (fun n v w' => (([.val (.pointer po), .val (.pointer (some ⟨g, 0, none⟩)), .val (.pointer (some ⟨q, 0, none⟩)), .val (.pointer (some ⟨q, 0, none⟩)), .val (.pointer (some ⟨q, 2, none⟩)), .val (.pointer qa), .tree (lo ++ (k, z) :: lqa), .val (.pointer (some ⟨q, 0, none⟩)), .val (.pointer (some ⟨q, 0, none⟩)), .val (.pointer (some ⟨q, 0, none⟩)), .val (.pointer (some ⟨q, 3, none⟩)), .val (.pointer qb), .val (.pointer (some ⟨j, 0, none⟩)), .val (.pointer (some ⟨j, 0, none⟩)), .val (.pointer (some ⟨j, 0, none⟩)), .val (.pointer (some ⟨j, 3, none⟩)), .val (.pointer jb), .tree (lqb ++ (kj, zj) :: lb), .tree (lo ++ (k, z) :: lqa ++ (kq, zq) :: (lqb ++ (kj, zj) :: lb)), .tree (lo ++ (k, z) :: lqa ++ (kq, zq) :: (lqb ++ (kj, zj) :: lb))] : List FactN).getD n (.val undef) : FactN).holds v w') (by kernel_rfl) (by kernel_rfl) HB1.out.drew (fun w1 w2 h1 hb => h1.trans (hb.mono h1.size)) (fun n v w1 w2 h hb => FactN.kept _ v w1 w2 h hb) (fun n o ho a wz hI hag hdep => ?_) (fun a wz hI hag hf => ?_)
      · have t0 : a.eval (.tmp 0) = .pointer po := hag.old 0 _ (by kernel_rfl) rfl
        have t1 : a.eval (.tmp 1) = .pointer (some ⟨g, 0, none⟩) := hag.old 1 _ (by kernel_rfl) rfl
        have t2 : a.eval (.tmp 2) = .pointer (some ⟨j, 0, none⟩) := hag.old 2 _ (by kernel_rfl) rfl
        have t7 : a.eval (.tmp 7) = .pointer (some ⟨q, 0, none⟩) := hag.old 7 _ (by kernel_rfl) rfl
        have c_j_3 : wz.cell? ⟨j, 3, none⟩ = some (.pointer jb) := by rw [Lib.cell_of_heap ((hI.block j Lj.out).trans Hj.out)]; rfl
        have c_q_2 : wz.cell? ⟨q, 2, none⟩ = some (.pointer qa) := by rw [Lib.cell_of_heap ((hI.block q Lq.out).trans Hq.out)]; rfl
        have c_q_3 : wz.cell? ⟨q, 3, none⟩ = some (.pointer qb) := by rw [Lib.cell_of_heap ((hI.block q Lq.out).trans Hq.out)]; rfl
        match n, ho with
        | 0, ho =>
          obtain rfl := (Option.some.inj ho).symm
          exact ⟨rfl, QT.wp_value (BigFrame.run_move (.tmp 0) rfl wz) ⟨_, rfl, t0, Below.refl _ _⟩⟩
        | 1, ho =>
          obtain rfl := (Option.some.inj ho).symm
          exact ⟨rfl, QT.wp_value (BigFrame.run_move (.tmp 1) rfl wz) ⟨_, rfl, t1, Below.refl _ _⟩⟩
        | 2, ho =>
          obtain rfl := (Option.some.inj ho).symm
          exact ⟨rfl, QT.wp_value (BigFrame.run_move (.tmp 7) rfl wz) ⟨_, rfl, t7, Below.refl _ _⟩⟩
        | 3, ho =>
          obtain rfl := (Option.some.inj ho).symm
          have d33 : a.eval (.tmp 33) = .pointer (some ⟨q, 0, none⟩) := hdep _ (Array.mem_of_getElem? (i := 0) rfl) rfl _ _ rfl rfl
          exact ⟨rfl, QT.wp_value (v := .pointer (some ⟨q, 0, none⟩)) (by simp [go_sem, QT.nf d33]) ⟨_, rfl, rfl, Below.refl _ _⟩⟩
        | 4, ho =>
          obtain rfl := (Option.some.inj ho).symm
          have d34 : a.eval (.tmp 34) = .pointer (some ⟨q, 0, none⟩) := hdep _ (Array.mem_of_getElem? (i := 0) rfl) rfl _ _ rfl rfl
          exact ⟨rfl, QT.wp_value (v := .pointer (some ⟨q, 2, none⟩)) (by simp [go_sem, QT.nf d34]) ⟨_, rfl, rfl, Below.refl _ _⟩⟩
        | 5, ho =>
          obtain rfl := (Option.some.inj ho).symm
          have d35 : a.eval (.tmp 35) = .pointer (some ⟨q, 2, none⟩) := hdep _ (Array.mem_of_getElem? (i := 0) rfl) rfl _ _ rfl rfl
          exact ⟨rfl, QT.wp_value (v := .pointer qa) (by simp [go_sem, QT.nf d35, c_q_2]) ⟨_, rfl, rfl, Below.refl _ _⟩⟩
        | 6, ho =>
          obtain rfl := (Option.some.inj ho).symm
          have d31 : a.eval (.tmp 31) = .pointer po := hdep _ (Array.mem_of_getElem? (i := 0) rfl) rfl _ _ rfl rfl
          have d32 : a.eval (.tmp 32) = .pointer (some ⟨g, 0, none⟩) := hdep _ (Array.mem_of_getElem? (i := 1) rfl) rfl _ _ rfl rfl
          have d36 : a.eval (.tmp 36) = .pointer qa := hdep _ (Array.mem_of_getElem? (i := 2) rfl) rfl _ _ rfl rfl
          exact ⟨rfl, wp_to (f := 31) (args := #[.pointer po, .pointer (some ⟨g, 0, none⟩), .pointer qa]) (by simp [go_sem, QT.nf d31, QT.nf d32, QT.nf d36]) (HJ1.out wz hI) fun v w' h => ⟨v, rfl, h.1, h.2⟩⟩
        | 7, ho =>
          obtain rfl := (Option.some.inj ho).symm
          exact ⟨rfl, QT.wp_value (BigFrame.run_move (.tmp 7) rfl wz) ⟨_, rfl, t7, Below.refl _ _⟩⟩
        | 8, ho =>
          obtain rfl := (Option.some.inj ho).symm
          exact ⟨rfl, QT.wp_value (BigFrame.run_move (.tmp 7) rfl wz) ⟨_, rfl, t7, Below.refl _ _⟩⟩
        | 9, ho =>
          obtain rfl := (Option.some.inj ho).symm
          have d39 : a.eval (.tmp 39) = .pointer (some ⟨q, 0, none⟩) := hdep _ (Array.mem_of_getElem? (i := 0) rfl) rfl _ _ rfl rfl
          exact ⟨rfl, QT.wp_value (v := .pointer (some ⟨q, 0, none⟩)) (by simp [go_sem, QT.nf d39]) ⟨_, rfl, rfl, Below.refl _ _⟩⟩
        | 10, ho =>
          obtain rfl := (Option.some.inj ho).symm
          have d40 : a.eval (.tmp 40) = .pointer (some ⟨q, 0, none⟩) := hdep _ (Array.mem_of_getElem? (i := 0) rfl) rfl _ _ rfl rfl
          exact ⟨rfl, QT.wp_value (v := .pointer (some ⟨q, 3, none⟩)) (by simp [go_sem, QT.nf d40]) ⟨_, rfl, rfl, Below.refl _ _⟩⟩
        | 11, ho =>
          obtain rfl := (Option.some.inj ho).symm
          have d41 : a.eval (.tmp 41) = .pointer (some ⟨q, 3, none⟩) := hdep _ (Array.mem_of_getElem? (i := 0) rfl) rfl _ _ rfl rfl
          exact ⟨rfl, QT.wp_value (v := .pointer qb) (by simp [go_sem, QT.nf d41, c_q_3]) ⟨_, rfl, rfl, Below.refl _ _⟩⟩
        | 12, ho =>
          obtain rfl := (Option.some.inj ho).symm
          exact ⟨rfl, QT.wp_value (BigFrame.run_move (.tmp 2) rfl wz) ⟨_, rfl, t2, Below.refl _ _⟩⟩
        | 13, ho =>
          obtain rfl := (Option.some.inj ho).symm
          exact ⟨rfl, QT.wp_value (BigFrame.run_move (.tmp 2) rfl wz) ⟨_, rfl, t2, Below.refl _ _⟩⟩
        | 14, ho =>
          obtain rfl := (Option.some.inj ho).symm
          have d44 : a.eval (.tmp 44) = .pointer (some ⟨j, 0, none⟩) := hdep _ (Array.mem_of_getElem? (i := 0) rfl) rfl _ _ rfl rfl
          exact ⟨rfl, QT.wp_value (v := .pointer (some ⟨j, 0, none⟩)) (by simp [go_sem, QT.nf d44]) ⟨_, rfl, rfl, Below.refl _ _⟩⟩
        | 15, ho =>
          obtain rfl := (Option.some.inj ho).symm
          have d45 : a.eval (.tmp 45) = .pointer (some ⟨j, 0, none⟩) := hdep _ (Array.mem_of_getElem? (i := 0) rfl) rfl _ _ rfl rfl
          exact ⟨rfl, QT.wp_value (v := .pointer (some ⟨j, 3, none⟩)) (by simp [go_sem, QT.nf d45]) ⟨_, rfl, rfl, Below.refl _ _⟩⟩
        | 16, ho =>
          obtain rfl := (Option.some.inj ho).symm
          have d46 : a.eval (.tmp 46) = .pointer (some ⟨j, 3, none⟩) := hdep _ (Array.mem_of_getElem? (i := 0) rfl) rfl _ _ rfl rfl
          exact ⟨rfl, QT.wp_value (v := .pointer jb) (by simp [go_sem, QT.nf d46, c_j_3]) ⟨_, rfl, rfl, Below.refl _ _⟩⟩
        | 17, ho =>
          obtain rfl := (Option.some.inj ho).symm
          have d42 : a.eval (.tmp 42) = .pointer qb := hdep _ (Array.mem_of_getElem? (i := 0) rfl) rfl _ _ rfl rfl
          have d43 : a.eval (.tmp 43) = .pointer (some ⟨j, 0, none⟩) := hdep _ (Array.mem_of_getElem? (i := 1) rfl) rfl _ _ rfl rfl
          have d47 : a.eval (.tmp 47) = .pointer jb := hdep _ (Array.mem_of_getElem? (i := 2) rfl) rfl _ _ rfl rfl
          exact ⟨rfl, wp_to (f := 31) (args := #[.pointer qb, .pointer (some ⟨j, 0, none⟩), .pointer jb]) (by simp [go_sem, QT.nf d42, QT.nf d43, QT.nf d47]) (HJ2.out wz hI) fun v w' h => ⟨v, rfl, h.1, h.2⟩⟩
        | 18, ho =>
          obtain rfl := (Option.some.inj ho).symm
          have d37 : ((.tree (lo ++ (k, z) :: lqa)) : FactN).holds (a.eval (.tmp 37)) wz := hdep _ (Array.mem_of_getElem? (i := 0) rfl) rfl _ _ rfl rfl
          have d38 : a.eval (.tmp 38) = .pointer (some ⟨q, 0, none⟩) := hdep _ (Array.mem_of_getElem? (i := 1) rfl) rfl _ _ rfl rfl
          have d48 : ((.tree (lqb ++ (kj, zj) :: lb)) : FactN).holds (a.eval (.tmp 48)) wz := hdep _ (Array.mem_of_getElem? (i := 2) rfl) rfl _ _ rfl rfl
          obtain ⟨p37, e37, z37⟩ := d37
          obtain ⟨p48, e48, z48⟩ := d48
          exact ⟨rfl, wp_to (f := 31) (args := #[.pointer p37, .pointer (some ⟨q, 0, none⟩), .pointer p48]) (by simp [go_sem, QT.nf e37, QT.nf d38, QT.nf e48]) (HJ3.out wz hI p37 z37 p48 z48) fun v w' h => ⟨v, rfl, h.1, h.2⟩⟩
        | 19, ho =>
          obtain rfl := (Option.some.inj ho).symm
          have d49 : ((.tree (lo ++ (k, z) :: lqa ++ (kq, zq) :: (lqb ++ (kj, zj) :: lb))) : FactN).holds (a.eval (.tmp 49)) wz := hdep _ (Array.mem_of_getElem? (i := 0) rfl) rfl _ _ rfl rfl
          exact ⟨rfl, QT.wp_value (BigFrame.run_assign (.tmp 49) rfl wz) ⟨_, rfl, d49, Below.refl _ _⟩⟩
        | n + 20, ho => simp at ho
      · have f0 : a.eval (.tmp 31) = .pointer po := hf 0 _ _ rfl rfl
        have f1 : a.eval (.tmp 32) = .pointer (some ⟨g, 0, none⟩) := hf 1 _ _ rfl rfl
        have f2 : a.eval (.tmp 33) = .pointer (some ⟨q, 0, none⟩) := hf 2 _ _ rfl rfl
        have f3 : a.eval (.tmp 34) = .pointer (some ⟨q, 0, none⟩) := hf 3 _ _ rfl rfl
        have f4 : a.eval (.tmp 35) = .pointer (some ⟨q, 2, none⟩) := hf 4 _ _ rfl rfl
        have f5 : a.eval (.tmp 36) = .pointer qa := hf 5 _ _ rfl rfl
        obtain ⟨u6, f6, y6⟩ := hf 6 _ _ rfl rfl
        have f7 : a.eval (.tmp 38) = .pointer (some ⟨q, 0, none⟩) := hf 7 _ _ rfl rfl
        have f8 : a.eval (.tmp 39) = .pointer (some ⟨q, 0, none⟩) := hf 8 _ _ rfl rfl
        have f9 : a.eval (.tmp 40) = .pointer (some ⟨q, 0, none⟩) := hf 9 _ _ rfl rfl
        have f10 : a.eval (.tmp 41) = .pointer (some ⟨q, 3, none⟩) := hf 10 _ _ rfl rfl
        have f11 : a.eval (.tmp 42) = .pointer qb := hf 11 _ _ rfl rfl
        have f12 : a.eval (.tmp 43) = .pointer (some ⟨j, 0, none⟩) := hf 12 _ _ rfl rfl
        have f13 : a.eval (.tmp 44) = .pointer (some ⟨j, 0, none⟩) := hf 13 _ _ rfl rfl
        have f14 : a.eval (.tmp 45) = .pointer (some ⟨j, 0, none⟩) := hf 14 _ _ rfl rfl
        have f15 : a.eval (.tmp 46) = .pointer (some ⟨j, 3, none⟩) := hf 15 _ _ rfl rfl
        have f16 : a.eval (.tmp 47) = .pointer jb := hf 16 _ _ rfl rfl
        obtain ⟨u17, f17, y17⟩ := hf 17 _ _ rfl rfl
        obtain ⟨u18, f18, y18⟩ := hf 18 _ _ rfl rfl
        obtain ⟨u19, f19, y19⟩ := hf 19 _ _ rfl rfl
        have ha := hag.puts [(31, .pointer po), (32, .pointer (some ⟨g, 0, none⟩)), (33, .pointer (some ⟨q, 0, none⟩)), (34, .pointer (some ⟨q, 0, none⟩)), (35, .pointer (some ⟨q, 2, none⟩)), (36, .pointer qa), (37, .pointer u6), (38, .pointer (some ⟨q, 0, none⟩)), (39, .pointer (some ⟨q, 0, none⟩)), (40, .pointer (some ⟨q, 0, none⟩)), (41, .pointer (some ⟨q, 3, none⟩)), (42, .pointer qb), (43, .pointer (some ⟨j, 0, none⟩)), (44, .pointer (some ⟨j, 0, none⟩)), (45, .pointer (some ⟨j, 0, none⟩)), (46, .pointer (some ⟨j, 3, none⟩)), (47, .pointer jb), (48, .pointer u17), (49, .pointer u18), (6, .pointer u19)] rfl (by simp) (by simp only [List.forall_mem_cons, List.not_mem_nil, false_implies, implies_true, and_true]; exact ⟨f0, f1, f2, f3, f4, f5, f6, f7, f8, f9, f10, f11, f12, f13, f14, f15, f16, f17, f18, f19⟩)
        subst ha
        clear hag hf f0 f1 f2 f3 f4 f5 f6 f7 f8 f9 f10 f11 f12 f13 f14 f15 f16 f17 f18 f19
        simp only [List.foldl_cons, List.foldl_nil, Act.put, List.setIfInBounds_toArray, List.set_cons_succ, List.set_cons_zero]
        rename World => w2
        go_wp2_with fail
        go_ret
        refine ⟨_, rfl, ⟨_, rfl, ?_⟩, hI⟩
        simpa only [List.append_assoc, List.cons_append] using y19

end Go.Proofs.Ytpepijoppgbbfaa.Shf
