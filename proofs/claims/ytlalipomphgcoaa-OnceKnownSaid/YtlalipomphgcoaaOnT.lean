/- once: what a signature tells: the code's closure. -/
import Derived.Test.YtlalipomphgcoaaOnG
namespace Go.Proofs.Ytlalipomphgcoaa.Once
open Go.RowKit Go.Proofs.Ytlalipomphgcoaa.Sha Go.Proofs.Ytlalipomphgcoaa.Tree

theorem mk_data (p : ByteArray) : (⟨p.data.toList.toArray⟩ : ByteArray) = p := by
  cases p
  simp
theorem list_size (p : ByteArray) : p.data.toList.length = p.size := by rw [Array.length_toList]; rfl
theorem code_mark' (p : ByteArray) (hp : p.size = 32) (w : World) :
    Calls Try.prog 55 #[.string p] w fun e w' => e = .returned (.string ⟨(markF p.data.toList).toArray⟩) ∧ Below w.heap.size w w' := by
  have h := code_mark p.data.toList (by rw [list_size, hp]) w
  rw [mk_data] at h
  exact h
theorem half_first (sig : ByteArray) (i : Nat) : ((sig.extract (64 * i) (64 * i + 64)).extract 0 32).data.toList = halfA sig.data.toList i := by
  rw [Lib.extract_data, Lib.extract_data, List.drop_zero, Nat.sub_zero, List.take_take]
  unfold halfA
  congr 1
  omega
theorem half_last (sig : ByteArray) (i : Nat) : ((sig.extract (64 * i) (64 * i + 64)).extract 32 64).data.toList = halfB sig.data.toList i := by
  rw [Lib.extract_data, Lib.extract_data, List.drop_take, List.drop_drop]
  unfold halfB
  rw [List.take_take]
  congr 1
  omega
theorem extract_size (sig : ByteArray) (a b : Nat) (h1 : a ≤ b) (h2 : b ≤ sig.size) : (sig.extract a b).size = b - a := by
  rw [ByteArray.size_extract]
  omega
def tellRow (A B : ByteArray) (x : Nat) : Array Value := if x = 0 then #[.string A, .string B] else #[.string B, .string A]
theorem tellRow_set (A B : ByteArray) (x y : Nat) (hx : x < 2) (hy : y = 1 - x) : ((#[Value.string ⟨#[]⟩, Value.string ⟨#[]⟩] : Array Value).setIfInBounds x (.string A)).setIfInBounds y (.string B) = tellRow A B x := by
  subst hy
  have : x = 0 ∨ x = 1 := by omega
  rcases this with rfl | rfl <;> rfl

set_option maxRecDepth 100000 in
set_option maxHeartbeats 3200000 in
theorem code_tell1 (m : List UInt8) (hm : m.length = 32) (sig : ByteArray) (hsz : sig.size = 1024) (g0 g1 : Nat) (i : Nat) (hi : i < 16) (w : World) (h0 : w.heap[g0]? = some (.cells #[.string sig] 9 (0, 0))) (h1 : w.heap[g1]? = some (.cells (valsB m).toArray 23 (0, 0))) :
    Calls Try.prog 53 #[.int .i64 i, .pointer (some ⟨g0, 0, none⟩), .pointer (some ⟨g1, 0, none⟩)] w fun e w' => e = .returned (.agg #[.string ⟨(tellF m sig.data.toList i).1.toArray⟩, .string ⟨(tellF m sig.data.toList i).2.toArray⟩]) ∧ Below w.heap.size w w' := by
  have HBI := Lib.hid (fun w => code_bit m hm i hi w)
  have HRM := Lib.hid (row32 m hm)
  have hx2 := bitF_lt m i
  have hps : (sig.extract (64 * i) (64 * i + 64)).size = 64 := by rw [extract_size _ _ _ (by omega) (by omega)]; omega
  have hqs : ((sig.extract (64 * i) (64 * i + 64)).extract 0 32).size = 32 := by rw [extract_size _ _ _ (by omega) (by omega)]
  have HMA := Lib.hid (fun w => code_mark' _ hqs w)
  have hA := half_first sig i
  have hB := half_last sig i
  have htf : (#[.string ⟨(tellF m sig.data.toList i).1.toArray⟩, .string ⟨(tellF m sig.data.toList i).2.toArray⟩] : Array Value) = tellRow ⟨(markF (halfA sig.data.toList i)).toArray⟩ ⟨(halfB sig.data.toList i).toArray⟩ (bitF m i) := by
    unfold tellF tellRow
    by_cases h : bitF m i = 0
    · rw [if_pos h, if_pos h]
    · rw [if_neg h, if_neg h]
  rw [htf, ← hA, ← hB, mk_data]
  clear htf hA hB
  obtain ⟨CM, hCM⟩ : ∃ C, (valsB m).toArray = C := ⟨_, rfl⟩
  rw [hCM] at HBI HRM h1
  obtain ⟨x, hx⟩ : ∃ x, bitF m i = x := ⟨_, rfl⟩
  rw [hx] at HBI hx2
  rw [hx]
  obtain ⟨j, hj⟩ : ∃ j, 64 * i = j := ⟨_, rfl⟩
  obtain ⟨j2, hj2⟩ : ∃ x, j + 64 = x := ⟨_, rfl⟩
  rw [hj, hj2] at hps hqs HMA
  rw [hj, hj2]
  obtain ⟨P, hP⟩ : ∃ P, sig.extract j j2 = P := ⟨_, rfl⟩
  rw [hP] at hps hqs HMA
  rw [hP]
  obtain ⟨PA, hPA⟩ : ∃ p, P.extract 0 32 = p := ⟨_, rfl⟩
  obtain ⟨PB, hPB⟩ : ∃ p, P.extract 32 64 = p := ⟨_, rfl⟩
  rw [hPA] at HMA
  rw [hPA, hPB]
  obtain ⟨M, hM⟩ : ∃ p : ByteArray, (⟨(markF PA.data.toList).toArray⟩ : ByteArray) = p := ⟨_, rfl⟩
  rw [hM] at HMA
  rw [hM]
  obtain ⟨y, hy⟩ : ∃ y, 1 - x = y := ⟨_, rfl⟩
  have HTR := Lib.hid (tellRow_set M PB x y hx2 hy.symm)
  have H0' := Lib.hid h0
  have H1' := Lib.hid h1
  have hgl0 : g0 < w.heap.size := (Array.getElem?_eq_some_iff.1 h0).1
  have hgl1 : g1 < w.heap.size := (Array.getElem?_eq_some_iff.1 h1).1
  have hji : (64 : Int) * (i : Int) = (j : Int) := by omega
  have hj2i : (j : Int) + 64 = (j2 : Int) := by omega
  have hwj : IntKind.i64.wrap (j : Int) = (j : Int) := by unfold IntKind.wrap; simp [IntKind.bits, IntKind.signed]; omega
  have hwj2 : IntKind.i64.wrap (j2 : Int) = (j2 : Int) := by unfold IntKind.wrap; simp [IntKind.bits, IntKind.signed]; omega
  have hj0 : (0 : Int) ≤ (j : Int) := by omega
  have hjj2 : (j : Int) ≤ (j2 : Int) := by omega
  have hj2s : (j2 : Int) ≤ 1024 := by omega
  have hx0 : (0 : Int) ≤ (x : Int) := by omega
  have hxi : (x : Int) < 2 := by omega
  have hy0 : (0 : Int) ≤ (y : Int) := by omega
  have hyi : (y : Int) < 2 := by omega
  have hxy : (1 : Int) - (x : Int) = (y : Int) := by omega
  obtain ⟨D, hD⟩ : ∃ D, tellRow M PB x = D := ⟨_, rfl⟩
  rw [hD] at HTR
  rw [hD]
  have HDS := Lib.hid (show 2 = D.size by rw [← hD]; unfold tellRow; split <;> rfl)
  have HDA := Lib.hid (show D.all (·.oneCell') = true by rw [← hD]; unfold tellRow; split <;> exact row2_one _ _)
  have HDI := Lib.hid (show (Try.prog.info? 77).map (·.size) = some D.size by rw [← HDS.out]; exact info77)
  have hyne : y ≠ x := by omega
  obtain ⟨ov, hov⟩ : ∃ v, ((#[Value.string ⟨#[]⟩, Value.string ⟨#[]⟩] : Array Value).setIfInBounds x (.string M))[y]? = some v := by
    have : x = 0 ∨ x = 1 := by omega
    rcases this with rfl | rfl <;> (subst hy; exact ⟨_, rfl⟩)
  obtain ⟨ou, hou⟩ : ∃ v, (#[Value.string ⟨#[]⟩, Value.string ⟨#[]⟩] : Array Value)[x]? = some v := by
    have : x = 0 ∨ x = 1 := by omega
    rcases this with rfl | rfl <;> exact ⟨_, rfl⟩
  have HOV := Lib.hid hov
  have HOU := Lib.hid hou
  have HPS := Lib.hid hps
  clear hCM hx hj hj2 h0 h1 hM hy hD hqs hov hou hyne hx2
  go_enter Try.func53, Try.ntmps53
  go_upto_region 1 with (fail)
  have e0 : ∀ T, w.alloc (.cells #[.string ByteArray.empty, .string ByteArray.empty] T) = w.alloc (.cells #[.string ⟨#[]⟩, .string ⟨#[]⟩] T) := fun _ => rfl
  try rw [e0]
  clear e0
  have HT := Lib.hid (heap_alloc_new w (.cells #[.string ⟨#[]⟩, .string ⟨#[]⟩] 77))
  have HBW := Lib.hid (show Below w.heap.size w (w.alloc (.cells #[.string ⟨#[]⟩, .string ⟨#[]⟩] 77)) from (Below.refl _ _).alloc (Nat.le_refl _) _)
  have hW : w.heap.size < (w.alloc (.cells #[.string ⟨#[]⟩, .string ⟨#[]⟩] 77)).heap.size := by simp
  obtain ⟨g3, hg3⟩ : ∃ x, w.heap.size = x := ⟨_, rfl⟩
  rw [hg3] at HT HBW hW hgl0 hgl1
  rw [hg3]
  have H3 := Lib.hid hg3
  generalize w.alloc (.cells #[.string ⟨#[]⟩, .string ⟨#[]⟩] 77) = W at HT HBW hW ⊢
  have H0 := Lib.hid ((HBW.out.block g0 hgl0).trans H0'.out)
  have H1 := Lib.hid ((HBW.out.block g1 hgl1).trans H1'.out)
  have HL0 := Lib.hid (Nat.lt_trans hgl0 hW)
  have HL1 := Lib.hid (Nat.lt_trans hgl1 hW)
  have HWS := Lib.hid hW
  clear hg3 hW hgl0 hgl1
  go_wp2_with fail
  refine QT.wp_region_facts (by kernel_rfl) (fun w' => Below W.heap.size W w') (fun n v w' => (([.val (.string sig), .val (.int .i64 i), .val (.int .i64 j), .val (.int .i64 i), .val (.int .i64 j), .val (.int .i64 j2), .val (.string P), .val (.agg CM), .val (.int .i64 i), .val (.int .i64 x), .val (.string P), .val (.int .i64 x)] : List Fact).getD n (.val undef) : Fact).holds v w') (by kernel_rfl) (by kernel_rfl) (Below.refl _ _).drew (fun w1 w2 h1 hb => h1.trans (hb.mono h1.size)) (fun n v w1 w2 h hb => Fact.kept _ v w1 w2 h hb) (fun n o ho a wz hI hag hdep => ?_) (fun a wz hI hag hf => ?_)
  · have t0 : a.eval (.tmp 0) = .int .i64 i := hag.old 0 _ (by kernel_rfl) rfl
    have t1 : a.eval (.tmp 1) = .pointer (some ⟨g0, 0, none⟩) := hag.old 1 _ (by kernel_rfl) rfl
    have t2 : a.eval (.tmp 2) = .pointer (some ⟨g1, 0, none⟩) := hag.old 2 _ (by kernel_rfl) rfl
    have c0 : wz.cell? ⟨g0, 0, none⟩ = some (.string sig) := by rw [Lib.cell_of_heap ((hI.block g0 HL0.out).trans H0.out)]; rfl
    match n, ho with
    | 0, ho =>
      obtain rfl := (Option.some.inj ho).symm
      exact ⟨rfl, QT.wp_value (v := .string sig) (by simp [go_sem, QT.nf t1, c0]) ⟨_, rfl, rfl, Below.refl _ _⟩⟩
    | 1, ho =>
      obtain rfl := (Option.some.inj ho).symm
      exact ⟨rfl, QT.wp_value (BigFrame.run_move (.tmp 0) rfl wz) ⟨_, rfl, t0, Below.refl _ _⟩⟩
    | 2, ho =>
      obtain rfl := (Option.some.inj ho).symm
      have d8 : a.eval (.tmp 8) = .int .i64 i := hdep _ (Array.mem_of_getElem? (i := 0) rfl) rfl _ _ rfl rfl
      exact ⟨rfl, QT.wp_value (v := .int .i64 j) (by simp [go_sem, QT.nf d8, hji, hwj]) ⟨_, rfl, rfl, Below.refl _ _⟩⟩
    | 3, ho =>
      obtain rfl := (Option.some.inj ho).symm
      exact ⟨rfl, QT.wp_value (BigFrame.run_move (.tmp 0) rfl wz) ⟨_, rfl, t0, Below.refl _ _⟩⟩
    | 4, ho =>
      obtain rfl := (Option.some.inj ho).symm
      have d10 : a.eval (.tmp 10) = .int .i64 i := hdep _ (Array.mem_of_getElem? (i := 0) rfl) rfl _ _ rfl rfl
      exact ⟨rfl, QT.wp_value (v := .int .i64 j) (by simp [go_sem, QT.nf d10, hji, hwj]) ⟨_, rfl, rfl, Below.refl _ _⟩⟩
    | 5, ho =>
      obtain rfl := (Option.some.inj ho).symm
      have d11 : a.eval (.tmp 11) = .int .i64 j := hdep _ (Array.mem_of_getElem? (i := 0) rfl) rfl _ _ rfl rfl
      exact ⟨rfl, QT.wp_value (v := .int .i64 j2) (by simp [go_sem, QT.nf d11, hj2i, hwj2]) ⟨_, rfl, rfl, Below.refl _ _⟩⟩
    | 6, ho =>
      obtain rfl := (Option.some.inj ho).symm
      have d7 : a.eval (.tmp 7) = .string sig := hdep _ (Array.mem_of_getElem? (i := 0) rfl) rfl _ _ rfl rfl
      have d9 : a.eval (.tmp 9) = .int .i64 j := hdep _ (Array.mem_of_getElem? (i := 1) rfl) rfl _ _ rfl rfl
      have d12 : a.eval (.tmp 12) = .int .i64 j2 := hdep _ (Array.mem_of_getElem? (i := 2) rfl) rfl _ _ rfl rfl
      exact ⟨rfl, QT.wp_value (v := .string P) (by simp [go_sem, QT.nf d7, QT.nf d9, QT.nf d12, hsz, hj0, hjj2, hj2s, hP]) ⟨_, rfl, rfl, Below.refl _ _⟩⟩
    | 7, ho =>
      obtain rfl := (Option.some.inj ho).symm
      exact ⟨rfl, wp_load_row 23 (.tmp 2) rfl g1 t2 23 CM (0, 0) _ ((hI.block g1 HL1.out).trans H1.out) Try.underlying23 rfl HRM.out.info ⟨_, rfl, rfl, Below.refl _ _⟩⟩
    | 8, ho =>
      obtain rfl := (Option.some.inj ho).symm
      exact ⟨rfl, QT.wp_value (BigFrame.run_move (.tmp 0) rfl wz) ⟨_, rfl, t0, Below.refl _ _⟩⟩
    | 9, ho =>
      obtain rfl := (Option.some.inj ho).symm
      have d14 : a.eval (.tmp 14) = .agg CM := hdep _ (Array.mem_of_getElem? (i := 0) rfl) rfl _ _ rfl rfl
      have d15 : a.eval (.tmp 15) = .int .i64 i := hdep _ (Array.mem_of_getElem? (i := 1) rfl) rfl _ _ rfl rfl
      exact ⟨rfl, QT.wp_enter (f := 54) (args := #[.agg CM, .int .i64 i]) (by simp [go_sem, QT.nf d14, QT.nf d15]) (HBI.out wz) fun w' hb => ⟨_, rfl, rfl, hb⟩⟩
    | 10, ho =>
      obtain rfl := (Option.some.inj ho).symm
      have d13 : a.eval (.tmp 13) = .string P := hdep _ (Array.mem_of_getElem? (i := 0) rfl) rfl _ _ rfl rfl
      exact ⟨rfl, QT.wp_value (BigFrame.run_assign (.tmp 13) rfl wz) ⟨_, rfl, d13, Below.refl _ _⟩⟩
    | 11, ho =>
      obtain rfl := (Option.some.inj ho).symm
      have d16 : a.eval (.tmp 16) = .int .i64 x := hdep _ (Array.mem_of_getElem? (i := 0) rfl) rfl _ _ rfl rfl
      exact ⟨rfl, QT.wp_value (BigFrame.run_assign (.tmp 16) rfl wz) ⟨_, rfl, d16, Below.refl _ _⟩⟩
    | n + 12, ho => simp at ho
  · have f0 : a.eval (.tmp 7) = .string sig := hf 0 _ _ rfl rfl
    have f1 : a.eval (.tmp 8) = .int .i64 i := hf 1 _ _ rfl rfl
    have f2 : a.eval (.tmp 9) = .int .i64 j := hf 2 _ _ rfl rfl
    have f3 : a.eval (.tmp 10) = .int .i64 i := hf 3 _ _ rfl rfl
    have f4 : a.eval (.tmp 11) = .int .i64 j := hf 4 _ _ rfl rfl
    have f5 : a.eval (.tmp 12) = .int .i64 j2 := hf 5 _ _ rfl rfl
    have f6 : a.eval (.tmp 13) = .string P := hf 6 _ _ rfl rfl
    have f7 : a.eval (.tmp 14) = .agg CM := hf 7 _ _ rfl rfl
    have f8 : a.eval (.tmp 15) = .int .i64 i := hf 8 _ _ rfl rfl
    have f9 : a.eval (.tmp 16) = .int .i64 x := hf 9 _ _ rfl rfl
    have f10 : a.eval (.tmp 5) = .string P := hf 10 _ _ rfl rfl
    have f11 : a.eval (.tmp 6) = .int .i64 x := hf 11 _ _ rfl rfl
    have ha := hag.puts [(7, .string sig), (8, .int .i64 i), (9, .int .i64 j), (10, .int .i64 i), (11, .int .i64 j), (12, .int .i64 j2), (13, .string P), (14, .agg CM), (15, .int .i64 i), (16, .int .i64 x), (5, .string P), (6, .int .i64 x)] rfl (by simp) (by simp only [List.forall_mem_cons, List.not_mem_nil, false_implies, implies_true, and_true]; exact ⟨f0, f1, f2, f3, f4, f5, f6, f7, f8, f9, f10, f11⟩)
    subst ha
    clear hag hf f0 f1 f2 f3 f4 f5 f6 f7 f8 f9 f10 f11
    simp only [List.foldl_cons, List.foldl_nil, Act.put, List.setIfInBounds_toArray, List.set_cons_succ, List.set_cons_zero]
    have HI := Lib.hid hI
    clear hI
    have hP32 : (32 : Int) ≤ (P.size : Int) := by rw [HPS.out]; decide
    go_wp2_with fail
    refine (HMA.out _).mono ?_
    rintro e w3 ⟨rfl, hb3⟩
    have HB3 := Lib.hid (HI.out.trans (hb3.mono HI.out.size))
    clear hb3
    have HT3 := Lib.hid ((HB3.out.block g3 HWS.out).trans HT.out)
    have hc3 : w3.cell? ⟨g3, x, none⟩ = some ou := by rw [Lib.cell_of_heap HT3.out]; exact HOU.out
    have hf3 : w3.frozen? ⟨g3, x, none⟩ = false := Lib.frozen_of_heap HT3.out x
    have HSET := Lib.hid (setCell_eq_setRow w3 g3 x _ _ _ (.string M) HT3.out)
    have HT4 := Lib.hid (setRow_heap _ _ _ ((#[Value.string ⟨#[]⟩, Value.string ⟨#[]⟩] : Array Value).setIfInBounds x (.string M)) _ _ HT3.out)
    have HB4 := Lib.hid (below_setRow (HBW.out.trans (HB3.out.mono (Nat.le_of_lt HWS.out))) (Nat.le_refl _) ((#[Value.string ⟨#[]⟩, Value.string ⟨#[]⟩] : Array Value).setIfInBounds x (.string M)))
    go_upto_region 3 with (fail)
    rw [HSET.out]
    generalize w3.setRow g3 ((#[Value.string ⟨#[]⟩, Value.string ⟨#[]⟩] : Array Value).setIfInBounds x (.string M)) = w4 at HT4 HB4 ⊢
    have hc4 : w4.cell? ⟨g3, y, none⟩ = some ov := by rw [Lib.cell_of_heap HT4.out]; exact HOV.out
    have hf4 : w4.frozen? ⟨g3, y, none⟩ = false := Lib.frozen_of_heap HT4.out y
    have HSET4 := Lib.hid (setCell_eq_setRow w4 g3 y _ _ _ (.string PB) HT4.out)
    rw [HTR.out] at HSET4
    have HT5 := Lib.hid (setRow_heap _ _ _ D _ _ HT4.out)
    have HB5 := Lib.hid (below_setRow HB4.out (Nat.le_refl _) D)
    clear hc3 hf3
    have hps64 : P.size = 64 := HPS.out
    go_upto_region 4 with (fail)
    rw [HSET4.out]
    generalize w4.setRow g3 D = w5 at HT5 HB5 ⊢
    have HSELF := Lib.hid (setRow_self w5 g3 D 77 (0, 0) HT5.out)
    clear hc4 hf4
    go_wp2_with (first
      | (refine wpList_load_row rfl 77 (.tmp 4) rfl g3 rfl 77 D (0, 0) _ HT5.out Try.underlying77 rfl HDI.out ?_)
      | (refine wpList_store_row rfl 77 (.tmp 4) (.tmp 27) rfl g3 D rfl rfl 77 D HT5.out HDI.out rfl HDA.out ?_; rw [HSELF.out]))
    refine bodyPost_ret (results_cell_row (p := 4) (ty := 77) Try.results53 _ _ g3 77 D (0, 0) _ rfl HT5.out Try.underlying77 rfl HDI.out) rfl ⟨rfl, H3.out ▸ HB5.out⟩

end Go.Proofs.Ytlalipomphgcoaa.Once
