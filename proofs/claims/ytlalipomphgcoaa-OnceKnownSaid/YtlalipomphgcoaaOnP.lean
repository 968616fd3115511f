/- once: the code's public key. -/
import Derived.Test.YtlalipomphgcoaaOnK
namespace Go.Proofs.Ytlalipomphgcoaa.Once
open Go.RowKit Go.Proofs.Ytlalipomphgcoaa.Sha Go.Proofs.Ytlalipomphgcoaa.Tree

/-- Two texts in a row. -/
theorem row2_one (A B : ByteArray) : (#[Value.string A, Value.string B] : Array Value).all (·.oneCell') = true := by simp [Value.oneCell']

theorem wp_buildTo {P : Program} {o : Oper} {a : Act} {w : World} {K : Act → World → Prop} {Q : Exit → Act → World → Prop} (t : TypeId) (parts : Array (Nat × Operand)) (ho : o.op = .build t parts)
    (cells : Array Value) (hf : P.built t (parts.map fun (i, x) => (i, a.eval x)).toList = some cells) (h : K (a.put o.dst (.agg cells)) w) : o.wp P a w K Q := by
  refine wp_build t parts ho (by rw [hf]; rfl) ?_
  rw [hf]
  exact h

set_option maxRecDepth 100000 in
set_option maxHeartbeats 3200000 in
theorem code_pub1 (seed : List UInt8) (hs : seed.length = 32) (g : Nat) (i : Nat) (hi : i < 16) (w : World) (hg : w.heap[g]? = some (.cells (valsB seed).toArray 23 (0, 0))) :
    Calls Try.prog 56 #[.int .i64 i, .pointer (some ⟨g, 0, none⟩)] w fun e w' => e = .returned (.agg #[.string ⟨(pubF seed i).1.toArray⟩, .string ⟨(pubF seed i).2.toArray⟩]) ∧ Below w.heap.size w w' := by
  have HSE := Lib.hid (fun w => code_secrets seed hs i hi w)
  have HM0 := Lib.hid (fun w => code_mark (secF seed (2 * i)) rfl w)
  have HM1 := Lib.hid (fun w => code_mark (secF seed (2 * i + 1)) rfl w)
  have HRC := Lib.hid (row32 seed hs)
  obtain ⟨C, hC⟩ : ∃ C, (valsB seed).toArray = C := ⟨_, rfl⟩
  obtain ⟨S0, hS0⟩ : ∃ S : ByteArray, (⟨(secF seed (2 * i)).toArray⟩ : ByteArray) = S := ⟨_, rfl⟩
  obtain ⟨S1, hS1⟩ : ∃ S : ByteArray, (⟨(secF seed (2 * i + 1)).toArray⟩ : ByteArray) = S := ⟨_, rfl⟩
  obtain ⟨M0, hM0⟩ : ∃ S : ByteArray, (⟨(markF (secF seed (2 * i))).toArray⟩ : ByteArray) = S := ⟨_, rfl⟩
  obtain ⟨M1, hM1⟩ : ∃ S : ByteArray, (⟨(markF (secF seed (2 * i + 1))).toArray⟩ : ByteArray) = S := ⟨_, rfl⟩
  have e0 : (⟨(pubF seed i).1.toArray⟩ : ByteArray) = M0 := hM0
  have e1 : (⟨(pubF seed i).2.toArray⟩ : ByteArray) = M1 := hM1
  rw [hC] at HSE HRC hg
  rw [hS0, hS1] at HSE
  rw [hS0, hM0] at HM0
  rw [hS1, hM1] at HM1
  rw [e0, e1]
  have HG := Lib.hid hg
  have hgl : g < w.heap.size := (Array.getElem?_eq_some_iff.1 hg).1
  clear hC hS0 hS1 hM0 hM1 e0 e1 hg
  go_enter Try.func56, Try.ntmps56
  go_upto_region 1 with (fail)
  have HT := Lib.hid (heap_alloc_new w (.cells #[.string ⟨#[]⟩, .string ⟨#[]⟩] 77))
  have HBW := Lib.hid (show Below w.heap.size w (w.alloc (.cells #[.string ⟨#[]⟩, .string ⟨#[]⟩] 77)) from (Below.refl _ _).alloc (Nat.le_refl _) _)
  have hW : w.heap.size < (w.alloc (.cells #[.string ⟨#[]⟩, .string ⟨#[]⟩] 77)).heap.size := by simp
  have e0 : ∀ T, w.alloc (.cells #[.string ByteArray.empty, .string ByteArray.empty] T) = w.alloc (.cells #[.string ⟨#[]⟩, .string ⟨#[]⟩] T) := fun _ => rfl
  try rw [e0]
  clear e0
  obtain ⟨g3, hg3⟩ : ∃ x, w.heap.size = x := ⟨_, rfl⟩
  rw [hg3] at HT HBW hW hgl
  rw [hg3]
  have H3 := Lib.hid hg3
  generalize w.alloc (.cells #[.string ⟨#[]⟩, .string ⟨#[]⟩] 77) = W at HT HBW hW ⊢
  have HGW := Lib.hid ((HBW.out.block g hgl).trans HG.out)
  have HWS := Lib.hid hW
  clear hg3 hW
  go_wp2_with (refine wpList_load_row rfl 23 (.tmp 1) rfl g rfl 23 C (0, 0) _ HGW.out Try.underlying23 rfl HRC.out.info ?_)
  refine (HSE.out _).mono ?_
  rintro e w1 ⟨rfl, hb1⟩
  have HB1 := Lib.hid hb1
  clear hb1
  go_upto_region 2 with (refine wpList_store_row rfl 77 (.tmp 4) (.tmp 7) rfl w1.heap.size #[.string S0, .string S1] rfl rfl 77 _ (heap_alloc_new _ _) (by kernel_rfl) rfl (row2_one S0 S1) ?_; rw [World.setRow_alloc_new])
  have hb2 : Below w1.heap.size w1 (w1.alloc (.cells #[.string S0, .string S1] 77)) := (Below.refl _ _).alloc (Nat.le_refl _) _
  have HD := Lib.hid (heap_alloc_new w1 (.cells #[.string S0, .string S1] 77))
  have HB2 := Lib.hid (HB1.out.trans (hb2.mono HB1.out.size))
  obtain ⟨g4, hg4⟩ : ∃ x, w1.heap.size = x := ⟨_, rfl⟩
  rw [hg4] at HD
  rw [hg4]
  clear hb2 hg4
  generalize w1.alloc (.cells #[.string S0, .string S1] 77) = w2 at HD HB2 ⊢
  have HDL := Lib.hid ((Array.getElem?_eq_some_iff.1 HD.out).1)
  go_wp2_with fail
  refine QT.wp_region_facts_tail 7 (by kernel_rfl) (fun w' => Below w2.heap.size w2 w') (fun n v w' => (([.val (.pointer (some ⟨g4, 0, none⟩)), .val (.string S0), .val (.string M0), .val (.pointer (some ⟨g4, 1, none⟩)), .val (.string S1), .val (.string M1), .val (.agg #[.string M0, .string M1])] : List Fact).getD n (.val undef) : Fact).holds v w') (by kernel_rfl) (by kernel_rfl) (Below.refl _ _).drew (fun w1 w2 h1 hb => h1.trans (hb.mono h1.size)) (fun n v w1 w2 h hb => Fact.kept _ v w1 w2 h hb) (fun n o hn ho a wz hI hag hdep => ?_) (fun a wz hI hag hf => ?_)
  · have t4 : a.eval (.tmp 4) = .pointer (some ⟨g4, 0, none⟩) := hag.old 4 _ (by kernel_rfl) rfl
    have hz := (hI.block g4 HDL.out).trans HD.out
    have c0 : wz.cell? ⟨g4, 0, none⟩ = some (.string S0) := by rw [Lib.cell_of_heap hz]; rfl
    have c1 : wz.cell? ⟨g4, 1, none⟩ = some (.string S1) := by rw [Lib.cell_of_heap hz]; rfl
    match n, ho with
    | 0, ho =>
      obtain rfl := (Option.some.inj ho).symm
      exact ⟨rfl, QT.wp_value (v := .pointer (some ⟨g4, 0, none⟩)) (by simp [go_sem, QT.nf t4]) ⟨_, rfl, rfl, Below.refl _ _⟩⟩
    | 1, ho =>
      obtain rfl := (Option.some.inj ho).symm
      have d : a.eval (.tmp 8) = .pointer (some ⟨g4, 0, none⟩) := hdep _ (Array.mem_of_getElem? (i := 0) rfl) rfl _ _ rfl rfl
      exact ⟨rfl, QT.wp_value (v := .string S0) (by simp [go_sem, QT.nf d, c0]) ⟨_, rfl, rfl, Below.refl _ _⟩⟩
    | 2, ho =>
      obtain rfl := (Option.some.inj ho).symm
      have d : a.eval (.tmp 9) = .string S0 := hdep _ (Array.mem_of_getElem? (i := 0) rfl) rfl _ _ rfl rfl
      exact ⟨rfl, QT.wp_enter (f := 55) (args := #[.string S0]) (by simp [go_sem, QT.nf d]) (HM0.out wz) fun w' hb => ⟨_, rfl, rfl, hb⟩⟩
    | 3, ho =>
      obtain rfl := (Option.some.inj ho).symm
      exact ⟨rfl, QT.wp_value (v := .pointer (some ⟨g4, 1, none⟩)) (by simp [go_sem, QT.nf t4]) ⟨_, rfl, rfl, Below.refl _ _⟩⟩
    | 4, ho =>
      obtain rfl := (Option.some.inj ho).symm
      have d : a.eval (.tmp 11) = .pointer (some ⟨g4, 1, none⟩) := hdep _ (Array.mem_of_getElem? (i := 0) rfl) rfl _ _ rfl rfl
      exact ⟨rfl, QT.wp_value (v := .string S1) (by simp [go_sem, QT.nf d, c1]) ⟨_, rfl, rfl, Below.refl _ _⟩⟩
    | 5, ho =>
      obtain rfl := (Option.some.inj ho).symm
      have d : a.eval (.tmp 12) = .string S1 := hdep _ (Array.mem_of_getElem? (i := 0) rfl) rfl _ _ rfl rfl
      exact ⟨rfl, QT.wp_enter (f := 55) (args := #[.string S1]) (by simp [go_sem, QT.nf d]) (HM1.out wz) fun w' hb => ⟨_, rfl, rfl, hb⟩⟩
    | 6, ho =>
      obtain rfl := (Option.some.inj ho).symm
      have d : a.eval (.tmp 10) = .string M0 := hdep _ (Array.mem_of_getElem? (i := 0) rfl) rfl _ _ rfl rfl
      have d2 : a.eval (.tmp 13) = .string M1 := hdep _ (Array.mem_of_getElem? (i := 1) rfl) rfl _ _ rfl rfl
      exact ⟨rfl, wp_buildTo 77 #[(0, .tmp 10), (1, .tmp 13)] rfl #[.string M0, .string M1] (by simp only [List.map_toArray, List.map_cons, List.map_nil, d, d2]; rfl) ⟨_, rfl, rfl, Below.refl _ _⟩⟩
    | n + 7, ho => omega
  · have f0 : a.eval (.tmp 8) = .pointer (some ⟨g4, 0, none⟩) := hf 0 _ _ (by omega) rfl rfl
    have f1 : a.eval (.tmp 9) = .string S0 := hf 1 _ _ (by omega) rfl rfl
    have f2 : a.eval (.tmp 10) = .string M0 := hf 2 _ _ (by omega) rfl rfl
    have f3 : a.eval (.tmp 11) = .pointer (some ⟨g4, 1, none⟩) := hf 3 _ _ (by omega) rfl rfl
    have f4 : a.eval (.tmp 12) = .string S1 := hf 4 _ _ (by omega) rfl rfl
    have f5 : a.eval (.tmp 13) = .string M1 := hf 5 _ _ (by omega) rfl rfl
    have f6 : a.eval (.tmp 14) = .agg #[.string M0, .string M1] := hf 6 _ _ (by omega) rfl rfl
    have ha := hag.puts [(8, .pointer (some ⟨g4, 0, none⟩)), (9, .string S0), (10, .string M0), (11, .pointer (some ⟨g4, 1, none⟩)), (12, .string S1), (13, .string M1), (14, .agg #[.string M0, .string M1])] rfl (by simp [Act.put]) (by simp only [List.forall_mem_cons, List.not_mem_nil, false_implies, implies_true, and_true]; exact ⟨f0, f1, f2, f3, f4, f5, f6⟩)
    subst ha
    clear hag hf f0 f1 f2 f3 f4 f5 f6
    simp only [List.foldl_cons, List.foldl_nil, Act.put, List.drop_succ_cons, List.drop_zero, List.setIfInBounds_toArray, List.set_cons_succ, List.set_cons_zero]
    have h31 : g3 < w2.heap.size := Nat.lt_of_lt_of_le HWS.out HB2.out.size
    have HZ := Lib.hid ((hI.block g3 h31).trans ((HB2.out.block g3 HWS.out).trans HT.out))
    have HBZ := Lib.hid ((HBW.out.trans (HB2.out.mono (Nat.le_of_lt HWS.out))).trans (hI.mono (Nat.le_of_lt h31)))
    have HDI := Lib.hid (show (Try.prog.info? 77).map (·.size) = some (#[Value.string M0, Value.string M1] : Array Value).size from info77)
    obtain ⟨D, hD⟩ : ∃ D : Array Value, #[.string M0, .string M1] = D := ⟨_, rfl⟩
    have HDA := Lib.hid (row2_one M0 M1)
    have HDS := Lib.hid (show 2 = D.size by rw [← hD]; rfl)
    rw [hD] at HDI HDA
    rw [hD]
    have HDD := Lib.hid hD
    clear hD hI
    go_wp2_with (refine wpList_store_row rfl 77 (.tmp 3) (.tmp 14) rfl g3 D rfl rfl 77 _ HZ.out HDI.out HDS.out HDA.out ?_)
    refine bodyPost_ret (results_cell_row (p := 3) (ty := 77) Try.results56 _ _ g3 77 D (0, 0) _ rfl (setRow_heap _ _ _ _ _ _ HZ.out) Try.underlying77 rfl HDI.out) rfl ⟨by rw [HDD.out], H3.out ▸ below_setRow HBZ.out (Nat.le_refl _) _⟩

set_option maxRecDepth 100000 in
set_option maxHeartbeats 3200000 in
theorem code_Public (seed : List UInt8) (hs : seed.length = 32) (w : World) :
    Calls Try.prog 24 #[.agg (valsB seed).toArray] w fun e w' => e = .returned (.agg (valsB (pubK seed)).toArray) ∧ Below w.heap.size w w' := by
  have HK := Lib.hid (fun (g : Nat) (w : World) (hg : w.heap[g]? = some (.cells (valsB seed).toArray 23 (0, 0))) => code_keyOf_pub (pubF seed) (fun i _ => pubF_len seed i) g w fun i W hi hb => code_pub1 seed hs g i hi W ((hb.block g ((Array.getElem?_eq_some_iff.1 hg).1)).trans hg))
  have HRC := Lib.hid (row32 seed hs)
  obtain ⟨C, hC⟩ : ∃ C, (valsB seed).toArray = C := ⟨_, rfl⟩
  rw [hC] at HRC
  simp only [hC] at HK
  rw [hC]
  clear hC
  go_enter Try.func24, Try.ntmps24
  go_upto_region 1 with (fail)
  rw [zero32]
  obtain ⟨Z, hZ⟩ : ∃ Z, (List.replicate 32 (Value.int .u8 0)).toArray = Z := ⟨_, rfl⟩
  have HZS := Lib.hid (show Z.size = 32 by rw [← hZ]; rfl)
  rw [hZ]
  clear hZ
  have hs0 : ((w.alloc (.cells C 23)).alloc (.cells Z 23)).heap.size = w.heap.size + 2 := by simp
  have HC := Lib.hid (heap_alloc2_old w (.cells C 23) (.cells Z 23))
  have HZ := Lib.hid (heap_alloc2_new w (.cells C 23) (.cells Z 23))
  have HBW := Lib.hid (show Below w.heap.size w ((w.alloc (.cells C 23)).alloc (.cells Z 23)) from ((Below.refl _ _).alloc (Nat.le_refl _) _).alloc (by simp) _)
  have HS0 := Lib.hid hs0
  clear hs0
  generalize (w.alloc (.cells C 23)).alloc (.cells Z 23) = W at HC HZ HBW HS0 ⊢
  have hW : w.heap.size + 1 < W.heap.size := by rw [HS0.out]; omega
  have HKC := Lib.hid (HK.out _ W HC.out)
  have hmf : ∀ (fn : Fn) (first cap : Array Value) (w : World), (Instr.makeFunc fn first cap).run Try.prog w = .ok (.func fn first cap) w := fun _ _ _ _ => rfl
  go_wp2_with fail
  refine HKC.out.mono ?_
  rintro e w4 ⟨rfl, hb⟩
  have HZ2 := Lib.hid ((hb.block _ hW).trans HZ.out)
  have HB2 := Lib.hid (HBW.out.trans (hb.mono (by omega)))
  clear hb
  rw [show onceF (keyA (pubF seed) 16) = pubK seed from rfl]
  obtain ⟨D, hD⟩ : ∃ D, (valsB (pubK seed)).toArray = D := ⟨_, rfl⟩
  have HD := Lib.hid hD
  have HRD := Lib.hid (show Row32 D by rw [← hD]; exact row32 _ rfl)
  have HZD := Lib.hid (show Z.size = D.size by rw [HZS.out, HRD.out.size])
  rw [hD]
  clear hD
  go_wp2_with (refine wpList_store_row rfl 23 (.tmp 2) (.tmp 4) rfl (w.heap.size + 1) D rfl rfl 23 Z HZ2.out HRD.out.info HZD.out HRD.out.one ?_)
  refine bodyPost_ret (results_cell_row (p := 2) (ty := 23) Try.results24 _ _ (w.heap.size + 1) 23 D (0, 0) _ rfl (setRow_heap _ _ _ _ _ _ HZ2.out) Try.underlying23 rfl HRD.out.info) rfl ⟨by rw [HD.out], below_setRow HB2.out (by omega) _⟩

end Go.Proofs.Ytlalipomphgcoaa.Once
