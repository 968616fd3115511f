/- once: OnceAlike. -/
import Derived.Test.YtlalipomphgcoaaOnJ
namespace Go.Proofs.Ytlalipomphgcoaa.Once
open Go.RowKit Go.Proofs.Ytlalipomphgcoaa.Sha Go.Proofs.Ytlalipomphgcoaa.Tree

/-- A signature's piece, and its halves. -/
theorem piece_list (S : ByteArray) (seed m : List UInt8) (k : Nat) (hk : k < 16) (h : S.data.toList = signK seed m) : (S.extract (64 * k) (64 * k + 64)).data.toList = (signF seed m k).1 ++ (signF seed m k).2 := by
  rw [Lib.extract_data, h, show 64 * k + 64 - 64 * k = 64 by omega]
  exact keyA_first _ (signF_len seed m) 16 k hk
theorem piece_first (S : ByteArray) (seed m : List UInt8) (k : Nat) (hk : k < 16) (h : S.data.toList = signK seed m) : ((S.extract (64 * k) (64 * k + 64)).extract 0 32).data.toList = (signF seed m k).1 := by
  rw [half_first, h]
  exact halfA_key _ (signF_len seed m) 16 k hk
theorem piece_last (S : ByteArray) (seed m : List UInt8) (k : Nat) (hk : k < 16) (h : S.data.toList = signK seed m) : ((S.extract (64 * k) (64 * k + 64)).extract 32 64).data.toList = (signF seed m k).2 := by
  rw [half_last, h]
  exact halfB_key _ (signF_len seed m) 16 k hk
theorem bytes_ext (a b : ByteArray) (h : a.data.toList = b.data.toList) : a = b := by
  rw [← mk_data a, ← mk_data b, h]

set_option maxRecDepth 100000 in
set_option maxHeartbeats 6400000 in
theorem law_OnceAlike (a0 a1 a2 : List UInt8) (w0 : a0.length = 32) (w1 : a1.length = 32) (w2 : a2.length = 32) (w : World) : Calls Try.prog 9 #[.agg (valsB a0).toArray, .agg (valsB a1).toArray, .agg (valsB a2).toArray] w fun e w' => e = .returned (.bool true) ∧ Below w.heap.size w w' := by
  have HSA := Lib.hid (fun w => code_Sign a0 a1 w0 w1 w)
  have HSB := Lib.hid (fun w => code_Sign a0 a2 w0 w2 w)
  have hszS := signK_size a0 a1
  have hszT := signK_size a0 a2
  have hlS := mk_list (signK a0 a1)
  have hlT := mk_list (signK a0 a2)
  have HRS := Lib.hid (row32 a0 w0)
  have HRA := Lib.hid (row32 a1 w1)
  have HRB := Lib.hid (row32 a2 w2)
  have HBA := Lib.hid (fun i hi => bitF_byte a1 i hi)
  have HBB := Lib.hid (fun i hi => bitF_byte a2 i hi)
  have HVA := Lib.hid (fun q (hq : q < 32) => valsB_get a1 q (a1.getD q 0) (by
    rw [List.getD_eq_getElem?_getD, List.getElem?_eq_getElem (by omega)]
    rfl))
  have HVB := Lib.hid (fun q (hq : q < 32) => valsB_get a2 q (a2.getD q 0) (by
    rw [List.getD_eq_getElem?_getD, List.getElem?_eq_getElem (by omega)]
    rfl))
  obtain ⟨S, hS⟩ : ∃ S : ByteArray, (⟨(signK a0 a1).toArray⟩ : ByteArray) = S := ⟨_, rfl⟩
  obtain ⟨T, hT⟩ : ∃ S : ByteArray, (⟨(signK a0 a2).toArray⟩ : ByteArray) = S := ⟨_, rfl⟩
  obtain ⟨CS, hCS⟩ : ∃ C, (valsB a0).toArray = C := ⟨_, rfl⟩
  obtain ⟨CA, hCA⟩ : ∃ C, (valsB a1).toArray = C := ⟨_, rfl⟩
  obtain ⟨CB, hCB⟩ : ∃ C, (valsB a2).toArray = C := ⟨_, rfl⟩
  rw [hCS, hCA, hS] at HSA
  rw [hCS, hCB, hT] at HSB
  rw [hS] at hszS hlS
  rw [hT] at hszT hlT
  rw [hCS] at HRS
  rw [hCA] at HRA HVA
  rw [hCB] at HRB HVB
  rw [hCS, hCA, hCB]
  have HLS := Lib.hid hlS
  have HLT := Lib.hid hlT
  have hszSi : (S.size : Int) = 1024 := by omega
  have hszTi : (T.size : Int) = 1024 := by omega
  clear hCS hCA hCB hS hT hlS hlT w0 w1 w2
  go_enter Try.func9, Try.ntmps9
  go_upto_region 1 with (fail)
  have H0 := Lib.hid (three_old w (.cells CS 23) (.cells CA 23) (.cells CB 23))
  have H1 := Lib.hid (three_mid w (.cells CS 23) (.cells CA 23) (.cells CB 23))
  have H2 := Lib.hid (three_new w (.cells CS 23) (.cells CA 23) (.cells CB 23))
  have HBW := Lib.hid (three_below w (.cells CS 23) (.cells CA 23) (.cells CB 23))
  generalize ((w.alloc (.cells CS 23)).alloc (.cells CA 23)).alloc (.cells CB 23) = W at H0 H1 H2 HBW ⊢
  obtain ⟨g0, hg0⟩ : ∃ x, w.heap.size = x := ⟨_, rfl⟩
  obtain ⟨g1, hg1⟩ : ∃ x, g0 + 1 = x := ⟨_, rfl⟩
  obtain ⟨g2, hg2⟩ : ∃ x, g1 + 1 = x := ⟨_, rfl⟩
  rw [hg0] at H0 H1 H2 HBW
  rw [hg1] at H1
  rw [show g0 + 2 = g2 by omega] at H2
  rw [hg0, hg1, hg2]
  have HG := Lib.hid hg0
  have HL0 := Lib.hid ((Array.getElem?_eq_some_iff.1 H0.out).1)
  have HL1 := Lib.hid ((Array.getElem?_eq_some_iff.1 H1.out).1)
  have HL2 := Lib.hid ((Array.getElem?_eq_some_iff.1 H2.out).1)
  clear hg0 hg1 hg2
  refine QT.wp_region_facts (by kernel_rfl) (fun w' => Below W.heap.size W w') (fun n v w' => (([.val (.agg CS), .val (.agg CA), .val (.string S), .val (.agg CS), .val (.agg CB), .val (.string T), .val (.string S), .val (.string T)] : List Fact).getD n (.val undef) : Fact).holds v w') (by kernel_rfl) (by kernel_rfl) (Below.refl _ _).drew (fun w1 w2 h1 hb => h1.trans (hb.mono h1.size)) (fun n v w1 w2 h hb => Fact.kept _ v w1 w2 h hb) (fun n o ho a wz hI hag hdep => ?_) (fun a wz hI hag hf => ?_)
  · have t3 : a.eval (.tmp 3) = .pointer (some ⟨g0, 0, none⟩) := hag.old 3 _ (by kernel_rfl) rfl
    have t4 : a.eval (.tmp 4) = .pointer (some ⟨g1, 0, none⟩) := hag.old 4 _ (by kernel_rfl) rfl
    have t5 : a.eval (.tmp 5) = .pointer (some ⟨g2, 0, none⟩) := hag.old 5 _ (by kernel_rfl) rfl
    match n, ho with
    | 0, ho =>
      obtain rfl := (Option.some.inj ho).symm
      exact ⟨rfl, wp_load_row 23 (.tmp 3) rfl g0 t3 23 CS (0, 0) _ ((hI.block g0 HL0.out).trans H0.out) Try.underlying23 rfl HRS.out.info ⟨_, rfl, rfl, Below.refl _ _⟩⟩
    | 1, ho =>
      obtain rfl := (Option.some.inj ho).symm
      exact ⟨rfl, wp_load_row 23 (.tmp 4) rfl g1 t4 23 CA (0, 0) _ ((hI.block g1 HL1.out).trans H1.out) Try.underlying23 rfl HRA.out.info ⟨_, rfl, rfl, Below.refl _ _⟩⟩
    | 2, ho =>
      obtain rfl := (Option.some.inj ho).symm
      have d12 : a.eval (.tmp 12) = .agg CS := hdep _ (Array.mem_of_getElem? (i := 0) rfl) rfl _ _ rfl rfl
      have d13 : a.eval (.tmp 13) = .agg CA := hdep _ (Array.mem_of_getElem? (i := 1) rfl) rfl _ _ rfl rfl
      exact ⟨rfl, QT.wp_enter (f := 26) (args := #[.agg CS, .agg CA]) (by simp [go_sem, QT.nf d12, QT.nf d13]) (HSA.out wz) fun w' hb => ⟨_, rfl, rfl, hb⟩⟩
    | 3, ho =>
      obtain rfl := (Option.some.inj ho).symm
      exact ⟨rfl, wp_load_row 23 (.tmp 3) rfl g0 t3 23 CS (0, 0) _ ((hI.block g0 HL0.out).trans H0.out) Try.underlying23 rfl HRS.out.info ⟨_, rfl, rfl, Below.refl _ _⟩⟩
    | 4, ho =>
      obtain rfl := (Option.some.inj ho).symm
      exact ⟨rfl, wp_load_row 23 (.tmp 5) rfl g2 t5 23 CB (0, 0) _ ((hI.block g2 HL2.out).trans H2.out) Try.underlying23 rfl HRB.out.info ⟨_, rfl, rfl, Below.refl _ _⟩⟩
    | 5, ho =>
      obtain rfl := (Option.some.inj ho).symm
      have d15 : a.eval (.tmp 15) = .agg CS := hdep _ (Array.mem_of_getElem? (i := 0) rfl) rfl _ _ rfl rfl
      have d16 : a.eval (.tmp 16) = .agg CB := hdep _ (Array.mem_of_getElem? (i := 1) rfl) rfl _ _ rfl rfl
      exact ⟨rfl, QT.wp_enter (f := 26) (args := #[.agg CS, .agg CB]) (by simp [go_sem, QT.nf d15, QT.nf d16]) (HSB.out wz) fun w' hb => ⟨_, rfl, rfl, hb⟩⟩
    | 6, ho =>
      obtain rfl := (Option.some.inj ho).symm
      have d14 : a.eval (.tmp 14) = .string S := hdep _ (Array.mem_of_getElem? (i := 0) rfl) rfl _ _ rfl rfl
      exact ⟨rfl, QT.wp_value (BigFrame.run_assign (.tmp 14) rfl wz) ⟨_, rfl, d14, Below.refl _ _⟩⟩
    | 7, ho =>
      obtain rfl := (Option.some.inj ho).symm
      have d17 : a.eval (.tmp 17) = .string T := hdep _ (Array.mem_of_getElem? (i := 0) rfl) rfl _ _ rfl rfl
      exact ⟨rfl, QT.wp_value (BigFrame.run_assign (.tmp 17) rfl wz) ⟨_, rfl, d17, Below.refl _ _⟩⟩
    | n + 8, ho => simp at ho
  · have f0 : a.eval (.tmp 12) = .agg CS := hf 0 _ _ rfl rfl
    have f1 : a.eval (.tmp 13) = .agg CA := hf 1 _ _ rfl rfl
    have f2 : a.eval (.tmp 14) = .string S := hf 2 _ _ rfl rfl
    have f3 : a.eval (.tmp 15) = .agg CS := hf 3 _ _ rfl rfl
    have f4 : a.eval (.tmp 16) = .agg CB := hf 4 _ _ rfl rfl
    have f5 : a.eval (.tmp 17) = .string T := hf 5 _ _ rfl rfl
    have f6 : a.eval (.tmp 7) = .string S := hf 6 _ _ rfl rfl
    have f7 : a.eval (.tmp 8) = .string T := hf 7 _ _ rfl rfl
    have ha := hag.puts [(12, .agg CS), (13, .agg CA), (14, .string S), (15, .agg CS), (16, .agg CB), (17, .string T), (7, .string S), (8, .string T)] rfl (by simp) (by simp only [List.forall_mem_cons, List.not_mem_nil, false_implies, implies_true, and_true]; exact ⟨f0, f1, f2, f3, f4, f5, f6, f7⟩)
    subst ha
    clear hag hf f0 f1 f2 f3 f4 f5 f6 f7
    simp only [List.foldl_cons, List.foldl_nil, Act.put, List.setIfInBounds_toArray, List.set_cons_succ, List.set_cons_zero]
    have HI := Lib.hid hI
    clear hI
    go_wp2_with fail
    go_loopw [26] (fun iv wr => ∃ k : Nat, k ≤ 16 ∧ iv = .int .i64 k ∧ Below W.heap.size W wr) (fun iv _ => 16 - (intOf iv).toNat)
    case atStart => exact ⟨0, by omega, rfl, HI.out⟩
    case round =>
    obtain ⟨k, hk, rfl, hbel⟩ := hrel
    have HBEL := Lib.hid hbel
    clear hbel
    by_cases hlt : k < 16
    · have hk16 : (k : Int) < 16 := by omega
      have hpl := piece_list S a0 a1 k hlt HLS.out
      have hql := piece_list T a0 a2 k hlt HLT.out
      have hpf := piece_first S a0 a1 k hlt HLS.out
      have hqf := piece_first T a0 a2 k hlt HLT.out
      have hpb := piece_last S a0 a1 k hlt HLS.out
      have hqb := piece_last T a0 a2 k hlt HLT.out
      have hps : (S.extract (64 * k) (64 * k + 64)).size = 64 := by rw [extract_size _ _ _ (by omega) (by omega)]; omega
      have hqs : (T.extract (64 * k) (64 * k + 64)).size = 64 := by rw [extract_size _ _ _ (by omega) (by omega)]; omega
      have hba := HBA.out k hlt
      have hbb := HBB.out k hlt
      have hva := HVA.out (k / 8) (by omega)
      have hvb := HVB.out (k / 8) (by omega)
      have ha8 := (a1.getD (k / 8) 0).toNat_lt
      have hb8 := (a2.getD (k / 8) 0).toNat_lt
      obtain ⟨q, hq⟩ : ∃ q, k / 8 = q := ⟨_, rfl⟩
      obtain ⟨r, hr⟩ : ∃ r, k % 8 = r := ⟨_, rfl⟩
      obtain ⟨s, hs⟩ : ∃ s, 7 - r = s := ⟨_, rfl⟩
      rw [hq, hr, hs] at hba hbb
      rw [hq] at hva hvb ha8 hb8
      obtain ⟨xa, ha⟩ : ∃ x, (a1.getD q 0).toNat = x := ⟨_, rfl⟩
      obtain ⟨xb, hb⟩ : ∃ x, (a2.getD q 0).toNat = x := ⟨_, rfl⟩
      rw [ha] at hba hva ha8
      rw [hb] at hbb hvb hb8
      have ha256 : xa < 256 := ha8
      have hb256 : xb < 256 := hb8
      have hxb := xor_bit xa xb s
      rw [← hba, ← hbb] at hxb
      obtain ⟨c, hc⟩ : ∃ c, xa ^^^ xb = c := ⟨_, rfl⟩
      have hc256 : c < 256 := by rw [← hc]; exact Nat.xor_lt_two_pow (n := 8) ha256 hb256
      have hxor : bits BinOp.xor IntKind.u8 (xa : Int) (xb : Int) = (c : Int) := by rw [u8_xor_nat xa xb ha256 hb256, hc]
      rw [hc] at hxb
      obtain ⟨d, hd⟩ : ∃ d, c / 2 ^ s = d := ⟨_, rfl⟩
      have hd256 : d < 256 := by rw [← hd]; exact Nat.lt_of_le_of_lt (Nat.div_le_self _ _) hc256
      rw [hd] at hxb
      have hshr : (c : Int) / 2 ^ s = (d : Int) := by rw [← hd]; simp
      obtain ⟨x, hx⟩ : ∃ x, d % 2 = x := ⟨_, rfl⟩
      have hand : bits BinOp.and IntKind.u8 (d : Int) 1 = (x : Int) := by
        have h3 := u8_and_nat d 1 hd256 (by omega)
        rw [nat_mask1, hx] at h3
        exact h3
      rw [hx] at hxb
      obtain ⟨B, hB⟩ : ∃ B, ((x : Int) == 0) = B := ⟨_, rfl⟩
      have hbl1 := bitF_lt a1 k
      have hbl2 := bitF_lt a2 k
      have hsame := alike_same a0 a1 a2 k
      have hother := alike_other a0 a1 a2 k
      have hqi : (k : Int) / 8 = (q : Int) := by omega
      have hri : (k : Int) % 8 = (r : Int) := by omega
      have hrt : (k : Int).tmod 8 = (r : Int) := by rw [Int.tmod_eq_emod_of_nonneg (by omega)]; exact hri
      have hwq : IntKind.i64.wrap (q : Int) = (q : Int) := by unfold IntKind.wrap; simp [IntKind.bits, IntKind.signed]; omega
      have hsi : (7 : Int) - (r : Int) = (s : Int) := by omega
      have hws : IntKind.i64.wrap (s : Int) = (s : Int) := by unfold IntKind.wrap; simp [IntKind.bits, IntKind.signed]; omega
      have hw8 : IntKind.u8.wrap (d : Int) = (d : Int) := by unfold IntKind.wrap; simp [IntKind.bits, IntKind.signed]; omega
      have hq0 : (0 : Int) ≤ (q : Int) := by omega
      have hq32 : (q : Int) < 32 := by omega
      have hs0 : (0 : Int) ≤ (s : Int) := by omega
      obtain ⟨j, hj⟩ : ∃ j, 64 * k = j := ⟨_, rfl⟩
      obtain ⟨j2, hj2⟩ : ∃ x, j + 64 = x := ⟨_, rfl⟩
      rw [hj, hj2] at hpl hql hpf hqf hpb hqb hps hqs
      have hji : (64 : Int) * (k : Int) = (j : Int) := by omega
      have hj2i : (j : Int) + 64 = (j2 : Int) := by omega
      have hwj : IntKind.i64.wrap (j : Int) = (j : Int) := by unfold IntKind.wrap; simp [IntKind.bits, IntKind.signed]; omega
      have hwj2 : IntKind.i64.wrap (j2 : Int) = (j2 : Int) := by unfold IntKind.wrap; simp [IntKind.bits, IntKind.signed]; omega
      have hj0 : (0 : Int) ≤ (j : Int) := by omega
      have hjj2 : (j : Int) ≤ (j2 : Int) := by omega
      have hj2s : (j2 : Int) ≤ 1024 := by omega
      obtain ⟨PX, hPX⟩ : ∃ P, S.extract j j2 = P := ⟨_, rfl⟩
      obtain ⟨PY, hPY⟩ : ∃ P, T.extract j j2 = P := ⟨_, rfl⟩
      rw [hPX] at hpl hpf hpb hps
      rw [hPY] at hql hqf hqb hqs
      have HCA := Lib.hid hva
      have HCB := Lib.hid hvb
      have HPL := Lib.hid (And.intro hpl hql)
      have HPF := Lib.hid (And.intro hpf hqf)
      have HPB := Lib.hid (And.intro hpb hqb)
      have HSM := Lib.hid hsame
      have HOT := Lib.hid hother
      have HXB := Lib.hid (And.intro hxb (And.intro hbl1 hbl2))
      have HPS := Lib.hid (And.intro hps hqs)
      have HBX := Lib.hid hB
      clear hq hr hs hba hbb hva hvb ha hb hc hd hx hj hj2 hpl hql hpf hqf hpb hqb hsame hother hxb hbl1 hbl2 hps hqs ha8 hb8
      go_wp2_with fail
      refine QT.wp_region_facts (by kernel_rfl) (fun w' => Below wr.heap.size wr w') (fun n v w' => (([.val (.string S), .val (.int .i64 k), .val (.int .i64 j), .val (.int .i64 k), .val (.int .i64 j), .val (.int .i64 j2), .val (.string PX), .val (.string T), .val (.int .i64 k), .val (.int .i64 j), .val (.int .i64 k), .val (.int .i64 j), .val (.int .i64 j2), .val (.string PY), .val (.string PX), .val (.string PY)] : List Fact).getD n (.val undef) : Fact).holds v w') (by kernel_rfl) (by kernel_rfl) (Below.refl _ _).drew (fun w1 w2 h1 hb => h1.trans (hb.mono h1.size)) (fun n v w1 w2 h hb => Fact.kept _ v w1 w2 h hb) (fun n o ho a wz hI hag hdep => ?_) (fun a wz hI hag hf => ?_)
      · have t7 : a.eval (.tmp 7) = .string S := hag.old 7 _ (by kernel_rfl) rfl
        have t8 : a.eval (.tmp 8) = .string T := hag.old 8 _ (by kernel_rfl) rfl
        have t9 : a.eval (.tmp 9) = .int .i64 k := hag.old 9 _ (by kernel_rfl) rfl
        match n, ho with
        | 0, ho =>
          obtain rfl := (Option.some.inj ho).symm
          exact ⟨rfl, QT.wp_value (BigFrame.run_move (.tmp 7) rfl wz) ⟨_, rfl, t7, Below.refl _ _⟩⟩
        | 1, ho =>
          obtain rfl := (Option.some.inj ho).symm
          exact ⟨rfl, QT.wp_value (BigFrame.run_move (.tmp 9) rfl wz) ⟨_, rfl, t9, Below.refl _ _⟩⟩
        | 2, ho =>
          obtain rfl := (Option.some.inj ho).symm
          have d30 : a.eval (.tmp 30) = .int .i64 k := hdep _ (Array.mem_of_getElem? (i := 0) rfl) rfl _ _ rfl rfl
          exact ⟨rfl, QT.wp_value (v := .int .i64 j) (by simp [go_sem, QT.nf d30, hji, hwj]) ⟨_, rfl, rfl, Below.refl _ _⟩⟩
        | 3, ho =>
          obtain rfl := (Option.some.inj ho).symm
          exact ⟨rfl, QT.wp_value (BigFrame.run_move (.tmp 9) rfl wz) ⟨_, rfl, t9, Below.refl _ _⟩⟩
        | 4, ho =>
          obtain rfl := (Option.some.inj ho).symm
          have d32 : a.eval (.tmp 32) = .int .i64 k := hdep _ (Array.mem_of_getElem? (i := 0) rfl) rfl _ _ rfl rfl
          exact ⟨rfl, QT.wp_value (v := .int .i64 j) (by simp [go_sem, QT.nf d32, hji, hwj]) ⟨_, rfl, rfl, Below.refl _ _⟩⟩
        | 5, ho =>
          obtain rfl := (Option.some.inj ho).symm
          have d33 : a.eval (.tmp 33) = .int .i64 j := hdep _ (Array.mem_of_getElem? (i := 0) rfl) rfl _ _ rfl rfl
          exact ⟨rfl, QT.wp_value (v := .int .i64 j2) (by simp [go_sem, QT.nf d33, hj2i, hwj2]) ⟨_, rfl, rfl, Below.refl _ _⟩⟩
        | 6, ho =>
          obtain rfl := (Option.some.inj ho).symm
          have d29 : a.eval (.tmp 29) = .string S := hdep _ (Array.mem_of_getElem? (i := 0) rfl) rfl _ _ rfl rfl
          have d31 : a.eval (.tmp 31) = .int .i64 j := hdep _ (Array.mem_of_getElem? (i := 1) rfl) rfl _ _ rfl rfl
          have d34 : a.eval (.tmp 34) = .int .i64 j2 := hdep _ (Array.mem_of_getElem? (i := 2) rfl) rfl _ _ rfl rfl
          exact ⟨rfl, QT.wp_value (v := .string PX) (by simp [go_sem, QT.nf d29, QT.nf d31, QT.nf d34, hszS, hj0, hjj2, hj2s, hPX]) ⟨_, rfl, rfl, Below.refl _ _⟩⟩
        | 7, ho =>
          obtain rfl := (Option.some.inj ho).symm
          exact ⟨rfl, QT.wp_value (BigFrame.run_move (.tmp 8) rfl wz) ⟨_, rfl, t8, Below.refl _ _⟩⟩
        | 8, ho =>
          obtain rfl := (Option.some.inj ho).symm
          exact ⟨rfl, QT.wp_value (BigFrame.run_move (.tmp 9) rfl wz) ⟨_, rfl, t9, Below.refl _ _⟩⟩
        | 9, ho =>
          obtain rfl := (Option.some.inj ho).symm
          have d37 : a.eval (.tmp 37) = .int .i64 k := hdep _ (Array.mem_of_getElem? (i := 0) rfl) rfl _ _ rfl rfl
          exact ⟨rfl, QT.wp_value (v := .int .i64 j) (by simp [go_sem, QT.nf d37, hji, hwj]) ⟨_, rfl, rfl, Below.refl _ _⟩⟩
        | 10, ho =>
          obtain rfl := (Option.some.inj ho).symm
          exact ⟨rfl, QT.wp_value (BigFrame.run_move (.tmp 9) rfl wz) ⟨_, rfl, t9, Below.refl _ _⟩⟩
        | 11, ho =>
          obtain rfl := (Option.some.inj ho).symm
          have d39 : a.eval (.tmp 39) = .int .i64 k := hdep _ (Array.mem_of_getElem? (i := 0) rfl) rfl _ _ rfl rfl
          exact ⟨rfl, QT.wp_value (v := .int .i64 j) (by simp [go_sem, QT.nf d39, hji, hwj]) ⟨_, rfl, rfl, Below.refl _ _⟩⟩
        | 12, ho =>
          obtain rfl := (Option.some.inj ho).symm
          have d40 : a.eval (.tmp 40) = .int .i64 j := hdep _ (Array.mem_of_getElem? (i := 0) rfl) rfl _ _ rfl rfl
          exact ⟨rfl, QT.wp_value (v := .int .i64 j2) (by simp [go_sem, QT.nf d40, hj2i, hwj2]) ⟨_, rfl, rfl, Below.refl _ _⟩⟩
        | 13, ho =>
          obtain rfl := (Option.some.inj ho).symm
          have d36 : a.eval (.tmp 36) = .string T := hdep _ (Array.mem_of_getElem? (i := 0) rfl) rfl _ _ rfl rfl
          have d38 : a.eval (.tmp 38) = .int .i64 j := hdep _ (Array.mem_of_getElem? (i := 1) rfl) rfl _ _ rfl rfl
          have d41 : a.eval (.tmp 41) = .int .i64 j2 := hdep _ (Array.mem_of_getElem? (i := 2) rfl) rfl _ _ rfl rfl
          exact ⟨rfl, QT.wp_value (v := .string PY) (by simp [go_sem, QT.nf d36, QT.nf d38, QT.nf d41, hszT, hj0, hjj2, hj2s, hPY]) ⟨_, rfl, rfl, Below.refl _ _⟩⟩
        | 14, ho =>
          obtain rfl := (Option.some.inj ho).symm
          have d35 : a.eval (.tmp 35) = .string PX := hdep _ (Array.mem_of_getElem? (i := 0) rfl) rfl _ _ rfl rfl
          exact ⟨rfl, QT.wp_value (BigFrame.run_assign (.tmp 35) rfl wz) ⟨_, rfl, d35, Below.refl _ _⟩⟩
        | 15, ho =>
          obtain rfl := (Option.some.inj ho).symm
          have d42 : a.eval (.tmp 42) = .string PY := hdep _ (Array.mem_of_getElem? (i := 0) rfl) rfl _ _ rfl rfl
          exact ⟨rfl, QT.wp_value (BigFrame.run_assign (.tmp 42) rfl wz) ⟨_, rfl, d42, Below.refl _ _⟩⟩
        | n + 16, ho => simp at ho
      · have f0 : a.eval (.tmp 29) = .string S := hf 0 _ _ rfl rfl
        have f1 : a.eval (.tmp 30) = .int .i64 k := hf 1 _ _ rfl rfl
        have f2 : a.eval (.tmp 31) = .int .i64 j := hf 2 _ _ rfl rfl
        have f3 : a.eval (.tmp 32) = .int .i64 k := hf 3 _ _ rfl rfl
        have f4 : a.eval (.tmp 33) = .int .i64 j := hf 4 _ _ rfl rfl
        have f5 : a.eval (.tmp 34) = .int .i64 j2 := hf 5 _ _ rfl rfl
        have f6 : a.eval (.tmp 35) = .string PX := hf 6 _ _ rfl rfl
        have f7 : a.eval (.tmp 36) = .string T := hf 7 _ _ rfl rfl
        have f8 : a.eval (.tmp 37) = .int .i64 k := hf 8 _ _ rfl rfl
        have f9 : a.eval (.tmp 38) = .int .i64 j := hf 9 _ _ rfl rfl
        have f10 : a.eval (.tmp 39) = .int .i64 k := hf 10 _ _ rfl rfl
        have f11 : a.eval (.tmp 40) = .int .i64 j := hf 11 _ _ rfl rfl
        have f12 : a.eval (.tmp 41) = .int .i64 j2 := hf 12 _ _ rfl rfl
        have f13 : a.eval (.tmp 42) = .string PY := hf 13 _ _ rfl rfl
        have f14 : a.eval (.tmp 10) = .string PX := hf 14 _ _ rfl rfl
        have f15 : a.eval (.tmp 11) = .string PY := hf 15 _ _ rfl rfl
        have ha := hag.puts [(29, .string S), (30, .int .i64 k), (31, .int .i64 j), (32, .int .i64 k), (33, .int .i64 j), (34, .int .i64 j2), (35, .string PX), (36, .string T), (37, .int .i64 k), (38, .int .i64 j), (39, .int .i64 k), (40, .int .i64 j), (41, .int .i64 j2), (42, .string PY), (10, .string PX), (11, .string PY)] rfl (by simp) (by simp only [List.forall_mem_cons, List.not_mem_nil, false_implies, implies_true, and_true]; exact ⟨f0, f1, f2, f3, f4, f5, f6, f7, f8, f9, f10, f11, f12, f13, f14, f15⟩)
        subst ha
        clear hag hf f0 f1 f2 f3 f4 f5 f6 f7 f8 f9 f10 f11 f12 f13 f14 f15
        simp only [List.foldl_cons, List.foldl_nil, Act.put, List.setIfInBounds_toArray, List.set_cons_succ, List.set_cons_zero]
        have HI7 := Lib.hid (HBEL.out.trans (hI.mono HBEL.out.size))
        clear hI
        have H71 := Lib.hid ((HI7.out.block g1 HL1.out).trans H1.out)
        have H72 := Lib.hid ((HI7.out.block g2 HL2.out).trans H2.out)
        rename World => w7
        have HM1 := Lib.hid ((Array.getElem?_eq_some_iff.1 H71.out).1)
        have HM2 := Lib.hid ((Array.getElem?_eq_some_iff.1 H72.out).1)
        go_wp2_with fail
        refine QT.wp_region_facts (by kernel_rfl) (fun w' => Below w7.heap.size w7 w') (fun n v w' => (([.val (.int .i64 k), .val (.int .i64 q), .val (.pointer (some ⟨g1, q, none⟩)), .val (.int .u8 xa), .val (.int .i64 k), .val (.int .i64 q), .val (.pointer (some ⟨g2, q, none⟩)), .val (.int .u8 xb), .val (.int .u8 c), .val (.int .i64 k), .val (.int .i64 r), .val (.int .i64 s), .val (.int .u8 d), .val (.int .u8 x), .val (.bool B)] : List Fact).getD n (.val undef) : Fact).holds v w') (by kernel_rfl) (by kernel_rfl) (Below.refl _ _).drew (fun w1 w2 h1 hb => h1.trans (hb.mono h1.size)) (fun n v w1 w2 h hb => Fact.kept _ v w1 w2 h hb) (fun n o ho a wz hI hag hdep => ?_) (fun a wz hI hag hf => ?_)
        · have t4 : a.eval (.tmp 4) = .pointer (some ⟨g1, 0, none⟩) := hag.old 4 _ (by kernel_rfl) rfl
          have t5 : a.eval (.tmp 5) = .pointer (some ⟨g2, 0, none⟩) := hag.old 5 _ (by kernel_rfl) rfl
          have t9 : a.eval (.tmp 9) = .int .i64 k := hag.old 9 _ (by kernel_rfl) rfl
          have ca : wz.cell? ⟨g1, q, none⟩ = some (.int .u8 xa) := by rw [Lib.cell_of_heap ((hI.block g1 HM1.out).trans H71.out)]; exact HCA.out
          have cb : wz.cell? ⟨g2, q, none⟩ = some (.int .u8 xb) := by rw [Lib.cell_of_heap ((hI.block g2 HM2.out).trans H72.out)]; exact HCB.out
          match n, ho with
          | 0, ho =>
            obtain rfl := (Option.some.inj ho).symm
            exact ⟨rfl, QT.wp_value (BigFrame.run_move (.tmp 9) rfl wz) ⟨_, rfl, t9, Below.refl _ _⟩⟩
          | 1, ho =>
            obtain rfl := (Option.some.inj ho).symm
            have d43 : a.eval (.tmp 43) = .int .i64 k := hdep _ (Array.mem_of_getElem? (i := 0) rfl) rfl _ _ rfl rfl
            exact ⟨rfl, QT.wp_value (v := .int .i64 q) (by simp [go_sem, QT.nf d43, hqi, hwq]) ⟨_, rfl, rfl, Below.refl _ _⟩⟩
          | 2, ho =>
            obtain rfl := (Option.some.inj ho).symm
            have d44 : a.eval (.tmp 44) = .int .i64 q := hdep _ (Array.mem_of_getElem? (i := 0) rfl) rfl _ _ rfl rfl
            exact ⟨rfl, QT.wp_value (v := .pointer (some ⟨g1, q, none⟩)) (by simp [go_sem, QT.nf t4, QT.nf d44, hq0, hq32]) ⟨_, rfl, rfl, Below.refl _ _⟩⟩
          | 3, ho =>
            obtain rfl := (Option.some.inj ho).symm
            have d45 : a.eval (.tmp 45) = .pointer (some ⟨g1, q, none⟩) := hdep _ (Array.mem_of_getElem? (i := 0) rfl) rfl _ _ rfl rfl
            exact ⟨rfl, QT.wp_value (v := .int .u8 xa) (by simp [go_sem, QT.nf d45, ca]) ⟨_, rfl, rfl, Below.refl _ _⟩⟩
          | 4, ho =>
            obtain rfl := (Option.some.inj ho).symm
            exact ⟨rfl, QT.wp_value (BigFrame.run_move (.tmp 9) rfl wz) ⟨_, rfl, t9, Below.refl _ _⟩⟩
          | 5, ho =>
            obtain rfl := (Option.some.inj ho).symm
            have d47 : a.eval (.tmp 47) = .int .i64 k := hdep _ (Array.mem_of_getElem? (i := 0) rfl) rfl _ _ rfl rfl
            exact ⟨rfl, QT.wp_value (v := .int .i64 q) (by simp [go_sem, QT.nf d47, hqi, hwq]) ⟨_, rfl, rfl, Below.refl _ _⟩⟩
          | 6, ho =>
            obtain rfl := (Option.some.inj ho).symm
            have d48 : a.eval (.tmp 48) = .int .i64 q := hdep _ (Array.mem_of_getElem? (i := 0) rfl) rfl _ _ rfl rfl
            exact ⟨rfl, QT.wp_value (v := .pointer (some ⟨g2, q, none⟩)) (by simp [go_sem, QT.nf t5, QT.nf d48, hq0, hq32]) ⟨_, rfl, rfl, Below.refl _ _⟩⟩
          | 7, ho =>
            obtain rfl := (Option.some.inj ho).symm
            have d49 : a.eval (.tmp 49) = .pointer (some ⟨g2, q, none⟩) := hdep _ (Array.mem_of_getElem? (i := 0) rfl) rfl _ _ rfl rfl
            exact ⟨rfl, QT.wp_value (v := .int .u8 xb) (by simp [go_sem, QT.nf d49, cb]) ⟨_, rfl, rfl, Below.refl _ _⟩⟩
          | 8, ho =>
            obtain rfl := (Option.some.inj ho).symm
            have d46 : a.eval (.tmp 46) = .int .u8 xa := hdep _ (Array.mem_of_getElem? (i := 0) rfl) rfl _ _ rfl rfl
            have d50 : a.eval (.tmp 50) = .int .u8 xb := hdep _ (Array.mem_of_getElem? (i := 1) rfl) rfl _ _ rfl rfl
            exact ⟨rfl, QT.wp_value (v := .int .u8 c) (by simp [go_sem, QT.nf d46, QT.nf d50, hxor]) ⟨_, rfl, rfl, Below.refl _ _⟩⟩
          | 9, ho =>
            obtain rfl := (Option.some.inj ho).symm
            exact ⟨rfl, QT.wp_value (BigFrame.run_move (.tmp 9) rfl wz) ⟨_, rfl, t9, Below.refl _ _⟩⟩
          | 10, ho =>
            obtain rfl := (Option.some.inj ho).symm
            have d52 : a.eval (.tmp 52) = .int .i64 k := hdep _ (Array.mem_of_getElem? (i := 0) rfl) rfl _ _ rfl rfl
            exact ⟨rfl, QT.wp_value (v := .int .i64 r) (by simp [go_sem, QT.nf d52, hrt]) ⟨_, rfl, rfl, Below.refl _ _⟩⟩
          | 11, ho =>
            obtain rfl := (Option.some.inj ho).symm
            have d53 : a.eval (.tmp 53) = .int .i64 r := hdep _ (Array.mem_of_getElem? (i := 0) rfl) rfl _ _ rfl rfl
            exact ⟨rfl, QT.wp_value (v := .int .i64 s) (by simp [go_sem, QT.nf d53, hsi, hws]) ⟨_, rfl, rfl, Below.refl _ _⟩⟩
          | 12, ho =>
            obtain rfl := (Option.some.inj ho).symm
            have d51 : a.eval (.tmp 51) = .int .u8 c := hdep _ (Array.mem_of_getElem? (i := 0) rfl) rfl _ _ rfl rfl
            have d54 : a.eval (.tmp 54) = .int .i64 s := hdep _ (Array.mem_of_getElem? (i := 1) rfl) rfl _ _ rfl rfl
            exact ⟨rfl, QT.wp_value (v := .int .u8 d) (by simp [go_sem, QT.nf d51, QT.nf d54, hshr]) ⟨_, rfl, rfl, Below.refl _ _⟩⟩
          | 13, ho =>
            obtain rfl := (Option.some.inj ho).symm
            have d55 : a.eval (.tmp 55) = .int .u8 d := hdep _ (Array.mem_of_getElem? (i := 0) rfl) rfl _ _ rfl rfl
            exact ⟨rfl, QT.wp_value (v := .int .u8 x) (by simp [go_sem, QT.nf d55, hand]) ⟨_, rfl, rfl, Below.refl _ _⟩⟩
          | 14, ho =>
            obtain rfl := (Option.some.inj ho).symm
            have d56 : a.eval (.tmp 56) = .int .u8 x := hdep _ (Array.mem_of_getElem? (i := 0) rfl) rfl _ _ rfl rfl
            exact ⟨rfl, QT.wp_value (v := .bool B) (by simp [go_sem, QT.nf d56, hB]) ⟨_, rfl, rfl, Below.refl _ _⟩⟩
          | n + 15, ho => simp at ho
        · have f0 : a.eval (.tmp 43) = .int .i64 k := hf 0 _ _ rfl rfl
          have f1 : a.eval (.tmp 44) = .int .i64 q := hf 1 _ _ rfl rfl
          have f2 : a.eval (.tmp 45) = .pointer (some ⟨g1, q, none⟩) := hf 2 _ _ rfl rfl
          have f3 : a.eval (.tmp 46) = .int .u8 xa := hf 3 _ _ rfl rfl
          have f4 : a.eval (.tmp 47) = .int .i64 k := hf 4 _ _ rfl rfl
          have f5 : a.eval (.tmp 48) = .int .i64 q := hf 5 _ _ rfl rfl
          have f6 : a.eval (.tmp 49) = .pointer (some ⟨g2, q, none⟩) := hf 6 _ _ rfl rfl
          have f7 : a.eval (.tmp 50) = .int .u8 xb := hf 7 _ _ rfl rfl
          have f8 : a.eval (.tmp 51) = .int .u8 c := hf 8 _ _ rfl rfl
          have f9 : a.eval (.tmp 52) = .int .i64 k := hf 9 _ _ rfl rfl
          have f10 : a.eval (.tmp 53) = .int .i64 r := hf 10 _ _ rfl rfl
          have f11 : a.eval (.tmp 54) = .int .i64 s := hf 11 _ _ rfl rfl
          have f12 : a.eval (.tmp 55) = .int .u8 d := hf 12 _ _ rfl rfl
          have f13 : a.eval (.tmp 56) = .int .u8 x := hf 13 _ _ rfl rfl
          have f14 : a.eval (.tmp 57) = .bool B := hf 14 _ _ rfl rfl
          have ha := hag.puts [(43, .int .i64 k), (44, .int .i64 q), (45, .pointer (some ⟨g1, q, none⟩)), (46, .int .u8 xa), (47, .int .i64 k), (48, .int .i64 q), (49, .pointer (some ⟨g2, q, none⟩)), (50, .int .u8 xb), (51, .int .u8 c), (52, .int .i64 k), (53, .int .i64 r), (54, .int .i64 s), (55, .int .u8 d), (56, .int .u8 x), (57, .bool B)] rfl (by simp) (by simp only [List.forall_mem_cons, List.not_mem_nil, false_implies, implies_true, and_true]; exact ⟨f0, f1, f2, f3, f4, f5, f6, f7, f8, f9, f10, f11, f12, f13, f14⟩)
          subst ha
          clear hag hf f0 f1 f2 f3 f4 f5 f6 f7 f8 f9 f10 f11 f12 f13 f14
          simp only [List.foldl_cons, List.foldl_nil, Act.put, List.setIfInBounds_toArray, List.set_cons_succ, List.set_cons_zero]
          have HI8 := Lib.hid (HI7.out.trans (hI.mono HI7.out.size))
          clear hI
          rename World => w8
          have hx01 : x = 0 ∨ x = 1 := by have := HXB.out; omega
          cases B with
          | true =>
            have hx0 : x = 0 := by
              have h := HBX.out
              rcases hx01 with h0 | h0
              · exact h0
              · rw [h0] at h
                cases h
            have hPP : PX = PY := bytes_ext PX PY (by rw [HPL.out.1, HPL.out.2, HSM.out (by have := HXB.out; omega)])
            subst hPP
            clear hx0 hx01
            go_wp2_with fail
            go_roundw
            case rel => exact ⟨k + 1, by omega, by go_num, HI8.out⟩
            case measure => simp [intOf]; omega
          | false =>
            have hx1 : x = 1 := by
              have h := HBX.out
              rcases hx01 with h0 | h0
              · rw [h0] at h
                cases h
              · exact h0
            have hot := HOT.out (by have := HXB.out; omega)
            have hpx32 : (32 : Int) ≤ (PX.size : Int) := by rw [HPS.out.1]; decide
            have hpy32 : (32 : Int) ≤ (PY.size : Int) := by rw [HPS.out.2]; decide
            have hpxs : PX.size = 64 := HPS.out.1
            have hpys : PY.size = 64 := HPS.out.2
            have hpf := HPF.out
            have hpb := HPB.out
            have hsa : (PX.extract 0 32).size = 32 := by rw [extract_size _ _ _ (by omega) (by omega)]
            have hsb : (PY.extract 0 32).size = 32 := by rw [extract_size _ _ _ (by omega) (by omega)]
            obtain ⟨XA, hXA⟩ : ∃ P, PX.extract 0 32 = P := ⟨_, rfl⟩
            obtain ⟨XB, hXB⟩ : ∃ P, PX.extract 32 64 = P := ⟨_, rfl⟩
            obtain ⟨YA, hYA⟩ : ∃ P, PY.extract 0 32 = P := ⟨_, rfl⟩
            obtain ⟨YB, hYB⟩ : ∃ P, PY.extract 32 64 = P := ⟨_, rfl⟩
            rw [hXA, hYA] at hpf
            rw [hXB, hYB] at hpb
            rw [hXA] at hsa
            rw [hYA] at hsb
            have hy1 : (⟨(markF XA.data.toList).toArray⟩ : ByteArray) = YB := bytes_ext _ _ (by rw [mk_list, hpf.1, hot.1, hpb.2])
            have hy2 : (⟨(markF YA.data.toList).toArray⟩ : ByteArray) = XB := bytes_ext _ _ (by rw [mk_list, hpf.2, hot.2, hpb.1])
            have HO1 := Lib.hid (fun w g (h : Texts w (.slice (some ⟨g, 0, none⟩) 1 1) [XA]) => code_ofT markT (.slice (some ⟨g, 0, none⟩) 1 1) [XA] w h (by decide) (by simp) (by simp [hsa]))
            have HO2 := Lib.hid (fun w g (h : Texts w (.slice (some ⟨g, 0, none⟩) 1 1) [YA]) => code_ofT markT (.slice (some ⟨g, 0, none⟩) 1 1) [YA] w h (by decide) (by simp) (by simp [hsb]))
            have e1 : ofT markT [XA] = markF XA.data.toList := by unfold markF; rw [mk_data]
            have e2 : ofT markT [YA] = markF YA.data.toList := by unfold markF; rw [mk_data]
            have HY1 := Lib.hid (fun w => code_bytes (markF XA.data.toList) rfl w)
            have HY2 := Lib.hid (fun w => code_bytes (markF YA.data.toList) rfl w)
            rw [e1] at HO1
            rw [e2] at HO2
            rw [hy1] at HY1
            rw [hy2] at HY2
            obtain ⟨M1, hM1⟩ : ∃ C, (valsB (markF XA.data.toList)).toArray = C := ⟨_, rfl⟩
            obtain ⟨M2, hM2⟩ : ∃ C, (valsB (markF YA.data.toList)).toArray = C := ⟨_, rfl⟩
            rw [hM1] at HO1 HY1
            rw [hM2] at HO2 HY2
            clear hx1 hx01 hot hpf hpb hsa hsb hy1 hy2 e1 e2 hM1 hM2
            go_wp2_with fail
            refine QT.wp_region_facts (by kernel_rfl) (fun w' => Below w8.heap.size w8 w') (fun n v w' => (([.val (.string PX), .val (.string XA), .texts [XA], .val (.agg M1), .val (.string YB), .val (.string PY), .val (.string YB), .val (.bool false), .val (.bool false), .val (.string PY), .val (.string YA), .texts [YA], .val (.agg M2), .val (.string XB), .val (.string PX), .val (.string XB), .val (.bool false), .val (.bool false)] : List Fact).getD n (.val undef) : Fact).holds v w') (by kernel_rfl) (by kernel_rfl) (Below.refl _ _).drew (fun w1 w2 h1 hb => h1.trans (hb.mono h1.size)) (fun n v w1 w2 h hb => Fact.kept _ v w1 w2 h hb) (fun n o ho a wz hI hag hdep => ?_) (fun a wz hI hag hf => ?_)
            · have t10 : a.eval (.tmp 10) = .string PX := hag.old 10 _ (by kernel_rfl) rfl
              have t11 : a.eval (.tmp 11) = .string PY := hag.old 11 _ (by kernel_rfl) rfl
              match n, ho with
              | 0, ho =>
                obtain rfl := (Option.some.inj ho).symm
                exact ⟨rfl, QT.wp_value (BigFrame.run_move (.tmp 10) rfl wz) ⟨_, rfl, t10, Below.refl _ _⟩⟩
              | 1, ho =>
                obtain rfl := (Option.some.inj ho).symm
                have d61 : a.eval (.tmp 61) = .string PX := hdep _ (Array.mem_of_getElem? (i := 0) rfl) rfl _ _ rfl rfl
                exact ⟨rfl, QT.wp_value (v := .string XA) (by simp [go_sem, QT.nf d61, hpx32, hXA]) ⟨_, rfl, rfl, Below.refl _ _⟩⟩
              | 2, ho =>
                obtain rfl := (Option.some.inj ho).symm
                have d62 : a.eval (.tmp 62) = .string XA := hdep _ (Array.mem_of_getElem? (i := 0) rfl) rfl _ _ rfl rfl
                exact ⟨rfl, wp_slice1 54 9 (.tmp 62) rfl _ Try.underlying54 infoS _ d62 rfl ⟨_, rfl, ⟨_, rfl, texts_one wz _⟩, (Below.refl _ _).alloc (Nat.le_refl _) _⟩⟩
              | 3, ho =>
                obtain rfl := (Option.some.inj ho).symm
                have d63 : ((.texts [XA]) : Fact).holds (a.eval (.tmp 63)) wz := hdep _ (Array.mem_of_getElem? (i := 0) rfl) rfl _ _ rfl rfl
                obtain ⟨g, d, hT⟩ := d63
                exact ⟨rfl, QT.wp_enter (f := 13) (args := #[.string markT, .slice (some ⟨g, 0, none⟩) 1 1]) (by simp [go_sem, QT.nf d]) (HO1.out wz g hT) fun w' hb => ⟨_, rfl, rfl, hb⟩⟩
              | 4, ho =>
                obtain rfl := (Option.some.inj ho).symm
                have d64 : a.eval (.tmp 64) = .agg M1 := hdep _ (Array.mem_of_getElem? (i := 0) rfl) rfl _ _ rfl rfl
                exact ⟨rfl, QT.wp_enter (f := 14) (args := #[.agg M1]) (by simp [go_sem, QT.nf d64]) (HY1.out wz) fun w' hb => ⟨_, rfl, rfl, hb⟩⟩
              | 5, ho =>
                obtain rfl := (Option.some.inj ho).symm
                exact ⟨rfl, QT.wp_value (BigFrame.run_move (.tmp 11) rfl wz) ⟨_, rfl, t11, Below.refl _ _⟩⟩
              | 6, ho =>
                obtain rfl := (Option.some.inj ho).symm
                have d66 : a.eval (.tmp 66) = .string PY := hdep _ (Array.mem_of_getElem? (i := 0) rfl) rfl _ _ rfl rfl
                exact ⟨rfl, QT.wp_value (v := .string YB) (by simp [go_sem, QT.nf d66, hpys, hYB]) ⟨_, rfl, rfl, Below.refl _ _⟩⟩
              | 7, ho =>
                obtain rfl := (Option.some.inj ho).symm
                have d65 : a.eval (.tmp 65) = .string YB := hdep _ (Array.mem_of_getElem? (i := 0) rfl) rfl _ _ rfl rfl
                have d67 : a.eval (.tmp 67) = .string YB := hdep _ (Array.mem_of_getElem? (i := 1) rfl) rfl _ _ rfl rfl
                exact ⟨rfl, QT.wp_value (v := .bool false) (by simp [go_sem, QT.nf d65, QT.nf d67]) ⟨_, rfl, rfl, Below.refl _ _⟩⟩
              | 8, ho =>
                obtain rfl := (Option.some.inj ho).symm
                have d68 : a.eval (.tmp 68) = .bool false := hdep _ (Array.mem_of_getElem? (i := 0) rfl) rfl _ _ rfl rfl
                exact ⟨rfl, QT.wp_value (BigFrame.run_move (.tmp 68) rfl wz) ⟨_, rfl, d68, Below.refl _ _⟩⟩
              | 9, ho =>
                obtain rfl := (Option.some.inj ho).symm
                have d69 : a.eval (.tmp 69) = .bool false := hdep _ (Array.mem_of_getElem? (i := 0) rfl) rfl _ _ rfl rfl
                exact ⟨QT.wanted_of rfl rfl rfl d69, QT.wp_value (BigFrame.run_move (.tmp 11) rfl wz) ⟨_, rfl, t11, Below.refl _ _⟩⟩
              | 10, ho =>
                obtain rfl := (Option.some.inj ho).symm
                have d70 : a.eval (.tmp 70) = .string PY := hdep _ (Array.mem_of_getElem? (i := 0) rfl) rfl _ _ rfl rfl
                have d69 : a.eval (.tmp 69) = .bool false := hdep _ (Array.mem_of_getElem? (i := 1) rfl) rfl _ _ rfl rfl
                exact ⟨QT.wanted_of rfl rfl rfl d69, QT.wp_value (v := .string YA) (by simp [go_sem, QT.nf d70, hpy32, hYA]) ⟨_, rfl, rfl, Below.refl _ _⟩⟩
              | 11, ho =>
                obtain rfl := (Option.some.inj ho).symm
                have d71 : a.eval (.tmp 71) = .string YA := hdep _ (Array.mem_of_getElem? (i := 0) rfl) rfl _ _ rfl rfl
                have d69 : a.eval (.tmp 69) = .bool false := hdep _ (Array.mem_of_getElem? (i := 1) rfl) rfl _ _ rfl rfl
                exact ⟨QT.wanted_of rfl rfl rfl d69, wp_slice1 54 9 (.tmp 71) rfl _ Try.underlying54 infoS _ d71 rfl ⟨_, rfl, ⟨_, rfl, texts_one wz _⟩, (Below.refl _ _).alloc (Nat.le_refl _) _⟩⟩
              | 12, ho =>
                obtain rfl := (Option.some.inj ho).symm
                have d72 : ((.texts [YA]) : Fact).holds (a.eval (.tmp 72)) wz := hdep _ (Array.mem_of_getElem? (i := 0) rfl) rfl _ _ rfl rfl
                have d69 : a.eval (.tmp 69) = .bool false := hdep _ (Array.mem_of_getElem? (i := 2) rfl) rfl _ _ rfl rfl
                obtain ⟨g, d, hT⟩ := d72
                exact ⟨QT.wanted_of rfl rfl rfl d69, QT.wp_enter (f := 13) (args := #[.string markT, .slice (some ⟨g, 0, none⟩) 1 1]) (by simp [go_sem, QT.nf d]) (HO2.out wz g hT) fun w' hb => ⟨_, rfl, rfl, hb⟩⟩
              | 13, ho =>
                obtain rfl := (Option.some.inj ho).symm
                have d73 : a.eval (.tmp 73) = .agg M2 := hdep _ (Array.mem_of_getElem? (i := 0) rfl) rfl _ _ rfl rfl
                have d69 : a.eval (.tmp 69) = .bool false := hdep _ (Array.mem_of_getElem? (i := 2) rfl) rfl _ _ rfl rfl
                exact ⟨QT.wanted_of rfl rfl rfl d69, QT.wp_enter (f := 14) (args := #[.agg M2]) (by simp [go_sem, QT.nf d73]) (HY2.out wz) fun w' hb => ⟨_, rfl, rfl, hb⟩⟩
              | 14, ho =>
                obtain rfl := (Option.some.inj ho).symm
                have d69 : a.eval (.tmp 69) = .bool false := hdep _ (Array.mem_of_getElem? (i := 0) rfl) rfl _ _ rfl rfl
                exact ⟨QT.wanted_of rfl rfl rfl d69, QT.wp_value (BigFrame.run_move (.tmp 10) rfl wz) ⟨_, rfl, t10, Below.refl _ _⟩⟩
              | 15, ho =>
                obtain rfl := (Option.some.inj ho).symm
                have d75 : a.eval (.tmp 75) = .string PX := hdep _ (Array.mem_of_getElem? (i := 0) rfl) rfl _ _ rfl rfl
                have d69 : a.eval (.tmp 69) = .bool false := hdep _ (Array.mem_of_getElem? (i := 1) rfl) rfl _ _ rfl rfl
                exact ⟨QT.wanted_of rfl rfl rfl d69, QT.wp_value (v := .string XB) (by simp [go_sem, QT.nf d75, hpxs, hXB]) ⟨_, rfl, rfl, Below.refl _ _⟩⟩
              | 16, ho =>
                obtain rfl := (Option.some.inj ho).symm
                have d74 : a.eval (.tmp 74) = .string XB := hdep _ (Array.mem_of_getElem? (i := 0) rfl) rfl _ _ rfl rfl
                have d76 : a.eval (.tmp 76) = .string XB := hdep _ (Array.mem_of_getElem? (i := 1) rfl) rfl _ _ rfl rfl
                have d69 : a.eval (.tmp 69) = .bool false := hdep _ (Array.mem_of_getElem? (i := 2) rfl) rfl _ _ rfl rfl
                exact ⟨QT.wanted_of rfl rfl rfl d69, QT.wp_value (v := .bool false) (by simp [go_sem, QT.nf d74, QT.nf d76]) ⟨_, rfl, rfl, Below.refl _ _⟩⟩
              | 17, ho =>
                obtain rfl := (Option.some.inj ho).symm
                have d69 : a.eval (.tmp 69) = .bool false := hdep _ (Array.mem_of_getElem? (i := 0) rfl) rfl _ _ rfl rfl
                have d77 : a.eval (.tmp 77) = .bool false := hdep _ (Array.mem_of_getElem? (i := 1) rfl) rfl _ _ rfl rfl
                exact ⟨rfl, QT.wp_value (v := .bool false) (by simp [go_sem, QT.nf d69, QT.nf d77]) ⟨_, rfl, rfl, Below.refl _ _⟩⟩
              | n + 18, ho => simp at ho
            · have f0 : a.eval (.tmp 61) = .string PX := hf 0 _ _ rfl rfl
              have f1 : a.eval (.tmp 62) = .string XA := hf 1 _ _ rfl rfl
              have f2' : ((.texts [XA]) : Fact).holds (a.eval (.tmp 63)) wz := hf 2 _ _ rfl rfl
              obtain ⟨q2, f2, _⟩ := f2'
              have f3 : a.eval (.tmp 64) = .agg M1 := hf 3 _ _ rfl rfl
              have f4 : a.eval (.tmp 65) = .string YB := hf 4 _ _ rfl rfl
              have f5 : a.eval (.tmp 66) = .string PY := hf 5 _ _ rfl rfl
              have f6 : a.eval (.tmp 67) = .string YB := hf 6 _ _ rfl rfl
              have f7 : a.eval (.tmp 68) = .bool false := hf 7 _ _ rfl rfl
              have f8 : a.eval (.tmp 69) = .bool false := hf 8 _ _ rfl rfl
              have f9 : a.eval (.tmp 70) = .string PY := hf 9 _ _ rfl rfl
              have f10 : a.eval (.tmp 71) = .string YA := hf 10 _ _ rfl rfl
              have f11' : ((.texts [YA]) : Fact).holds (a.eval (.tmp 72)) wz := hf 11 _ _ rfl rfl
              obtain ⟨q11, f11, _⟩ := f11'
              have f12 : a.eval (.tmp 73) = .agg M2 := hf 12 _ _ rfl rfl
              have f13 : a.eval (.tmp 74) = .string XB := hf 13 _ _ rfl rfl
              have f14 : a.eval (.tmp 75) = .string PX := hf 14 _ _ rfl rfl
              have f15 : a.eval (.tmp 76) = .string XB := hf 15 _ _ rfl rfl
              have f16 : a.eval (.tmp 77) = .bool false := hf 16 _ _ rfl rfl
              have f17 : a.eval (.tmp 78) = .bool false := hf 17 _ _ rfl rfl
              have ha := hag.puts [(61, .string PX), (62, .string XA), (63, .slice (some ⟨q2, 0, none⟩) 1 1), (64, .agg M1), (65, .string YB), (66, .string PY), (67, .string YB), (68, .bool false), (69, .bool false), (70, .string PY), (71, .string YA), (72, .slice (some ⟨q11, 0, none⟩) 1 1), (73, .agg M2), (74, .string XB), (75, .string PX), (76, .string XB), (77, .bool false), (78, .bool false)] rfl (by simp) (by simp only [List.forall_mem_cons, List.not_mem_nil, false_implies, implies_true, and_true]; exact ⟨f0, f1, f2, f3, f4, f5, f6, f7, f8, f9, f10, f11, f12, f13, f14, f15, f16, f17⟩)
              subst ha
              clear hag hf f0 f1 f2 f3 f4 f5 f6 f7 f8 f9 f10 f11 f12 f13 f14 f15 f16 f17
              simp only [List.foldl_cons, List.foldl_nil, Act.put, List.setIfInBounds_toArray, List.set_cons_succ, List.set_cons_zero]
              have HI11 := Lib.hid (HI8.out.trans (hI.mono HI8.out.size))
              clear hI
              go_wp2_with fail
              go_roundw
              case rel => exact ⟨k + 1, by omega, by go_num, HI11.out⟩
              case measure => simp [intOf]; omega
    · obtain rfl : k = 16 := by omega
      go_wp2_with fail
      refine (works5 _).mono ?_
      rintro e w3 ⟨rfl, hb3⟩
      have HB3 := Lib.hid (HBW.out.trans ((HBEL.out.mono (Nat.le_of_lt HL0.out)).trans (hb3.mono (Nat.le_trans (Nat.le_of_lt HL0.out) HBEL.out.size))))
      clear hb3
      go_wp2_with fail
      go_ret
      exact ⟨rfl, HG.out ▸ HB3.out⟩

end Go.Proofs.Ytlalipomphgcoaa.Once
