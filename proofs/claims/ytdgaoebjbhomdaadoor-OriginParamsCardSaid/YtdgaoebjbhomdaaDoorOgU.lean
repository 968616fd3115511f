/- origin: the coins' spots; the law of Params. -/
import Derived.Test.YtdgaoebjbhomdaaDoorOgT
namespace Go.Proofs.YtdgaoebjbhomdaaDoor.Og
open Go.RowKit Go.Proofs.YtdgaoebjbhomdaaDoor.Sha Go.Proofs.YtdgaoebjbhomdaaDoor.Gr Go.Proofs.YtdgaoebjbhomdaaDoor.Digit Go.Proofs.YtdgaoebjbhomdaaDoor.Deed Go.Proofs.YtdgaoebjbhomdaaDoor.Tree

abbrev coinT : ByteArray := ⟨#[99, 111, 105, 110]⟩
def ofC (tag : ByteArray) (P : List ByteArray) : List UInt8 := shaS ⟨(rowL tag P).toArray⟩
theorem rowL_small (tag a b : ByteArray) (ht : tag.size ≤ 100) (ha : a.size ≤ 100) (hb : b.size ≤ 100) : (rowL tag [a, b]).length ≤ 400 := by
  have h1 := putText_len tag.data.toList
  have h2 : tag.data.toList.length = tag.size := by rw [Array.length_toList]; rfl
  have h3 := putText_len a.data.toList
  have h4 : a.data.toList.length = a.size := by rw [Array.length_toList]; rfl
  have h5 := putText_len b.data.toList
  have h6 : b.data.toList.length = b.size := by rw [Array.length_toList]; rfl
  unfold rowL
  simp only [List.length_append, List.flatMap_cons, List.flatMap_nil, List.append_nil]
  omega
theorem texts_two (w : World) (a b : ByteArray) : Texts (w.alloc (.cells #[.string a, .string b] 9)) (.slice (some ⟨w.heap.size, 0, none⟩) 2 2) [a, b] :=
  Or.inr ⟨w.heap.size, 0, 2, rfl, by simp, fun i s hs => by
    match i, hs with
    | 0, hs => simp at hs; subst hs; simp
    | 1, hs => simp at hs; subst hs; simp⟩
theorem code_ofC (tag a b : ByteArray) (ht : tag.size ≤ 100) (ha : a.size ≤ 100) (hb : b.size ≤ 100) (v : Value) (w : World) (hT : Texts w v [a, b]) :
    Calls Tryd.prog 29 #[.string tag, v] w fun e w' => e = .returned (.agg (valsB (ofC tag [a, b])).toArray) ∧ Below w.heap.size w w' := by
  have h := rowL_small tag a b ht ha hb
  exact code_of tag v [a, b] w hT (by omega) (fun s hs => by simp at hs; rcases hs with rfl | rfl <;> omega) (by omega) (by simp)
theorem ref_ofC (tag a b : ByteArray) (ht : tag.size ≤ 100) (ha : a.size ≤ 100) (hb : b.size ≤ 100) (v : Value) (w : World) (hT : Texts w v [a, b]) :
    Calls Tryd.prog 69 #[.string tag, v] w fun e w' => e = .returned (.agg (valsB (ofC tag [a, b])).toArray) ∧ Below w.heap.size w w' := by
  have h := rowL_small tag a b ht ha hb
  exact refOf_any tag v [a, b] w hT (by omega) (fun s hs => by simp at hs; rcases hs with rfl | rfl <;> omega) (by omega) (by simp)
def coinH (h : H32) (m : UInt64) : H32 := ⟨ofC coinT [bs h.1, bs (eightL m.toNat)], rfl⟩
def coinS (h : H32) (m : UInt64) : InD := ⟨coinH h m, 0⟩
theorem bs32 (h : H32) : (bs h.1).size ≤ 100 := by rw [bs_size, h.2]; decide
theorem bs8 (m : UInt64) : (bs (eightL m.toNat)).size ≤ 100 := by rw [bs_size, show (eightL m.toNat).length = 8 from eightF_len 8 _]; decide
theorem wrap_u64 (i : Int) : ∃ m : UInt64, IntKind.u64.wrap i = (m.toNat : Int) := by
  refine ⟨UInt64.ofNat (IntKind.u64.wrap i).toNat, ?_⟩
  have h1 : 0 ≤ IntKind.u64.wrap i ∧ IntKind.u64.wrap i < 18446744073709551616 := by
    unfold IntKind.wrap
    simp [IntKind.bits, IntKind.signed]
    omega
  rw [UInt64.toNat_ofNat', Nat.mod_eq_of_lt (by omega)]
  omega

set_option maxRecDepth 100000 in
theorem built_in_as : ∀ parts, Tryd.prog.built 43 parts = Instr.fill (#[(0, 32), (32, 1)][·]?) KIn.zero.cells parts := by
  intro parts
  kernel_rfl
theorem fill_one (place : Nat → Option (Nat × Nat)) (v : Value) (pre mid rest cs : List Value) (hc : v.cells = cs.toArray) (hm : mid.length = cs.length) (h0 : place 0 = some (pre.length, v.cells.size)) :
    Instr.fill place (pre ++ (mid ++ rest)).toArray [(0, v)] = some (pre ++ (cs ++ rest)).toArray := by
  rw [Instr.fill, h0]
  dsimp only
  rw [if_neg (by rw [hc]; simp; omega), hc]
  have := Bl.fold_arr pre.length cs pre mid rest rfl hm
  exact congrArg some this
theorem built_spot (h : H32) : Tryd.prog.built 43 [(0, hV h)] = some (KIn.enc ⟨h, 0⟩).toArray := by
  rw [built_in_as]
  exact fill_one _ (hV h) [] z32 [Value.int .u64 0] (valsB h.1) rfl (by rw [valsB_32]; rfl) (by show _ = some (0, (valsB h.1).toArray.size); rw [List.size_toArray, valsB_32]; rfl)
theorem zeroIn : #[Value.int .u8 0, Value.int .u8 0, Value.int .u8 0, Value.int .u8 0, Value.int .u8 0, Value.int .u8 0, Value.int .u8 0, Value.int .u8 0, Value.int .u8 0, Value.int .u8 0, Value.int .u8 0, Value.int .u8 0, Value.int .u8 0, Value.int .u8 0, Value.int .u8 0, Value.int .u8 0, Value.int .u8 0, Value.int .u8 0, Value.int .u8 0, Value.int .u8 0, Value.int .u8 0, Value.int .u8 0, Value.int .u8 0, Value.int .u8 0, Value.int .u8 0, Value.int .u8 0, Value.int .u8 0, Value.int .u8 0, Value.int .u8 0, Value.int .u8 0, Value.int .u8 0, Value.int .u8 0, Value.int .u64 0] = (z32 ++ [Value.int .u64 0]).toArray := rfl
abbrev inV (x : InD) : Value := .agg (KIn.enc x).toArray
theorem in_one (x : InD) : (KIn.enc x).toArray.all (·.oneCell') = true := by
  rw [List.all_toArray, List.all_eq_true]
  exact fun u hu => KIn.one x u hu
theorem in_info (x : InD) : (Tryd.prog.info? 43).map (·.size) = some (KIn.enc x).toArray.size := by rw [List.size_toArray, KIn.len]; kernel_rfl
def fieldsI : List Field := [⟨"Tx", 29, 0, false, "", "", 0⟩, ⟨"Index", 22, 32, false, "", "", 32⟩]
theorem fields_I : Tryd.prog.underlying 43 = some (.struct (Tryd.prog.fieldsOf 43)) ∧ (Tryd.prog.fieldsOf 43).toList = fieldsI ∧ Tryd.prog.stoodInHeld 43 = false := ⟨by kernel_rfl, by kernel_rfl, by kernel_rfl⟩
set_option maxRecDepth 100000 in
theorem eq_in (d : Nat) (x : InD) (w : World) : (Op.equalIn (d + 3) 43 (inV x) (inV x)).run Tryd.prog w = .ok true w := by
  obtain ⟨h1, h2, h3⟩ := fields_I
  rw [run_equalIn_struct w (d + 2) 43 _ _ h1 h3, h2]
  have p1 : (part 29 (KIn.enc x).toArray 0).run Tryd.prog w = .ok (hV x.tx) w := by have := part_h w [] (nV x.ix :: []) x.tx 0 (rfl); simpa [KIn, List.append_assoc] using this
  have p2 : (part 22 (KIn.enc x).toArray 32).run Tryd.prog w = .ok (nV x.ix) w := by have := part_n w (valsB x.tx.1 ++ []) [] x.ix 32 (by simp only [List.length_append, List.length_nil, valsB_32]); simpa [KIn, List.append_assoc] using this
  have hf := eqFields_cons w (d + 2) (KIn.enc x).toArray (KIn.enc x).toArray ⟨"Tx", 29, 0, false, "", "", 0⟩ _ (by decide) p1 p1 (eq_hashD (d + 0) x.tx x.tx w)
    (eqFields_cons w (d + 2) (KIn.enc x).toArray (KIn.enc x).toArray ⟨"Index", 22, 32, false, "", "", 32⟩ _ (by decide) p2 p2 (eq_num (d + 1) x.ix x.ix w) (show (Op.eqFields _ _ _ []).run Tryd.prog w = .ok true w from rfl))
  refine hf.trans ?_
  congr 1
  simp

set_option maxRecDepth 100000 in
set_option maxHeartbeats 1600000 in
theorem code_Coin (h : H32) (i : Int) (m : UInt64) (hi : IntKind.u64.wrap i = (m.toNat : Int)) (w : World) : Calls Tryd.prog 16 #[hV h, .int .i64 i] w fun e w' => e = .returned (inV (coinS h m)) ∧ Below w.heap.size w w' := by
  have HBY := Lib.hid (fun w => code_bytes h.1 h.2 w)
  have HEI := Lib.hid (fun w => eight_any m.toNat w (by have := m.toNat_lt; omega))
  have HOF := Lib.hid (fun v w hT => code_ofC coinT (bs h.1) (bs (eightL m.toNat)) (by decide) (bs32 h) (bs8 m) v w hT)
  rw [show ofC coinT [bs h.1, bs (eightL m.toNat)] = (coinH h m).1 from rfl] at HOF
  have HBS := Lib.hid (built_spot (coinH h m))
  have HRC := Lib.hid (row32 h.1 h.2)
  unfold hV at HBS ⊢
  obtain ⟨SA, hSA⟩ : ∃ S, bs h.1 = S := ⟨_, rfl⟩
  obtain ⟨SB, hSB⟩ : ∃ S, bs (eightL m.toNat) = S := ⟨_, rfl⟩
  simp only [hSA] at HBY HOF
  simp only [hSB] at HEI HOF
  clear hSA hSB
  obtain ⟨C, hC⟩ : ∃ C, (valsB h.1).toArray = C := ⟨_, rfl⟩
  rw [hC] at HBY HRC
  rw [hC]
  clear hC
  obtain ⟨D, hD⟩ : ∃ C, (valsB (coinH h m).1).toArray = C := ⟨_, rfl⟩
  simp only [hD] at HOF HBS
  clear hD
  have HXI := Lib.hid (And.intro (in_one (coinS h m)) (in_info (coinS h m)))
  have HXL := Lib.hid (show (KIn.enc (coinS h m)).toArray.size = 33 by rw [List.size_toArray, KIn.len]; rfl)
  unfold inV
  obtain ⟨X, hX⟩ : ∃ C, (KIn.enc (coinS h m)).toArray = C := ⟨_, rfl⟩
  rw [show (KIn.enc ⟨coinH h m, 0⟩).toArray = X from hX] at HBS
  rw [hX] at HXI HXL
  rw [hX]
  clear hX
  go_enter Tryd.func16, Tryd.ntmps16
  go_upto_region 1 with (fail)
  rw [zeroIn]
  obtain ⟨Z, hZ⟩ : ∃ Z, (z32 ++ [Value.int .u64 0]).toArray = Z := ⟨_, rfl⟩
  have HZS := Lib.hid (show Z.size = 33 by rw [← hZ]; rfl)
  rw [hZ]
  clear hZ
  have hs0 : ((w.alloc (.cells C 29)).alloc (.cells Z 43)).heap.size = w.heap.size + 2 := by simp
  have HC := Lib.hid (heap_alloc2_old w (.cells C 29) (.cells Z 43))
  have HZ := Lib.hid (heap_alloc2_new w (.cells C 29) (.cells Z 43))
  have HBW := Lib.hid (show Below w.heap.size w ((w.alloc (.cells C 29)).alloc (.cells Z 43)) from ((Below.refl _ _).alloc (Nat.le_refl _) _).alloc (by simp) _)
  have HS0 := Lib.hid hs0
  clear hs0
  generalize (w.alloc (.cells C 29)).alloc (.cells Z 43) = W at HC HZ HBW HS0 ⊢
  have hW : w.heap.size + 1 < W.heap.size := by rw [HS0.out]; omega
  go_wp2_with (first
    | (refine wpList_load_row rfl 29 (.tmp 2) rfl w.heap.size rfl 29 C (0, 0) _ HC.out Tryd.underlying29 rfl HRC.out.info ?_)
    | (go_at_call 30; refine (HBY.out _).mono ?_; rintro e w1 ⟨rfl, hb1⟩; have HB1 := Lib.hid hb1; clear hb1)
    | (go_at_call 31; refine (HEI.out _).mono ?_; rintro e w2 ⟨rfl, hb2⟩; have HB2 := Lib.hid (HB1.out.trans (hb2.mono HB1.out.size)); clear hb2)
    | (go_at_call 29; refine (HOF.out _ _ (texts_two w2 SA SB)).mono ?_; rintro e w3 ⟨rfl, hb3⟩; have HB3 := Lib.hid (HB2.out.trans ((((Below.refl _ _).alloc (Nat.le_refl _) _).trans (hb3.mono (by simp)) : Below w2.heap.size w2 w3).mono HB2.out.size)); clear hb3)
    | (refine Bl.wpList_build_as rfl 43 #[(0, .tmp 11)] rfl X (by simpa [Act.eval] using HBS.out) ?_)
    | (refine wpList_store_row rfl 43 (.tmp 4) (.tmp 12) rfl (w.heap.size + 1) X rfl rfl 43 Z ((HB3.out.block _ hW).trans HZ.out) HXI.out.2 (by rw [HZS.out, HXL.out]) HXI.out.1 ?_))
  refine bodyPost_ret (results_cell_row (p := 4) (ty := 43) Tryd.results16 _ _ (w.heap.size + 1) 43 X (0, 0) _ rfl (setRow_heap _ _ _ _ _ _ ((HB3.out.block _ hW).trans HZ.out)) Tryd.underlying43 rfl HXI.out.2) rfl ⟨rfl, below_setRow (HBW.out.trans (HB3.out.mono (by omega))) (by omega) _⟩

set_option maxRecDepth 100000 in
set_option maxHeartbeats 1600000 in
theorem ref_two (tag a b : ByteArray) (ht : tag.size ≤ 100) (ha : a.size ≤ 100) (hb : b.size ≤ 100) (w : World) :
    Calls Tryd.prog 32 #[.string tag, .string a, .string b] w fun e w' => e = .returned (.agg (valsB (ofC tag [a, b])).toArray) ∧ Below w.heap.size w w' := by
  have HO := Lib.hid (fun (w : World) => ref_ofC tag a b ht ha hb (.slice (some ⟨w.heap.size, 0, none⟩) 2 2) _ (texts_two w a b))
  go_enter Tryd.func32, Tryd.ntmps32
  go_upto_region 1 with (fail)
  rw [zero32]
  obtain ⟨Z, hZ⟩ : ∃ Z, (List.replicate 32 (Value.int .u8 0)).toArray = Z := ⟨_, rfl⟩
  have HZS := Lib.hid (show Z.size = 32 by rw [← hZ]; rfl)
  rw [hZ]
  clear hZ
  have hz0 : w.heap.size < (w.alloc (.cells Z 29)).heap.size := by simp
  have HZ := Lib.hid (heap_alloc_new w (.cells Z 29))
  have HBW := Lib.hid (show Below w.heap.size w (w.alloc (.cells Z 29)) from (Below.refl _ _).alloc (Nat.le_refl _) _)
  generalize w.alloc (.cells Z 29) = W at hz0 HZ HBW ⊢
  go_wp2_with fail
  refine (HO.out W).mono ?_
  rintro e w2 ⟨rfl, hb2⟩
  have hb : Below W.heap.size W w2 := ((Below.refl _ _).alloc (Nat.le_refl _) _).trans (hb2.mono (by simp))
  have HZ2 := Lib.hid ((hb.block _ hz0).trans HZ.out)
  have HB2 := Lib.hid (HBW.out.trans (hb.mono (Nat.le_of_lt hz0)))
  clear hb hb2
  obtain ⟨D, hD⟩ : ∃ D, (valsB (ofC tag [a, b])).toArray = D := ⟨_, rfl⟩
  have HD := Lib.hid hD
  have HRD := Lib.hid (show Row32 D by rw [← hD]; exact row32 _ rfl)
  have HZD := Lib.hid (show Z.size = D.size by rw [HZS.out, HRD.out.size])
  rw [hD]
  clear hD
  go_wp2_with (refine wpList_store_row rfl 29 (.tmp 6) (.tmp 11) rfl w.heap.size D rfl rfl 29 Z HZ2.out HRD.out.info HZD.out HRD.out.one ?_)
  refine bodyPost_ret (results_cell_row (p := 6) (ty := 29) Tryd.results32 _ _ w.heap.size 29 D (0, 0) _ rfl (setRow_heap _ _ _ _ _ _ HZ2.out) Tryd.underlying29 rfl HRD.out.info) rfl ⟨by rw [HD.out], below_setRow HB2.out (by omega) _⟩

set_option maxRecDepth 100000 in
set_option maxHeartbeats 1600000 in
theorem ref_Coin (h : H32) (i : Int) (m : UInt64) (hi : IntKind.u64.wrap i = (m.toNat : Int)) (w : World) : Calls Tryd.prog 17 #[hV h, .int .i64 i] w fun e w' => e = .returned (inV (coinS h m)) ∧ Below w.heap.size w w' := by
  have HBY := Lib.hid (fun w => bytes_any h.1 h.2 w)
  have HEI := Lib.hid (fun w => refEight_any m.toNat w (by have := m.toNat_lt; omega))
  have HOF := Lib.hid (fun w => ref_two coinT (bs h.1) (bs (eightL m.toNat)) (by decide) (bs32 h) (bs8 m) w)
  rw [show ofC coinT [bs h.1, bs (eightL m.toNat)] = (coinH h m).1 from rfl] at HOF
  have HBS := Lib.hid (built_spot (coinH h m))
  have HRC := Lib.hid (row32 h.1 h.2)
  unfold hV at HBS ⊢
  obtain ⟨SA, hSA⟩ : ∃ S, bs h.1 = S := ⟨_, rfl⟩
  obtain ⟨SB, hSB⟩ : ∃ S, bs (eightL m.toNat) = S := ⟨_, rfl⟩
  simp only [hSA] at HBY HOF
  simp only [hSB] at HEI HOF
  clear hSA hSB
  obtain ⟨C, hC⟩ : ∃ C, (valsB h.1).toArray = C := ⟨_, rfl⟩
  rw [hC] at HBY HRC
  rw [hC]
  clear hC
  obtain ⟨D, hD⟩ : ∃ C, (valsB (coinH h m).1).toArray = C := ⟨_, rfl⟩
  simp only [hD] at HOF HBS
  clear hD
  have HXI := Lib.hid (And.intro (in_one (coinS h m)) (in_info (coinS h m)))
  have HXL := Lib.hid (show (KIn.enc (coinS h m)).toArray.size = 33 by rw [List.size_toArray, KIn.len]; rfl)
  unfold inV
  obtain ⟨X, hX⟩ : ∃ C, (KIn.enc (coinS h m)).toArray = C := ⟨_, rfl⟩
  rw [show (KIn.enc ⟨coinH h m, 0⟩).toArray = X from hX] at HBS
  rw [hX] at HXI HXL
  rw [hX]
  clear hX
  go_enter Tryd.func17, Tryd.ntmps17
  go_upto_region 1 with (fail)
  rw [zeroIn]
  obtain ⟨Z, hZ⟩ : ∃ Z, (z32 ++ [Value.int .u64 0]).toArray = Z := ⟨_, rfl⟩
  have HZS := Lib.hid (show Z.size = 33 by rw [← hZ]; rfl)
  rw [hZ]
  clear hZ
  have hs0 : ((w.alloc (.cells C 29)).alloc (.cells Z 43)).heap.size = w.heap.size + 2 := by simp
  have HC := Lib.hid (heap_alloc2_old w (.cells C 29) (.cells Z 43))
  have HZ := Lib.hid (heap_alloc2_new w (.cells C 29) (.cells Z 43))
  have HBW := Lib.hid (show Below w.heap.size w ((w.alloc (.cells C 29)).alloc (.cells Z 43)) from ((Below.refl _ _).alloc (Nat.le_refl _) _).alloc (by simp) _)
  have HS0 := Lib.hid hs0
  clear hs0
  generalize (w.alloc (.cells C 29)).alloc (.cells Z 43) = W at HC HZ HBW HS0 ⊢
  have hW : w.heap.size + 1 < W.heap.size := by rw [HS0.out]; omega
  go_wp2_with (first
    | (refine wpList_load_row rfl 29 (.tmp 2) rfl w.heap.size rfl 29 C (0, 0) _ HC.out Tryd.underlying29 rfl HRC.out.info ?_)
    | (go_at_call 33; refine (HBY.out _).mono ?_; rintro e w1 ⟨rfl, hb1⟩; have HB1 := Lib.hid hb1; clear hb1)
    | (go_at_call 34; refine (HEI.out _).mono ?_; rintro e w2 ⟨rfl, hb2⟩; have HB2 := Lib.hid (HB1.out.trans (hb2.mono HB1.out.size)); clear hb2)
    | (go_at_call 32; refine (HOF.out _).mono ?_; rintro e w3 ⟨rfl, hb3⟩; have HB3 := Lib.hid (HB2.out.trans (hb3.mono HB2.out.size)); clear hb3)
    | (refine Bl.wpList_build_as rfl 43 #[(0, .tmp 10)] rfl X (by simpa [Act.eval] using HBS.out) ?_)
    | (refine wpList_store_row rfl 43 (.tmp 4) (.tmp 11) rfl (w.heap.size + 1) X rfl rfl 43 Z ((HB3.out.block _ hW).trans HZ.out) HXI.out.2 (by rw [HZS.out, HXL.out]) HXI.out.1 ?_))
  refine bodyPost_ret (results_cell_row (p := 4) (ty := 43) Tryd.results17 _ _ (w.heap.size + 1) 43 X (0, 0) _ rfl (setRow_heap _ _ _ _ _ _ ((HB3.out.block _ hW).trans HZ.out)) Tryd.underlying43 rfl HXI.out.2) rfl ⟨rfl, below_setRow (HBW.out.trans (HB3.out.mono (by omega))) (by omega) _⟩

set_option maxRecDepth 100000 in
set_option maxHeartbeats 1600000 in
theorem law_params (a0 a1 : Nat) (h : H32) (i : Int) (w : World) (hp : a0 < 18446744073709551616) (ht : Tab w) : Calls Tryd.prog 5 #[.int .u64 a0, .int .u64 a1, hV h, .int .i64 i] w fun e w' => e = .returned (.bool true) ∧ Below w.heap.size w w' := by
  obtain ⟨m, hm⟩ := wrap_u64 i
  have HPC := Lib.hid (fun w ht => code_Param a0 a1 w ht hp)
  have HPR := Lib.hid (fun w => ref_Param a0 a1 w)
  have HCC := Lib.hid (fun w => code_Coin h i m hm w)
  have HCR := Lib.hid (fun w => ref_Coin h i m hm w)
  have HQ := Lib.hid (fun (w : World) => show (Op.equalIn 10000 43 (inV (coinS h m)) (inV (coinS h m))).run Tryd.prog w = .ok true w from eq_in 9997 (coinS h m) w)
  have HWK := Lib.hid works_any
  have HRC := Lib.hid (row32 h.1 h.2)
  have HT := Lib.hid ht
  clear hm ht hp
  unfold hV at HCC HCR ⊢
  unfold inV at HCC HCR HQ
  obtain ⟨C, hC⟩ : ∃ C, (valsB h.1).toArray = C := ⟨_, rfl⟩
  simp only [hC] at HCC HCR HRC
  rw [hC]
  clear hC
  obtain ⟨D, hD⟩ : ∃ C, (KIn.enc (coinS h m)).toArray = C := ⟨_, rfl⟩
  simp only [hD] at HCC HCR HQ
  clear hD
  obtain ⟨E, hE⟩ : ∃ n, parE a0 a1 = n := ⟨_, rfl⟩
  simp only [hE] at HPC HPR
  clear hE
  go_enter Tryd.func5, Tryd.ntmps5
  go_upto_region 1 with (fail)
  have HH := Lib.hid (heap_alloc_new w (.cells C 29))
  have HBW := Lib.hid (show Below w.heap.size w (w.alloc (.cells C 29)) from (Below.refl _ _).alloc (Nat.le_refl _) _)
  generalize w.alloc (.cells C 29) = W at HH HBW ⊢
  have HT1 := Lib.hid (HT.out.kept HBW.out)
  have hl := (Array.getElem?_eq_some_iff.1 HH.out).1
  obtain ⟨g, hg⟩ : ∃ g, w.heap.size = g := ⟨_, rfl⟩
  rw [hg] at HH hl ⊢
  refine QT.wp_region_facts (by kernel_rfl) (fun w' => Below W.heap.size W w') (fun n v w' => (([.val (.int .u64 a0), .val (.int .u64 a1), .val (.int .i64 (E : Int)), .val (.int .u64 a0), .val (.int .u64 a1), .val (.int .i64 (E : Int)), .val (.bool true), .val (.bool true), .val (.agg C), .val (.int .i64 i), .val (.agg D), .val (.agg C), .val (.int .i64 i), .val (.agg D), .val (.bool true), .val (.bool true), .val (.bool true), .val (.bool true), .val (.bool true), .val (.bool true)] : List FactO).getD n (.val undef) : FactO).holds v w') (by kernel_rfl) (by kernel_rfl) (Below.refl _ _).drew (fun w1 w2 h1 hb => h1.trans (hb.mono h1.size)) (fun n v w1 w2 h hb => FactO.kept _ v w1 w2 h hb) (fun n o ho a wz hI hag hdep => ?_) (fun a wz hI hag hf => ?_)
  · have t0 : a.eval (.tmp 0) = .int .u64 a0 := hag.old 0 _ (by kernel_rfl) rfl
    have t1 : a.eval (.tmp 1) = .int .u64 a1 := hag.old 1 _ (by kernel_rfl) rfl
    have t3 : a.eval (.tmp 3) = .int .i64 i := hag.old 3 _ (by kernel_rfl) rfl
    have t6 : a.eval (.tmp 6) = .pointer (some ⟨g, 0, none⟩) := hag.old 6 _ (by kernel_rfl) rfl
    match n, ho with
    | 0, ho =>
      obtain rfl := (Option.some.inj ho).symm
      exact ⟨rfl, QT.wp_value (BigFrame.run_move (.tmp 0) rfl wz) ⟨_, rfl, t0, Below.refl _ _⟩⟩
    | 1, ho =>
      obtain rfl := (Option.some.inj ho).symm
      exact ⟨rfl, QT.wp_value (BigFrame.run_move (.tmp 1) rfl wz) ⟨_, rfl, t1, Below.refl _ _⟩⟩
    | 2, ho =>
      obtain rfl := (Option.some.inj ho).symm
      have d9 : a.eval (.tmp 9) = .int .u64 a0 := hdep _ (Array.mem_of_getElem? (i := 0) rfl) rfl _ _ rfl rfl
      have d10 : a.eval (.tmp 10) = .int .u64 a1 := hdep _ (Array.mem_of_getElem? (i := 1) rfl) rfl _ _ rfl rfl
      exact ⟨rfl, QT.wp_enter (v := .int .i64 (E : Int)) (f := 11) (args := #[.int .u64 a0, .int .u64 a1]) (R := fun w' => Below wz.heap.size wz w') (by simp [go_sem, QT.nf d9, QT.nf d10]) ((HPC.out wz (HT1.out.kept hI)).mono fun _ _ ⟨h1, h2⟩ => ⟨h1, h2⟩) fun w' h => ⟨_, rfl, rfl, h⟩⟩
    | 3, ho =>
      obtain rfl := (Option.some.inj ho).symm
      exact ⟨rfl, QT.wp_value (BigFrame.run_move (.tmp 0) rfl wz) ⟨_, rfl, t0, Below.refl _ _⟩⟩
    | 4, ho =>
      obtain rfl := (Option.some.inj ho).symm
      exact ⟨rfl, QT.wp_value (BigFrame.run_move (.tmp 1) rfl wz) ⟨_, rfl, t1, Below.refl _ _⟩⟩
    | 5, ho =>
      obtain rfl := (Option.some.inj ho).symm
      have d12 : a.eval (.tmp 12) = .int .u64 a0 := hdep _ (Array.mem_of_getElem? (i := 0) rfl) rfl _ _ rfl rfl
      have d13 : a.eval (.tmp 13) = .int .u64 a1 := hdep _ (Array.mem_of_getElem? (i := 1) rfl) rfl _ _ rfl rfl
      exact ⟨rfl, QT.wp_enter (v := .int .i64 (E : Int)) (f := 15) (args := #[.int .u64 a0, .int .u64 a1]) (R := fun w' => Below wz.heap.size wz w') (by simp [go_sem, QT.nf d12, QT.nf d13]) ((HPR.out wz).mono fun _ _ ⟨h1, h2⟩ => ⟨h1, h2⟩) fun w' h => ⟨_, rfl, rfl, h⟩⟩
    | 6, ho =>
      obtain rfl := (Option.some.inj ho).symm
      have d11 : a.eval (.tmp 11) = .int .i64 (E : Int) := hdep _ (Array.mem_of_getElem? (i := 0) rfl) rfl _ _ rfl rfl
      have d14 : a.eval (.tmp 14) = .int .i64 (E : Int) := hdep _ (Array.mem_of_getElem? (i := 1) rfl) rfl _ _ rfl rfl
      exact ⟨rfl, QT.wp_value (v := .bool true) (by simp [go_sem, QT.nf d11, QT.nf d14]) ⟨_, rfl, rfl, Below.refl _ _⟩⟩
    | 7, ho =>
      obtain rfl := (Option.some.inj ho).symm
      have d15 : a.eval (.tmp 15) = .bool true := hdep _ (Array.mem_of_getElem? (i := 0) rfl) rfl _ _ rfl rfl
      exact ⟨rfl, QT.wp_value (BigFrame.run_move (.tmp 15) rfl wz) ⟨_, rfl, d15, Below.refl _ _⟩⟩
    | 8, ho =>
      obtain rfl := (Option.some.inj ho).symm
      have d16 : a.eval (.tmp 16) = .bool true := hdep _ (Array.mem_of_getElem? (i := 0) rfl) rfl _ _ rfl rfl
      exact ⟨QT.wanted_of rfl rfl rfl d16, wp_load_row 29 (.tmp 6) rfl g t6 29 C (0, 0) _ ((hI.block _ hl).trans HH.out) Tryd.underlying29 rfl HRC.out.info ⟨_, rfl, rfl, Below.refl _ _⟩⟩
    | 9, ho =>
      obtain rfl := (Option.some.inj ho).symm
      have d16 : a.eval (.tmp 16) = .bool true := hdep _ (Array.mem_of_getElem? (i := 0) rfl) rfl _ _ rfl rfl
      exact ⟨QT.wanted_of rfl rfl rfl d16, QT.wp_value (BigFrame.run_move (.tmp 3) rfl wz) ⟨_, rfl, t3, Below.refl _ _⟩⟩
    | 10, ho =>
      obtain rfl := (Option.some.inj ho).symm
      have d17 : a.eval (.tmp 17) = .agg C := hdep _ (Array.mem_of_getElem? (i := 0) rfl) rfl _ _ rfl rfl
      have d18 : a.eval (.tmp 18) = .int .i64 i := hdep _ (Array.mem_of_getElem? (i := 1) rfl) rfl _ _ rfl rfl
      have d16 : a.eval (.tmp 16) = .bool true := hdep _ (Array.mem_of_getElem? (i := 3) rfl) rfl _ _ rfl rfl
      exact ⟨QT.wanted_of rfl rfl rfl d16, QT.wp_enter (v := .agg D) (f := 16) (args := #[.agg C, .int .i64 i]) (R := fun w' => Below wz.heap.size wz w') (by simp [go_sem, QT.nf d17, QT.nf d18]) ((HCC.out wz).mono fun _ _ ⟨h1, h2⟩ => ⟨h1, h2⟩) fun w' h => ⟨_, rfl, rfl, h⟩⟩
    | 11, ho =>
      obtain rfl := (Option.some.inj ho).symm
      have d16 : a.eval (.tmp 16) = .bool true := hdep _ (Array.mem_of_getElem? (i := 0) rfl) rfl _ _ rfl rfl
      exact ⟨QT.wanted_of rfl rfl rfl d16, wp_load_row 29 (.tmp 6) rfl g t6 29 C (0, 0) _ ((hI.block _ hl).trans HH.out) Tryd.underlying29 rfl HRC.out.info ⟨_, rfl, rfl, Below.refl _ _⟩⟩
    | 12, ho =>
      obtain rfl := (Option.some.inj ho).symm
      have d16 : a.eval (.tmp 16) = .bool true := hdep _ (Array.mem_of_getElem? (i := 0) rfl) rfl _ _ rfl rfl
      exact ⟨QT.wanted_of rfl rfl rfl d16, QT.wp_value (BigFrame.run_move (.tmp 3) rfl wz) ⟨_, rfl, t3, Below.refl _ _⟩⟩
    | 13, ho =>
      obtain rfl := (Option.some.inj ho).symm
      have d20 : a.eval (.tmp 20) = .agg C := hdep _ (Array.mem_of_getElem? (i := 0) rfl) rfl _ _ rfl rfl
      have d21 : a.eval (.tmp 21) = .int .i64 i := hdep _ (Array.mem_of_getElem? (i := 1) rfl) rfl _ _ rfl rfl
      have d16 : a.eval (.tmp 16) = .bool true := hdep _ (Array.mem_of_getElem? (i := 3) rfl) rfl _ _ rfl rfl
      exact ⟨QT.wanted_of rfl rfl rfl d16, QT.wp_enter (v := .agg D) (f := 17) (args := #[.agg C, .int .i64 i]) (R := fun w' => Below wz.heap.size wz w') (by simp [go_sem, QT.nf d20, QT.nf d21]) ((HCR.out wz).mono fun _ _ ⟨h1, h2⟩ => ⟨h1, h2⟩) fun w' h => ⟨_, rfl, rfl, h⟩⟩
    | 14, ho =>
      obtain rfl := (Option.some.inj ho).symm
      have d19 : a.eval (.tmp 19) = .agg D := hdep _ (Array.mem_of_getElem? (i := 0) rfl) rfl _ _ rfl rfl
      have d22 : a.eval (.tmp 22) = .agg D := hdep _ (Array.mem_of_getElem? (i := 1) rfl) rfl _ _ rfl rfl
      have d16 : a.eval (.tmp 16) = .bool true := hdep _ (Array.mem_of_getElem? (i := 2) rfl) rfl _ _ rfl rfl
      have q : (binOp .eql 43 (.agg D) (.agg D)).run Tryd.prog wz = .ok (.bool true) wz := by rw [run_eql_struct, HQ.out wz]; rfl
      have qg : (eqGuard .eql 43 (.tmp 19) (.tmp 22) (.agg D) (.agg D)).run Tryd.prog wz = .ok () wz := run_eqGuard_agg _ _ _ _ _ _ _ (by kernel_rfl)
      exact ⟨QT.wanted_of rfl rfl rfl d16, QT.wp_value (v := .bool true) (by unfold execOp; simp only [d19, d22, Sem.run_bind, Sem.run_pure, qg, q, Result.andThen_ok]) ⟨_, rfl, rfl, Below.refl _ _⟩⟩
    | 15, ho =>
      obtain rfl := (Option.some.inj ho).symm
      have d16 : a.eval (.tmp 16) = .bool true := hdep _ (Array.mem_of_getElem? (i := 0) rfl) rfl _ _ rfl rfl
      have d23 : a.eval (.tmp 23) = .bool true := hdep _ (Array.mem_of_getElem? (i := 1) rfl) rfl _ _ rfl rfl
      exact ⟨rfl, QT.wp_value (v := .bool true) (by simp [go_sem, QT.nf d16, QT.nf d23]) ⟨_, rfl, rfl, Below.refl _ _⟩⟩
    | 16, ho =>
      obtain rfl := (Option.some.inj ho).symm
      have d24 : a.eval (.tmp 24) = .bool true := hdep _ (Array.mem_of_getElem? (i := 0) rfl) rfl _ _ rfl rfl
      exact ⟨rfl, QT.wp_value (BigFrame.run_move (.tmp 24) rfl wz) ⟨_, rfl, d24, Below.refl _ _⟩⟩
    | 17, ho =>
      obtain rfl := (Option.some.inj ho).symm
      have d25 : a.eval (.tmp 25) = .bool true := hdep _ (Array.mem_of_getElem? (i := 1) rfl) rfl _ _ rfl rfl
      exact ⟨QT.wanted_of rfl rfl rfl d25, QT.wp_enter (v := .bool true) (f := 10) (args := #[]) (R := fun w' => Below wz.heap.size wz w') (by simp [go_sem]) ((HWK.out wz (HT1.out.kept hI)).mono fun _ _ ⟨h1, h2⟩ => ⟨h1, h2⟩) fun w' h => ⟨_, rfl, rfl, h⟩⟩
    | 18, ho =>
      obtain rfl := (Option.some.inj ho).symm
      have d25 : a.eval (.tmp 25) = .bool true := hdep _ (Array.mem_of_getElem? (i := 0) rfl) rfl _ _ rfl rfl
      have d26 : a.eval (.tmp 26) = .bool true := hdep _ (Array.mem_of_getElem? (i := 1) rfl) rfl _ _ rfl rfl
      exact ⟨rfl, QT.wp_value (v := .bool true) (by simp [go_sem, QT.nf d25, QT.nf d26]) ⟨_, rfl, rfl, Below.refl _ _⟩⟩
    | 19, ho =>
      obtain rfl := (Option.some.inj ho).symm
      have d27 : a.eval (.tmp 27) = .bool true := hdep _ (Array.mem_of_getElem? (i := 0) rfl) rfl _ _ rfl rfl
      exact ⟨rfl, QT.wp_value (BigFrame.run_assign (.tmp 27) rfl wz) ⟨_, rfl, d27, Below.refl _ _⟩⟩
    | n + 20, ho => simp at ho
  · have f0 : a.eval (.tmp 9) = .int .u64 a0 := hf 0 _ _ rfl rfl
    have f1 : a.eval (.tmp 10) = .int .u64 a1 := hf 1 _ _ rfl rfl
    have f2 : a.eval (.tmp 11) = .int .i64 (E : Int) := hf 2 _ _ rfl rfl
    have f3 : a.eval (.tmp 12) = .int .u64 a0 := hf 3 _ _ rfl rfl
    have f4 : a.eval (.tmp 13) = .int .u64 a1 := hf 4 _ _ rfl rfl
    have f5 : a.eval (.tmp 14) = .int .i64 (E : Int) := hf 5 _ _ rfl rfl
    have f6 : a.eval (.tmp 15) = .bool true := hf 6 _ _ rfl rfl
    have f7 : a.eval (.tmp 16) = .bool true := hf 7 _ _ rfl rfl
    have f8 : a.eval (.tmp 17) = .agg C := hf 8 _ _ rfl rfl
    have f9 : a.eval (.tmp 18) = .int .i64 i := hf 9 _ _ rfl rfl
    have f10 : a.eval (.tmp 19) = .agg D := hf 10 _ _ rfl rfl
    have f11 : a.eval (.tmp 20) = .agg C := hf 11 _ _ rfl rfl
    have f12 : a.eval (.tmp 21) = .int .i64 i := hf 12 _ _ rfl rfl
    have f13 : a.eval (.tmp 22) = .agg D := hf 13 _ _ rfl rfl
    have f14 : a.eval (.tmp 23) = .bool true := hf 14 _ _ rfl rfl
    have f15 : a.eval (.tmp 24) = .bool true := hf 15 _ _ rfl rfl
    have f16 : a.eval (.tmp 25) = .bool true := hf 16 _ _ rfl rfl
    have f17 : a.eval (.tmp 26) = .bool true := hf 17 _ _ rfl rfl
    have f18 : a.eval (.tmp 27) = .bool true := hf 18 _ _ rfl rfl
    have f19 : a.eval (.tmp 8) = .bool true := hf 19 _ _ rfl rfl
    have ha := hag.puts [(9, .int .u64 a0), (10, .int .u64 a1), (11, .int .i64 (E : Int)), (12, .int .u64 a0), (13, .int .u64 a1), (14, .int .i64 (E : Int)), (15, .bool true), (16, .bool true), (17, .agg C), (18, .int .i64 i), (19, .agg D), (20, .agg C), (21, .int .i64 i), (22, .agg D), (23, .bool true), (24, .bool true), (25, .bool true), (26, .bool true), (27, .bool true), (8, .bool true)] rfl (by simp) (by simp only [List.forall_mem_cons, List.not_mem_nil, false_implies, implies_true, and_true]; exact ⟨f0, f1, f2, f3, f4, f5, f6, f7, f8, f9, f10, f11, f12, f13, f14, f15, f16, f17, f18, f19⟩)
    subst ha
    clear hag hf f0 f1 f2 f3 f4 f5 f6 f7 f8 f9 f10 f11 f12 f13 f14 f15 f16 f17 f18 f19
    simp only [List.foldl_cons, List.foldl_nil, Act.put, List.setIfInBounds_toArray, List.set_cons_succ, List.set_cons_zero]
    have HBI := Lib.hid (HBW.out.trans (hI.mono HBW.out.size))
    clear hI
    go_wp2_with fail
    go_ret
    exact ⟨rfl, HBI.out⟩

end Go.Proofs.YtdgaoebjbhomdaaDoor.Og
