/- origin: the code's putList. -/
import Derived.Test.YtdgaoebjbhomdaaDoorOgC
namespace Go.Proofs.YtdgaoebjbhomdaaDoor.Og
open Go.RowKit Go.Proofs.YtdgaoebjbhomdaaDoor.Sha Go.Proofs.YtdgaoebjbhomdaaDoor.Gr Go.Proofs.YtdgaoebjbhomdaaDoor.Digit Go.Proofs.YtdgaoebjbhomdaaDoor.Deed


theorem nL_nat (n : Nat) (h : n ≤ 1000000) : nL (UInt64.ofNat n) = putL n := by unfold nL; rw [UInt64.toNat_ofNat', Nat.mod_eq_of_lt (by omega)]
theorem nV_nat (n : Nat) (h : n ≤ 1000000) : nV (UInt64.ofNat n) = .int .u64 n := by unfold nV; rw [UInt64.toNat_ofNat', Nat.mod_eq_of_lt (by omega)]
theorem ku_new (W : World) {n : UInt64} {m k : Nat} (hk : W.heap.size = k) (h : nV n = .int .u64 m) : KU.At (W.alloc (.cells #[.int .u64 m] 22)) (.slice (some ⟨k, 0, none⟩) 1 1) [n] := by
  subst hk
  refine Or.inr ⟨_, 0, 1, rfl, by simp, by simp, fun j u hj => ?_⟩
  rw [Nat.zero_add, Lib.cell_of_heap (heap_alloc_new W _), ← h]
  simpa [KU, Kind.flat] using hj
theorem outL_le (x : OutD) : (outL x).length ≤ 200 := Nat.le_trans (outL_len x) (by decide)
theorem seatL_le (x : SeatD) : (seatL x).length ≤ 200 := by
  have h1 := nL_len x.pledge
  have h2 := nL_len x.cost
  have h3 := nL_len x.margin
  have h4 := x.pool.2
  have h5 := x.key.2
  unfold seatL
  simp only [List.length_append]
  omega
theorem trustL_le (x : TrustD) : (trustL x).length ≤ 200 := by
  have h4 := x.pool.2
  have h5 := x.key.2
  unfold trustL
  simp only [List.length_append]
  omega


set_option maxRecDepth 100000 in
set_option maxHeartbeats 1600000 in
theorem code_listC (v : Value) (L : List OutD) (w : World) (hT : KOut.At w v L) (hL : L.length ≤ 100000) :
    Calls Tryd.prog 37 #[v, .func (.func 38) #[] #[]] w fun e w' => e = .returned (.string (bs (listL outL L))) ∧ Below w.heap.size w w' := by
  obtain ⟨a, cap, rfl, hcap⟩ := hT.form
  have HT := Lib.hid hT
  have HF := Lib.hid (flat_le outL 200 outL_le L)
  have HL := Lib.hid hL
  have HPL := Lib.hid (putL_len L.length)
  have HNV := Lib.hid (nV_nat L.length (by omega))
  have HNB := Lib.hid (fun v w h => told (code_numbers v [UInt64.ofNat L.length] w h (by simp)) (show bs ([UInt64.ofNat L.length].flatMap nL) = bs (putL L.length) by rw [List.flatMap_singleton, nL_nat L.length (by omega)]))
  clear hT
  go_enter Tryd.func37, Tryd.ntmps37
  go_upto_region 3 with (first
    | (go_at_call 35; refine (HNB.out _ _ (ku_new _ (by simp) HNV.out)).mono ?_; rintro e w1 ⟨rfl, hb1⟩; have HB1 := Lib.hid (show Below (w.heap.size + 1) (w.alloc (.cells #[.pointer none, .slice none 0 0] 111)) w1 from (((Below.refl _ _).alloc (by simp) _).trans (hb1.mono (by simp)))); clear hb1)
    | (go_at_call 65; refine (bat_write (l := []) (builder_kept (Lib.fresh_isBuilder 111 5 w) (HB1.out.mono (by simp))) (putL L.length) (by have := HPL.out; simp only [List.length_nil]; omega) (Nat.le_trans (by simp) HB1.out.size)).mono ?_; rintro e w2 ⟨rfl, hat2, hb2⟩; have HAT2 := Lib.hid hat2; have HB2 := Lib.hid hb2; clear hat2 hb2))
  have HBB := Lib.hid (show Below w.heap.size w w2 from ((Below.refl _ _).alloc (Nat.le_refl _) _).trans ((HB1.out.mono (by simp)).trans HB2.out))
  go_upto_region 4 with (fail)
  go_loopw [16] (fun i wr => ∃ k : Nat, k ≤ L.length ∧ i = .int .i64 k ∧ BAt w.heap.size (putL L.length ++ (L.take k).flatMap outL) wr ∧ Below w.heap.size w wr) (fun i _ => L.length - (intOf i).toNat)
  case atStart => exact ⟨0, Nat.zero_le _, rfl, by rw [List.take_zero, List.flatMap_nil, List.append_nil]; have h := HAT2.out; rwa [List.nil_append] at h, HBB.out⟩
  case round =>
    obtain ⟨k, hk, rfl, hbld, hb⟩ := hrel
    have HBLD := Lib.hid hbld
    have HB := Lib.hid hb
    clear hbld hb
    by_cases hlt : k < L.length
    · obtain ⟨g, o, cap', ha, _, hr⟩ := (HT.out.kept HB.out).some (by omega)
      have hx := List.getElem?_eq_getElem hlt
      obtain ⟨x, hxx⟩ : ∃ x, L[k] = x := ⟨_, rfl⟩
      rw [hxx] at hx
      have HRX := Lib.hid (range_at hr hx)
      have HTK := Lib.hid (take_flat outL L k x hx)
      have HTL := Lib.hid (flat_take_le outL L (k + 1))
      have HIX := Lib.hid (KOut.infoL x)
      injection ha with ha1 _ ha2
      subst ha1 ha2
      have HP := Lib.hid (fun w => code_putCoin x w)
      have hki : (k : Int) < (L.length : Int) := by omega
      obtain ⟨C, hC⟩ : ∃ C, (KOut.enc x).toArray = C := ⟨_, rfl⟩
      have HC := Lib.hid hC
      have HIC := Lib.hid (KOut.infoA x)
      rw [hC] at HIC HP
      clear hC hxx hx hr
      go_wp2_with (first
        | (go_at_call 38; refine (HP.out _).mono ?_; rintro e w3 ⟨rfl, hb3⟩; have HB3 := Lib.hid (hbv.trans (hb3.mono hbv.size)); clear hb3)
        | (go_at_call 65; refine (bat_write (builder_kept HBLD.out HB3.out) (outL x) (by
            have h1 := HF.out
            have h2 := HL.out
            have h3 := HTL.out
            have h4 := HPL.out
            rw [HTK.out, List.length_append] at h3
            rw [List.length_append]
            omega) (Nat.le_trans HB.out.size HB3.out.size)).mono ?_; rintro e w4 ⟨rfl, hat4, hb4⟩; have HAT4 := Lib.hid hat4; have HB4 := Lib.hid hb4; clear hat4 hb4)
        | (refine wpList_load_mid rfl 52 (.tmp 18) rfl g (o + k * 65) rfl (KOut.enc x) _ HRX.out Tryd.underlying52 rfl HIX.out ?_; rw [HC.out]; go_frame)
        | (refine wpList_new_thing KOut (z32 ++ (z32 ++ [Value.int .u64 0])).toArray rfl x HC.out (.tmp 7) (.tmp 19) rfl rfl rfl rfl (fun _ => rfl) (fun _ => rfl) ?_; intro wv hhv hsv hbv; go_frame)
        | (refine wpList_load_row rfl 52 (.tmp 7) rfl wr.heap.size rfl 52 C (0, 0) _ hhv Tryd.underlying52 rfl HIC.out ?_))
      go_roundw
      case rel => exact ⟨k + 1, by omega, by go_num, by rw [HTK.out, ← List.append_assoc]; exact HAT4.out, (HB.out.trans (HB3.out.mono HB.out.size)).trans HB4.out⟩
      case measure => simp [intOf]; omega
    · obtain rfl : k = L.length := by omega
      have HS := HBLD.out
      rw [List.take_length] at HS
      have HST := Lib.hid (Tryd.Builder_String_any w.heap.size w.heap.size (putL L.length ++ L.flatMap outL) wr HS HB.out.size)
      clear HS
      obtain ⟨R, hR⟩ : ∃ R, bs (listL outL L) = R := ⟨_, rfl⟩
      have HR := Lib.hid hR
      unfold bs listL at hR
      rw [hR] at HST
      clear hR
      go_wp2_with (refine HST.out.mono ?_; rintro e w5 ⟨rfl, hb5⟩)
      go_ret
      exact ⟨by rw [HR.out]; rfl, HB.out.trans hb5⟩


set_option maxRecDepth 100000 in
set_option maxHeartbeats 1600000 in
theorem code_listS (v : Value) (L : List SeatD) (w : World) (hT : KSeat.At w v L) (hL : L.length ≤ 100000) :
    Calls Tryd.prog 39 #[v, .func (.func 40) #[] #[]] w fun e w' => e = .returned (.string (bs (listL seatL L))) ∧ Below w.heap.size w w' := by
  obtain ⟨a, cap, rfl, hcap⟩ := hT.form
  have HT := Lib.hid hT
  have HF := Lib.hid (flat_le seatL 200 seatL_le L)
  have HL := Lib.hid hL
  have HPL := Lib.hid (putL_len L.length)
  have HNV := Lib.hid (nV_nat L.length (by omega))
  have HNB := Lib.hid (fun v w h => told (code_numbers v [UInt64.ofNat L.length] w h (by simp)) (show bs ([UInt64.ofNat L.length].flatMap nL) = bs (putL L.length) by rw [List.flatMap_singleton, nL_nat L.length (by omega)]))
  clear hT
  go_enter Tryd.func39, Tryd.ntmps39
  go_upto_region 3 with (first
    | (go_at_call 35; refine (HNB.out _ _ (ku_new _ (by simp) HNV.out)).mono ?_; rintro e w1 ⟨rfl, hb1⟩; have HB1 := Lib.hid (show Below (w.heap.size + 1) (w.alloc (.cells #[.pointer none, .slice none 0 0] 111)) w1 from (((Below.refl _ _).alloc (by simp) _).trans (hb1.mono (by simp)))); clear hb1)
    | (go_at_call 65; refine (bat_write (l := []) (builder_kept (Lib.fresh_isBuilder 111 5 w) (HB1.out.mono (by simp))) (putL L.length) (by have := HPL.out; simp only [List.length_nil]; omega) (Nat.le_trans (by simp) HB1.out.size)).mono ?_; rintro e w2 ⟨rfl, hat2, hb2⟩; have HAT2 := Lib.hid hat2; have HB2 := Lib.hid hb2; clear hat2 hb2))
  have HBB := Lib.hid (show Below w.heap.size w w2 from ((Below.refl _ _).alloc (Nat.le_refl _) _).trans ((HB1.out.mono (by simp)).trans HB2.out))
  go_upto_region 4 with (fail)
  go_loopw [16] (fun i wr => ∃ k : Nat, k ≤ L.length ∧ i = .int .i64 k ∧ BAt w.heap.size (putL L.length ++ (L.take k).flatMap seatL) wr ∧ Below w.heap.size w wr) (fun i _ => L.length - (intOf i).toNat)
  case atStart => exact ⟨0, Nat.zero_le _, rfl, by rw [List.take_zero, List.flatMap_nil, List.append_nil]; have h := HAT2.out; rwa [List.nil_append] at h, HBB.out⟩
  case round =>
    obtain ⟨k, hk, rfl, hbld, hb⟩ := hrel
    have HBLD := Lib.hid hbld
    have HB := Lib.hid hb
    clear hbld hb
    by_cases hlt : k < L.length
    · obtain ⟨g, o, cap', ha, _, hr⟩ := (HT.out.kept HB.out).some (by omega)
      have hx := List.getElem?_eq_getElem hlt
      obtain ⟨x, hxx⟩ : ∃ x, L[k] = x := ⟨_, rfl⟩
      rw [hxx] at hx
      have HRX := Lib.hid (range_at hr hx)
      have HTK := Lib.hid (take_flat seatL L k x hx)
      have HTL := Lib.hid (flat_take_le seatL L (k + 1))
      have HIX := Lib.hid (KSeat.infoL x)
      injection ha with ha1 _ ha2
      subst ha1 ha2
      have HP := Lib.hid (fun w => code_putSeat x w)
      have hki : (k : Int) < (L.length : Int) := by omega
      obtain ⟨C, hC⟩ : ∃ C, (KSeat.enc x).toArray = C := ⟨_, rfl⟩
      have HC := Lib.hid hC
      have HIC := Lib.hid (KSeat.infoA x)
      rw [hC] at HIC HP
      clear hC hxx hx hr
      go_wp2_with (first
        | (go_at_call 40; refine (HP.out _).mono ?_; rintro e w3 ⟨rfl, hb3⟩; have HB3 := Lib.hid (hbv.trans (hb3.mono hbv.size)); clear hb3)
        | (go_at_call 65; refine (bat_write (builder_kept HBLD.out HB3.out) (seatL x) (by
            have h1 := HF.out
            have h2 := HL.out
            have h3 := HTL.out
            have h4 := HPL.out
            rw [HTK.out, List.length_append] at h3
            rw [List.length_append]
            omega) (Nat.le_trans HB.out.size HB3.out.size)).mono ?_; rintro e w4 ⟨rfl, hat4, hb4⟩; have HAT4 := Lib.hid hat4; have HB4 := Lib.hid hb4; clear hat4 hb4)
        | (refine wpList_load_mid rfl 67 (.tmp 18) rfl g (o + k * 67) rfl (KSeat.enc x) _ HRX.out Tryd.underlying67 rfl HIX.out ?_; rw [HC.out]; go_frame)
        | (refine wpList_new_thing KSeat zSeat.toArray rfl x HC.out (.tmp 7) (.tmp 19) rfl rfl rfl rfl (fun _ => rfl) (fun _ => rfl) ?_; intro wv hhv hsv hbv; go_frame)
        | (refine wpList_load_row rfl 67 (.tmp 7) rfl wr.heap.size rfl 67 C (0, 0) _ hhv Tryd.underlying67 rfl HIC.out ?_))
      go_roundw
      case rel => exact ⟨k + 1, by omega, by go_num, by rw [HTK.out, ← List.append_assoc]; exact HAT4.out, (HB.out.trans (HB3.out.mono HB.out.size)).trans HB4.out⟩
      case measure => simp [intOf]; omega
    · obtain rfl : k = L.length := by omega
      have HS := HBLD.out
      rw [List.take_length] at HS
      have HST := Lib.hid (Tryd.Builder_String_any w.heap.size w.heap.size (putL L.length ++ L.flatMap seatL) wr HS HB.out.size)
      clear HS
      obtain ⟨R, hR⟩ : ∃ R, bs (listL seatL L) = R := ⟨_, rfl⟩
      have HR := Lib.hid hR
      unfold bs listL at hR
      rw [hR] at HST
      clear hR
      go_wp2_with (refine HST.out.mono ?_; rintro e w5 ⟨rfl, hb5⟩)
      go_ret
      exact ⟨by rw [HR.out]; rfl, HB.out.trans hb5⟩


set_option maxRecDepth 100000 in
set_option maxHeartbeats 1600000 in
theorem code_listT (v : Value) (L : List TrustD) (w : World) (hT : KTrust.At w v L) (hL : L.length ≤ 100000) :
    Calls Tryd.prog 41 #[v, .func (.func 42) #[] #[]] w fun e w' => e = .returned (.string (bs (listL trustL L))) ∧ Below w.heap.size w w' := by
  obtain ⟨a, cap, rfl, hcap⟩ := hT.form
  have HT := Lib.hid hT
  have HF := Lib.hid (flat_le trustL 200 trustL_le L)
  have HL := Lib.hid hL
  have HPL := Lib.hid (putL_len L.length)
  have HNV := Lib.hid (nV_nat L.length (by omega))
  have HNB := Lib.hid (fun v w h => told (code_numbers v [UInt64.ofNat L.length] w h (by simp)) (show bs ([UInt64.ofNat L.length].flatMap nL) = bs (putL L.length) by rw [List.flatMap_singleton, nL_nat L.length (by omega)]))
  clear hT
  go_enter Tryd.func41, Tryd.ntmps41
  go_upto_region 3 with (first
    | (go_at_call 35; refine (HNB.out _ _ (ku_new _ (by simp) HNV.out)).mono ?_; rintro e w1 ⟨rfl, hb1⟩; have HB1 := Lib.hid (show Below (w.heap.size + 1) (w.alloc (.cells #[.pointer none, .slice none 0 0] 111)) w1 from (((Below.refl _ _).alloc (by simp) _).trans (hb1.mono (by simp)))); clear hb1)
    | (go_at_call 65; refine (bat_write (l := []) (builder_kept (Lib.fresh_isBuilder 111 5 w) (HB1.out.mono (by simp))) (putL L.length) (by have := HPL.out; simp only [List.length_nil]; omega) (Nat.le_trans (by simp) HB1.out.size)).mono ?_; rintro e w2 ⟨rfl, hat2, hb2⟩; have HAT2 := Lib.hid hat2; have HB2 := Lib.hid hb2; clear hat2 hb2))
  have HBB := Lib.hid (show Below w.heap.size w w2 from ((Below.refl _ _).alloc (Nat.le_refl _) _).trans ((HB1.out.mono (by simp)).trans HB2.out))
  go_upto_region 4 with (fail)
  go_loopw [16] (fun i wr => ∃ k : Nat, k ≤ L.length ∧ i = .int .i64 k ∧ BAt w.heap.size (putL L.length ++ (L.take k).flatMap trustL) wr ∧ Below w.heap.size w wr) (fun i _ => L.length - (intOf i).toNat)
  case atStart => exact ⟨0, Nat.zero_le _, rfl, by rw [List.take_zero, List.flatMap_nil, List.append_nil]; have h := HAT2.out; rwa [List.nil_append] at h, HBB.out⟩
  case round =>
    obtain ⟨k, hk, rfl, hbld, hb⟩ := hrel
    have HBLD := Lib.hid hbld
    have HB := Lib.hid hb
    clear hbld hb
    by_cases hlt : k < L.length
    · obtain ⟨g, o, cap', ha, _, hr⟩ := (HT.out.kept HB.out).some (by omega)
      have hx := List.getElem?_eq_getElem hlt
      obtain ⟨x, hxx⟩ : ∃ x, L[k] = x := ⟨_, rfl⟩
      rw [hxx] at hx
      have HRX := Lib.hid (range_at hr hx)
      have HTK := Lib.hid (take_flat trustL L k x hx)
      have HTL := Lib.hid (flat_take_le trustL L (k + 1))
      have HIX := Lib.hid (KTrust.infoL x)
      injection ha with ha1 _ ha2
      subst ha1 ha2
      have HP := Lib.hid (fun w => code_putTrust x w)
      have hki : (k : Int) < (L.length : Int) := by omega
      obtain ⟨C, hC⟩ : ∃ C, (KTrust.enc x).toArray = C := ⟨_, rfl⟩
      have HC := Lib.hid hC
      have HIC := Lib.hid (KTrust.infoA x)
      rw [hC] at HIC HP
      clear hC hxx hx hr
      go_wp2_with (first
        | (go_at_call 42; refine (HP.out _).mono ?_; rintro e w3 ⟨rfl, hb3⟩; have HB3 := Lib.hid (hbv.trans (hb3.mono hbv.size)); clear hb3)
        | (go_at_call 65; refine (bat_write (builder_kept HBLD.out HB3.out) (trustL x) (by
            have h1 := HF.out
            have h2 := HL.out
            have h3 := HTL.out
            have h4 := HPL.out
            rw [HTK.out, List.length_append] at h3
            rw [List.length_append]
            omega) (Nat.le_trans HB.out.size HB3.out.size)).mono ?_; rintro e w4 ⟨rfl, hat4, hb4⟩; have HAT4 := Lib.hid hat4; have HB4 := Lib.hid hb4; clear hat4 hb4)
        | (refine wpList_load_mid rfl 69 (.tmp 18) rfl g (o + k * 64) rfl (KTrust.enc x) _ HRX.out Tryd.underlying69 rfl HIX.out ?_; rw [HC.out]; go_frame)
        | (refine wpList_new_thing KTrust (z32 ++ z32).toArray rfl x HC.out (.tmp 7) (.tmp 19) rfl rfl rfl rfl (fun _ => rfl) (fun _ => rfl) ?_; intro wv hhv hsv hbv; go_frame)
        | (refine wpList_load_row rfl 69 (.tmp 7) rfl wr.heap.size rfl 69 C (0, 0) _ hhv Tryd.underlying69 rfl HIC.out ?_))
      go_roundw
      case rel => exact ⟨k + 1, by omega, by go_num, by rw [HTK.out, ← List.append_assoc]; exact HAT4.out, (HB.out.trans (HB3.out.mono HB.out.size)).trans HB4.out⟩
      case measure => simp [intOf]; omega
    · obtain rfl : k = L.length := by omega
      have HS := HBLD.out
      rw [List.take_length] at HS
      have HST := Lib.hid (Tryd.Builder_String_any w.heap.size w.heap.size (putL L.length ++ L.flatMap trustL) wr HS HB.out.size)
      clear HS
      obtain ⟨R, hR⟩ : ∃ R, bs (listL trustL L) = R := ⟨_, rfl⟩
      have HR := Lib.hid hR
      unfold bs listL at hR
      rw [hR] at HST
      clear hR
      go_wp2_with (refine HST.out.mono ?_; rintro e w5 ⟨rfl, hb5⟩)
      go_ret
      exact ⟨by rw [HR.out]; rfl, HB.out.trans hb5⟩

end Go.Proofs.YtdgaoebjbhomdaaDoor.Og
