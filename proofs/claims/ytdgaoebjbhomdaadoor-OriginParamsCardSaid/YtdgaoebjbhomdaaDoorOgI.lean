/- origin: the code's maySeats, mayTrusts. -/
import Derived.Test.YtdgaoebjbhomdaaDoorOgH
namespace Go.Proofs.YtdgaoebjbhomdaaDoor.Og
open Go.RowKit Go.Proofs.YtdgaoebjbhomdaaDoor.Sha Go.Proofs.YtdgaoebjbhomdaaDoor.Gr Go.Proofs.YtdgaoebjbhomdaaDoor.Digit Go.Proofs.YtdgaoebjbhomdaaDoor.Deed Go.Proofs.YtdgaoebjbhomdaaDoor.Tree

theorem eq_zero (h : H32) (w : World) : (Op.equalIn 10000 29 (.agg (valsB h.1).toArray) (.agg zHash)).run Tryd.prog w = .ok (decide (h = Deed.h0)) w := eq_h h Deed.h0 w
theorem seatI_at {L : List SeatD} {i : Nat} {x : SeatD} (h : L[i]? = some x) : seatI L i = seatB x := by unfold seatI; rw [geD h]
theorem trustI_at {S : List SeatD} {L : List TrustD} {i : Nat} {x : TrustD} (h : L[i]? = some x) : trustI S L i = (decide (x.pool = Deed.h0) || hasP S x.pool) := by unfold trustI; rw [geD h]


set_option maxRecDepth 100000 in
set_option maxHeartbeats 1600000 in
theorem code_maySeats (v : Value) (L : List SeatD) (w : World) (hT : KSeat.At w v L) (hL : L.length ≤ 1000000) : Calls Tryd.prog 47 #[v] w fun e w' => e = .returned (.bool (seatsB L)) ∧ Below w.heap.size w w' := by
  obtain ⟨a, cap, rfl, hcap⟩ := hT.form
  have HT := Lib.hid hT
  have HRI := Lib.hid (fun w h => code_riseKSeat (.slice a L.length cap) L w h hL)
  clear hT
  unfold seatsB
  obtain ⟨r1, hr1⟩ : ∃ r, allN L.length (seatI L) = r := ⟨_, rfl⟩
  obtain ⟨r2, hr2⟩ : ∃ r, allN L.length (upI poolK L) = r := ⟨_, rfl⟩
  rw [hr2] at HRI
  rw [hr1, hr2]
  have HR1 := Lib.hid hr1
  clear hr1 hr2
  go_enter Tryd.func47, Tryd.ntmps47
  go_upto_region 2 with (fail)
  go_loopw [7] (fun iv wr => ∃ i : Nat, i ≤ L.length ∧ iv = .int .i64 i ∧ (∀ j, j < i → seatI L j = true) ∧ Below w.heap.size w wr) (fun iv _ => L.length - (intOf iv).toNat)
  case atStart => exact ⟨0, Nat.zero_le _, rfl, fun j hj => absurd hj (Nat.not_lt_zero _), Below.refl _ _⟩
  case round =>
    obtain ⟨i, hi, rfl, hall, hb⟩ := hrel
    have HALL := Lib.hid hall
    have HB := Lib.hid hb
    clear hall hb
    by_cases hlt : i < L.length
    · obtain ⟨g, oo, cap', ha, _, hr⟩ := (HT.out.kept HB.out).some (by omega)
      have hx := List.getElem?_eq_getElem hlt
      obtain ⟨x, hxx⟩ : ∃ x, L[i] = x := ⟨_, rfl⟩
      rw [hxx] at hx
      have HRX := Lib.hid (range_at hr hx)
      have HX := Lib.hid (seatI_at hx)
      have HIX := Lib.hid (KSeat.infoL x)
      injection ha with ha1 _ ha2
      subst ha1 ha2
      have hki : (i : Int) < (L.length : Int) := by omega
      obtain ⟨C, hC⟩ : ∃ C, (KSeat.enc x).toArray = C := ⟨_, rfl⟩
      have HC := Lib.hid hC
      have HP := Lib.hid (fun (w : World) (g : Nat) (h : w.heap[g]? = some (.cells C KSeat.T (0, 0))) => Seat_parts (s := x) (range_heap (by rw [hC]; exact h)))
      obtain ⟨pl, hpl⟩ : ∃ n, x.pledge.toNat = n := ⟨_, rfl⟩
      obtain ⟨co, hco⟩ : ∃ n, x.cost.toNat = n := ⟨_, rfl⟩
      obtain ⟨ma, hma⟩ : ∃ n, x.margin.toNat = n := ⟨_, rfl⟩
      have HSB := Lib.hid (show seatB x = (decide (pl ≤ 9223372036854775807) && (decide (co ≤ 9223372036854775807) && decide (ma ≤ 1000))) by unfold seatB; rw [hpl, hco, hma])
      have HVP := Lib.hid (show nV x.pledge = .int .u64 pl by unfold nV; rw [hpl])
      have HVC := Lib.hid (show nV x.cost = .int .u64 co by unfold nV; rw [hco])
      have HVM := Lib.hid (show nV x.margin = .int .u64 ma by unfold nV; rw [hma])
      clear hC hxx hx hr hpl hco hma
      go_upto_region 4 with (first
        | (refine wpList_load_mid rfl 67 (.tmp 9) rfl g (oo + i * 67) rfl (KSeat.enc x) _ HRX.out Tryd.underlying67 rfl HIX.out ?_; rw [HC.out]; go_frame)
        | (refine wpList_new_thing KSeat zSeat.toArray rfl x HC.out (.tmp 4) (.tmp 10) rfl rfl rfl rfl (fun _ => rfl) (fun _ => rfl) ?_; intro wv hhv hsv hbv; go_frame))
      have hq := HP.out wv _ hhv
      have p1 := hq.pledge
      have p2 := hq.cost
      have p3 := hq.margin
      rw [HVP.out, Nat.zero_add] at p1
      rw [HVC.out, Nat.zero_add] at p2
      rw [HVM.out, Nat.zero_add] at p3
      have HBV := Lib.hid (HB.out.trans (hbv.mono HB.out.size))
      clear hq hhv hsv hbv
      by_cases c1 : pl ≤ 9223372036854775807
      · have d1 : decide ((9223372036854775808 : Int) ≤ (pl : Int)) = false := decide_eq_false (by omega)
        by_cases c2 : co ≤ 9223372036854775807
        · have d2 : decide ((9223372036854775808 : Int) ≤ (co : Int)) = false := decide_eq_false (by omega)
          by_cases c3 : ma ≤ 1000
          · have d3 : decide ((1000 : Int) < (ma : Int)) = false := decide_eq_false (by omega)
            have HY := Lib.hid (show seatI L i = true by rw [HX.out, HSB.out]; simp; omega)
            go_wp2_with fail
            go_roundw
            case rel => exact ⟨i + 1, by omega, by go_num, fun j hj => by
              rcases Nat.lt_or_ge j i with h | h
              · exact HALL.out j h
              · obtain rfl : j = i := by omega
                exact HY.out, HBV.out⟩
            case measure => simp [intOf]; omega
          · have d3 : decide ((1000 : Int) < (ma : Int)) = true := decide_eq_true (by omega)
            have hrr : r1 = false := by rw [← HR1.out]; exact allN_no i hlt (by rw [HX.out, HSB.out]; simp; omega)
            subst hrr
            go_wp2_with fail
            go_ret
            exact ⟨rfl, HBV.out⟩
        · have d2 : decide ((9223372036854775808 : Int) ≤ (co : Int)) = true := decide_eq_true (by omega)
          have hrr : r1 = false := by rw [← HR1.out]; exact allN_no i hlt (by rw [HX.out, HSB.out]; simp; omega)
          subst hrr
          go_wp2_with fail
          go_ret
          exact ⟨rfl, HBV.out⟩
      · have d1 : decide ((9223372036854775808 : Int) ≤ (pl : Int)) = true := decide_eq_true (by omega)
        have hrr : r1 = false := by rw [← HR1.out]; exact allN_no i hlt (by rw [HX.out, HSB.out]; simp; omega)
        subst hrr
        go_wp2_with fail
        go_ret
        exact ⟨rfl, HBV.out⟩
    · obtain rfl : i = L.length := by omega
      have hrr : r1 = true := by rw [← HR1.out]; exact allN_iff.2 HALL.out
      subst hrr
      go_wp2_with (go_at_call 73; refine (HRI.out _ (HT.out.kept HB.out)).mono ?_; rintro e w1 ⟨rfl, hb1⟩)
      go_ret
      exact ⟨rfl, HB.out.trans (hb1.mono HB.out.size)⟩


/-- A middle piece's load under a guard that holds. -/
theorem wpList_load_mid_g {P : Program} {ops : Array Oper} {rest : List Oper} {op : Oper} {a : Act} {w : World} {Q : Exit → Act → World → Prop} (hw : Region.wanted op (yielded ops a.tmps) = true) (ty : TypeId) (x : Operand) (ho : op.op = .load ty x)
    (b o : Nat) (hx : a.eval x = .pointer (some ⟨b, o, none⟩)) (cs : List Value) (d : TypeDesc) (hc : w.rangeAt b o cs)
    (hu : P.underlying ty = some d) (hd : d.isRow = true) (hi : (P.info? ty).map (·.size) = some cs.length)
    (h : wpList P ops Q rest (a.put op.dst (.agg cs.toArray)) w) : wpList P ops Q (op :: rest) a w :=
  wpList_step fun K hK => by
    rw [if_pos hw]
    exact wp_load_mid ty x ho b o hx cs d hc hu hd hi (hK _ _ h)


set_option maxRecDepth 100000 in
set_option maxHeartbeats 1600000 in
theorem code_mayTrusts (v : Value) (L : List TrustD) (vs : Value) (S : List SeatD) (w : World) (hT : KTrust.At w v L) (hL : L.length ≤ 1000000) (hS : KSeat.At w vs S) (hSL : S.length ≤ 1000000) : Calls Tryd.prog 48 #[v, vs] w fun e w' => e = .returned (.bool (trustsB L S)) ∧ Below w.heap.size w w' := by
  obtain ⟨a, cap, rfl, hcap⟩ := hT.form
  have HT := Lib.hid hT
  have HS := Lib.hid hS
  have HRI := Lib.hid (fun w h => code_riseKTrust (.slice a L.length cap) L w h hL)
  have HIS := Lib.hid (fun q w h => code_isPool vs S q w h hSL)
  clear hT hS
  unfold trustsB
  obtain ⟨r1, hr1⟩ : ∃ r, allN L.length (trustI S L) = r := ⟨_, rfl⟩
  obtain ⟨r2, hr2⟩ : ∃ r, allN L.length (upI keyK L) = r := ⟨_, rfl⟩
  rw [hr2] at HRI
  rw [hr1, hr2]
  have HR1 := Lib.hid hr1
  clear hr1 hr2
  go_enter Tryd.func48, Tryd.ntmps48
  go_upto_region 2 with (fail)
  go_loopw [9] (fun iv wr => ∃ i : Nat, i ≤ L.length ∧ iv = .int .i64 i ∧ (∀ j, j < i → trustI S L j = true) ∧ Below w.heap.size w wr) (fun iv _ => L.length - (intOf iv).toNat)
  case atStart => exact ⟨0, Nat.zero_le _, rfl, fun j hj => absurd hj (Nat.not_lt_zero _), Below.refl _ _⟩
  case round =>
    obtain ⟨i, hi, rfl, hall, hb⟩ := hrel
    have HALL := Lib.hid hall
    have HB := Lib.hid hb
    clear hall hb
    by_cases hlt : i < L.length
    · obtain ⟨g, oo, cap', ha, _, hr⟩ := (HT.out.kept HB.out).some (by omega)
      have hx := List.getElem?_eq_getElem hlt
      obtain ⟨x, hxx⟩ : ∃ x, L[i] = x := ⟨_, rfl⟩
      rw [hxx] at hx
      have HRX := Lib.hid (range_at hr hx)
      have HX := Lib.hid (trustI_at (S := S) hx)
      have HIX := Lib.hid (KTrust.infoL x)
      have HIP := Lib.hid (infoKH x.pool)
      injection ha with ha1 _ ha2
      subst ha1 ha2
      have hki : (i : Int) < (L.length : Int) := by omega
      obtain ⟨C, hC⟩ : ∃ C, (KTrust.enc x).toArray = C := ⟨_, rfl⟩
      have HC := Lib.hid hC
      have HP := Lib.hid (fun (w : World) (g : Nat) (h : w.heap[g]? = some (.cells C KTrust.T (0, 0))) => (Trust_parts (x := x) (range_heap (by rw [hC]; exact h))).2)
      have heq := fun w => eq_zero x.pool w
      have HISX := Lib.hid (HIS.out x.pool)
      unfold hV at HISX
      obtain ⟨CP, hCP⟩ : ∃ C, (valsB x.pool.1).toArray = C := ⟨_, rfl⟩
      have HCP := Lib.hid hCP
      simp only [hCP] at HISX heq
      obtain ⟨b1, hb1⟩ : ∃ b, decide (x.pool = Deed.h0) = b := ⟨_, rfl⟩
      obtain ⟨b2, hb2⟩ : ∃ b, hasP S x.pool = b := ⟨_, rfl⟩
      rw [hb1, hb2] at HX
      simp only [hb1] at heq
      simp only [hb2] at HISX
      clear hC hCP hxx hx hr hb1 hb2
      go_upto_region 4 with (first
        | (refine wpList_load_mid rfl 69 (.tmp 11) rfl g (oo + i * 64) rfl (KTrust.enc x) _ HRX.out Tryd.underlying69 rfl HIX.out ?_; rw [HC.out]; go_frame)
        | (refine wpList_new_thing KTrust (z32 ++ z32).toArray rfl x HC.out (.tmp 6) (.tmp 12) rfl rfl rfl rfl (fun _ => rfl) (fun _ => rfl) ?_; intro wv hhv hsv hbv; go_frame))
      have HQ := Lib.hid (show wv.rangeAt wr.heap.size 32 (valsB x.pool.1) by have := HP.out wv _ hhv; rwa [Nat.zero_add] at this)
      have HBV := Lib.hid (HB.out.trans (hbv.mono HB.out.size))
      have HSV := Lib.hid (HS.out.kept HBV.out)
      obtain ⟨gv, hgv⟩ : ∃ n, wr.heap.size = n := ⟨_, rfl⟩
      rw [hgv] at HQ ⊢
      clear hhv hsv hbv hgv
      cases b1 with
      | true =>
        have HY := Lib.hid (show trustI S L i = true by rw [HX.out]; rfl)
        go_wp2_with (first
          | (refine Bl.wpList_build_as rfl 29 #[] rfl zHash (by simpa using zeroHash.built) ?_; go_frame)
          | (refine wpList_load_mid rfl 29 (.tmp 13) rfl gv 32 rfl (valsB x.pool.1) _ HQ.out Tryd.underlying29 rfl HIP.out ?_; rw [HCP.out]; go_frame))
        go_roundw
        case rel => exact ⟨i + 1, by omega, by go_num, fun j hj => by
          rcases Nat.lt_or_ge j i with h | h
          · exact HALL.out j h
          · obtain rfl : j = i := by omega
            exact HY.out, HBV.out⟩
        case measure => simp [intOf]; omega
      | false =>
        cases b2 with
        | true =>
          have HY := Lib.hid (show trustI S L i = true by rw [HX.out]; rfl)
          go_wp2_with (first
            | (go_at_call 75; refine (HISX.out _ HSV.out).mono ?_; rintro e w1 ⟨rfl, hb1⟩; have HB1 := Lib.hid (HBV.out.trans (hb1.mono HBV.out.size)); clear hb1)
            | (refine wpList_load_mid_g (by rfl) 29 (.tmp 18) rfl gv 32 rfl (valsB x.pool.1) _ HQ.out Tryd.underlying29 rfl HIP.out ?_; rw [HCP.out]; go_frame)
            | (refine Bl.wpList_build_as rfl 29 #[] rfl zHash (by simpa using zeroHash.built) ?_; go_frame)
            | (refine wpList_load_mid rfl 29 (.tmp 13) rfl gv 32 rfl (valsB x.pool.1) _ HQ.out Tryd.underlying29 rfl HIP.out ?_; rw [HCP.out]; go_frame))
          go_roundw
          case rel => exact ⟨i + 1, by omega, by go_num, fun j hj => by
            rcases Nat.lt_or_ge j i with h | h
            · exact HALL.out j h
            · obtain rfl : j = i := by omega
              exact HY.out, HB1.out⟩
          case measure => simp [intOf]; omega
        | false =>
          have hrr : r1 = false := by rw [← HR1.out]; exact allN_no i hlt (by rw [HX.out]; rfl)
          subst hrr
          go_wp2_with (first
            | (go_at_call 75; refine (HISX.out _ HSV.out).mono ?_; rintro e w1 ⟨rfl, hb1⟩; have HB1 := Lib.hid (HBV.out.trans (hb1.mono HBV.out.size)); clear hb1)
            | (refine wpList_load_mid_g (by rfl) 29 (.tmp 18) rfl gv 32 rfl (valsB x.pool.1) _ HQ.out Tryd.underlying29 rfl HIP.out ?_; rw [HCP.out]; go_frame)
            | (refine Bl.wpList_build_as rfl 29 #[] rfl zHash (by simpa using zeroHash.built) ?_; go_frame)
            | (refine wpList_load_mid rfl 29 (.tmp 13) rfl gv 32 rfl (valsB x.pool.1) _ HQ.out Tryd.underlying29 rfl HIP.out ?_; rw [HCP.out]; go_frame))
          go_ret
          exact ⟨rfl, HB1.out⟩
    · obtain rfl : i = L.length := by omega
      have hrr : r1 = true := by rw [← HR1.out]; exact allN_iff.2 HALL.out
      subst hrr
      go_wp2_with (go_at_call 76; refine (HRI.out _ (HT.out.kept HB.out)).mono ?_; rintro e w1 ⟨rfl, hb1⟩)
      go_ret
      exact ⟨rfl, HB.out.trans (hb1.mono HB.out.size)⟩

end Go.Proofs.YtdgaoebjbhomdaaDoor.Og
