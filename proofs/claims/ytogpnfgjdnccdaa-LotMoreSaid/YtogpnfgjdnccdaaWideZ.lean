/- The document's own answers: Times. -/
import Derived.Test.YtogpnfgjdnccdaaWideY
namespace Go.Proofs.Ytogpnfgjdnccdaa.Wide
open Go.RowKit

theorem vals_take (D : List Nat) (j s : Nat) (h : D[j]? = some s) : vals (D.take j) ++ [Value.int .u64 (s : Int)] = vals (D.take (j + 1)) := by
  rw [vals_snoc, List.take_add_one, h]
  rfl

set_option maxRecDepth 100000 in
set_option maxHeartbeats 1600000 in
theorem refTimes_any (ah al b : Nat) (w : World) (h1 : ah < 18446744073709551616) (h2 : al < 18446744073709551616) (h3 : b < 18446744073709551616) :
    Calls Try.prog 26 #[.agg #[.int .u64 ah, .int .u64 al], .int .u64 b] w fun e w' =>
      e = .returned (.tuple #[.agg #[.int .u64 (hiN (timesN (ah * 18446744073709551616 + al) b).1), .int .u64 (loN (timesN (ah * 18446744073709551616 + al) b).1)], .int .i64 (timesN (ah * 18446744073709551616 + al) b).2]) ∧ Below w.heap.size w w' := by
  obtain ⟨i0, hi, hz0, hz1, hz2⟩ := info_parts info22
  obtain ⟨⟨X, e⟩, hX⟩ : ∃ t, timesN (ah * 18446744073709551616 + al) b = t := ⟨_, rfl⟩
  rw [hX]
  dsimp only
  obtain ⟨x0, hx0⟩ : ∃ t, hiN X = t := ⟨_, rfl⟩
  obtain ⟨x1, hx1⟩ : ∃ t, loN X = t := ⟨_, rfl⟩
  rw [hx0, hx1]
  unfold timesN at hX
  obtain ⟨l0, l1, l2, l3, l4, g0, g1, g2, g3, g4, s0, s1, s2, s3, s4, s5, s6, hlo, hhi, hlb, hgb, hcl, hsb, hval⟩ := times_told ah al b h1 h2 h3
  obtain ⟨S, hS⟩ : ∃ S, (ah * 18446744073709551616 + al) * b = S := ⟨_, rfl⟩
  rw [hS] at hX hval
  clear hS
  have HX := Lib.hid hX
  have HX0 := Lib.hid hx0
  have HX1 := Lib.hid hx1
  have HV := Lib.hid hval
  have HLB := Lib.hid hlb
  have HGB := Lib.hid hgb
  have HSB := Lib.hid hsb
  have HCL := Lib.hid hcl
  clear hX hx0 hx1 hval hlb hgb hsb hcl
  have hL := fun g w hd => by_of g (b % 4294967296) ah al w hd h1 h2 (by omega)
  have hG := fun g w hd => by_of g (b / 4294967296) ah al w hd h1 h2 (by omega)
  rw [hlo] at hL
  rw [hhi] at hG
  have e0 : (b : Int) % 4294967296 = ((b % 4294967296 : Nat) : Int) := by omega
  have e1 : IntKind.u64.wrap ((b : Int) / 4294967296) = ((b / 4294967296 : Nat) : Int) := by rw [IntWalk.u64_in _ ⟨by omega, by omega⟩]; omega
  obtain ⟨bl, hbl⟩ : ∃ t, b % 4294967296 = t := ⟨_, rfl⟩
  obtain ⟨bh, hbh⟩ : ∃ t, b / 4294967296 = t := ⟨_, rfl⟩
  rw [hbl] at e0 hL
  rw [hbh] at e1 hG
  clear hbl hbh hlo hhi
  have hb := below_alloc (below_alloc (Below.refl w.heap.size w) (.cells #[.int .u64 ah, .int .u64 al] 48)) (.cells #[.int .u64 0, .int .u64 0] 48)
  have q0 := quad_new w (.int .u64 ah) (.int .u64 al) (.int .u64 0) (.int .u64 0) 48
  have HL := Lib.hid hL
  have HG := Lib.hid hG
  clear hL hG
  go_enter Try.func26, Try.ntmps26
  go_wp2_with fail
  refine (of_any ah al _ h1 h2).mono ?_
  rintro r w1 ⟨gx, rfl, hdx, hb1⟩
  have q1 := q0.kept hb1
  have hb1' := hb.trans (hb1.mono hb.size)
  have t0 := q1.k0; have t1 := q1.k1
  clear q0 hb hb1
  go_wp2_with fail
  refine (HL.out gx _ hdx).mono ?_
  rintro r w2 ⟨gl, capl, rfl, hdl, hb2⟩
  have q2 := q1.kept hb2
  have hb2' := hb1'.trans (hb2.mono hb1'.size)
  clear t0 t1 hdx q1 hb1' hb2 HL
  have t0 := q2.k0; have t1 := q2.k1
  go_wp2_with fail
  refine (of_any ah al _ h1 h2).mono ?_
  rintro r w3 ⟨gy, rfl, hdy, hb3⟩
  have q3 := q2.kept hb3
  have hdl3 := hdl.kept hb3
  have hb3' := hb2'.trans (hb3.mono hb2'.size)
  clear t0 t1 q2 hdl hb2' hb3
  go_wp2_with fail
  refine (HG.out gy _ hdy).mono ?_
  rintro r w4 ⟨gh, caph, rfl, hdh, hb4⟩
  have q4 := q3.kept hb4
  have hdl4 := hdl3.kept hb4
  have hb4' := hb3'.trans (hb4.mono hb3'.size)
  clear hdy q3 hdl3 hb3' hb4 HG e0 e1
  have n0 : (0 : Int) < 5 := by omega
  have c0 := hdl4 0 l0 rfl
  generalize hB : w4.heap.size = B
  have HB := Lib.hid hB
  have hown0 : (w4.alloc (.cells #[.int .u64 l0] 26)).ownsRow B 26 1 (.slice (some ⟨B, 0, none⟩) 1 1) 1 (vals [l0]) := by
    have := World.ownsRow_lit (base := B) (e := 26) (size := 1) w4 #[.int .u64 l0] 1 (Nat.le_of_eq hB.symm) (by unfold maxLen; omega) rfl
    rw [hB] at this
    exact this
  have hbel0 : Below B w4 (w4.alloc (.cells #[.int .u64 l0] 26)) := (Below.refl B w4).alloc (Nat.le_of_eq hB.symm) _
  go_wp2_with fail
  clear hB
  go_loopw [8, 9] (fun v i wr => ∃ j : Nat, 1 ≤ j ∧ j ≤ 5 ∧ i = .int .i64 j ∧ wr.ownsRow B 26 1 v j (vals ([l0, l1 + g0, l2 + g1, l3 + g2, l4 + g3, g4].take j)) ∧ Below B w4 wr)
    (fun _ i _ => 5 - (intOf i).toNat)
  case atStart => exact ⟨1, by omega, by omega, rfl, hown0, hbel0⟩
  case round =>
    obtain ⟨j, hj1, hj5, rfl, hown, hbel⟩ := hrel
    have HO := Lib.hid hown
    have hbase := Nat.le_trans (Nat.le_of_eq HB.out.symm) hbel.size
    clear hown hown0 hbel0 c0
    by_cases hlt5 : j < 5
    · obtain ⟨k, hjk⟩ : ∃ k, j = k + 1 := ⟨j - 1, by omega⟩
      have hlt : k < 4 := by omega
      obtain ⟨x, hxk, hxb⟩ : ∃ x, [l0, l1, l2, l3, l4][k + 1]? = some x ∧ x < 4294967296 := by
        obtain ⟨_, b1, b2, b3, b4⟩ := HLB.out
        match k, hlt with
        | 0, _ => exact ⟨_, rfl, b1⟩
        | 1, _ => exact ⟨_, rfl, b2⟩
        | 2, _ => exact ⟨_, rfl, b3⟩
        | 3, _ => exact ⟨_, rfl, b4⟩
      obtain ⟨y, hyk, hyb⟩ : ∃ y, [g0, g1, g2, g3, g4][k]? = some y ∧ y < 4294967296 := by
        obtain ⟨c0, c1, c2, c3, _⟩ := HGB.out
        match k, hlt with
        | 0, _ => exact ⟨_, rfl, c0⟩
        | 1, _ => exact ⟨_, rfl, c1⟩
        | 2, _ => exact ⟨_, rfl, c2⟩
        | 3, _ => exact ⟨_, rfl, c3⟩
      have hsum : [l0, l1 + g0, l2 + g1, l3 + g2, l4 + g3, g4][k + 1]? = some (x + y) := by
        match k, hlt, hxk, hyk with
        | 0, _, hxk, hyk => simp at hxk hyk ⊢; omega
        | 1, _, hxk, hyk => simp at hxk hyk ⊢; omega
        | 2, _, hxk, hyk => simp at hxk hyk ⊢; omega
        | 3, _, hxk, hyk => simp at hxk hyk ⊢; omega
      rw [← hjk] at hxk hsum
      have HCX := Lib.hid (hdl4 j x hxk)
      have HCY := Lib.hid (hdh k y hyk)
      have HGX := Lib.hid (show gl < B from HB.out ▸ World.block_lt_of_cell? _ _ HCX.out)
      have HGY := Lib.hid (show gh < B from HB.out ▸ World.block_lt_of_cell? _ _ HCY.out)
      have hcx : wr.cell? ⟨gl, j, none⟩ = some (.int .u64 x) := (hbel.cell (p := ⟨gl, j, none⟩) HGX.out).trans HCX.out
      have hcy : wr.cell? ⟨gh, k, none⟩ = some (.int .u64 y) := (hbel.cell (p := ⟨gh, k, none⟩) HGY.out).trans HCY.out
      have z0 : IntKind.u64.wrap ((x : Int) + (y : Int)) = ((x + y : Nat) : Int) := by rw [IntWalk.u64_in _ ⟨by omega, by omega⟩]; omega
      have htk := vals_take _ _ _ hsum
      obtain ⟨s, hs⟩ : ∃ s, x + y = s := ⟨_, rfl⟩
      rw [hs] at z0 htk
      have HTK := Lib.hid htk
      clear hs hxk hyk hxb hyb hdl4 hdh q4 hb4' hsum htk
      have hk0 : (0 : Int) ≤ (k : Int) := by omega
      have hk1 : (0 : Int) ≤ (j : Int) := by omega
      have hk4 : (k : Int) < 5 := by omega
      have hk5 : (j : Int) < 5 := by omega
      have hk6 : k < 5 := by omega
      have hkk : IntKind.i64.wrap ((j : Int) - 1) = (k : Int) := by rw [IntWalk.i64_in _ ⟨by omega, by omega⟩]; omega
      clear hjk hlt
      go_wp2
      go_region_held3 (fun w' => w'.cell? ⟨gl, j, none⟩ = some (.int .u64 x) ∧ w'.cell? ⟨gh, k, none⟩ = some (.int .u64 y)) (refine ⟨?_, ?_⟩ <;> (first | assumption | (refine keep_drew ?_; first | assumption | (refine keep_alloc ?_; assumption)) | (refine keep_alloc ?_; first | assumption | (refine keep_drew ?_; assumption)))) (first
        | (refine step_append_lies _ rfl (.tmp 30) (.tmp 41) 63 rfl B 26 i0 (.int .u64 0) 1 8 Try.underlying63 hi hz0 hz1 hz2 rfl (by decide) _ j (vals ([l0, l1 + g0, l2 + g1, l3 + g2, l4 + g3, g4].take j)) (by simp [Act.eval]) (HO.out.alloc _).drew ⟨wr.heap.size, 0, none⟩ 1 1 [.int .u64 s] (by simp [Act.eval]) rfl (news_one _ _ _) (news_oneCell s) (by decide) (by unfold maxLen; omega) (by omega) (Nat.le_trans hbase (by simp)) _ rfl ?_; intro g1' cap1 w1' hown1 hgrow1 hat hlt1; have hbel1 := ((hbel.alloc hbase (.cells #[.int .u64 s] 26)).drew).grown hgrow1 (Nat.le_trans hbase (by simp)) (own_base HO.out); have kx := (hbel1.cell (p := ⟨gl, j, none⟩) HGX.out).trans HCX.out; have ky := (hbel1.cell (p := ⟨gh, k, none⟩) HGY.out).trans HCY.out; rw [HTK.out] at hown1; have HO1 := Lib.hid hown1; clear hown1 hgrow1 hat))
      go_wp2
      go_roundw
      case rel => exact ⟨j + 1, by omega, by omega, by go_num, HO1.out, hbel1⟩
      case measure => simp [intOf]; omega
    · have hkk : j = 5 := by omega
      subst hkk
      obtain ⟨gd, capd, rfl⟩ := Go.Joins.ownsRow_form HO.out (by omega)
      have hbel' : Below w4.heap.size w4 wr := by
        rw [HB.out]
        exact hbel
      have hdh5 := hdh.kept hbel'
      have c4 := hdh5 4 g4 rfl
      have n4 : (4 : Int) < 5 := by omega
      clear hdh hdl4 hbel' hdh5 hlt5 hj1 hj5
      go_wp2_with (at_builtin; refine wpList_append_lies _ rfl (.tmp 43) (.tmp 47) 63 rfl B 26 i0 (.int .u64 0) 1 8 Try.underlying63 hi hz0 hz1 hz2 rfl (by decide) _ 5 (vals ([l0, l1 + g0, l2 + g1, l3 + g2, l4 + g3, g4].take 5)) rfl (HO.out.alloc _) ⟨wr.heap.size, 0, none⟩ 1 1 [.int .u64 g4] rfl rfl (news_one _ _ _) (news_oneCell g4) (by decide) (by unfold maxLen; omega) (by omega) (Nat.le_trans hbase (by simp)) _ rfl ?_; intro ge cape w6 hown6 hgrow6 hat6 hlt6)
      have hbel6 := (hbel.alloc hbase (.cells #[.int .u64 g4] 26)).grown hgrow6 (Nat.le_trans hbase (by simp)) (own_base HO.out)
      have hdig6 : Dig w6 ge [l0, l1 + g0, l2 + g1, l3 + g2, l4 + g3, g4] := by
        have := vals_take [l0, l1 + g0, l2 + g1, l3 + g2, l4 + g3, g4] 5 g4 rfl
        rw [this] at hown6
        exact own_cells hown6
      rw [← HB.out] at hbel6
      have q6 := q4.kept hbel6
      have hb6' := hb4'.trans (hbel6.mono hb4'.size)
      clear hown6 hgrow6 hat6 hbel6 hbel q4 hb4' HO hbase HB
      go_wp2_with fail
      refine (carry_rows ge cape _ _ _ _ _ _ _ hdig6 (by have h := HLB.out; have h' := HGB.out; omega)).mono ?_
      rintro r w7 ⟨gf, capf, rfl, hdf, hb7⟩
      rw [HCL.out] at hdf
      have q7 := q6.kept hb7
      have hb7' := hb6'.trans (hb7.mono hb6'.size)
      clear q6 hb6' hb7 hdig6
      obtain ⟨d0, d1, d2, d3⟩ := HSB.out
      obtain ⟨ok, hW, hok1, hok2⟩ := wide_rows gf capf s0 s1 s2 s3 s4 s5 s6 S X e w7 hdf d0 d1 d2 d3 HV.out HX.out
      rw [HX0.out, HX1.out] at hW hok2
      clear hdf d0 d1 d2 d3
      go_wp2_with fail
      refine hW.mono ?_
      rintro r w8 ⟨rfl, hb8⟩
      have q8 := q7.kept hb8
      have hb8' := hb7'.trans (hb8.mono hb7'.size)
      have k4 := q8.z0
      have k5 := q8.z1
      have fa := q8.f0
      have fb := q8.f1
      have hsz := World.block_lt_of_cell? _ _ k4
      simp only at hsz
      clear q7 q8 hb7' hb8 hW
      have hs := two_set (.int .u64 x0) (.int .u64 x1) k4 k5
      have hb9 := below_alloc ((hb8'.setCell (p := ⟨w.heap.size + 1, 0, none⟩) (show w.heap.size ≤ w.heap.size + 1 by omega) (.int .u64 x0)).setCell (p := ⟨w.heap.size + 1, 1, none⟩) (show w.heap.size ≤ w.heap.size + 1 by omega) (.int .u64 x1)) (.cells #[.int .u64 x0, .int .u64 x1] 48)
      have hs0 := keep_alloc (o := .cells #[.int .u64 x0, .int .u64 x1] 48) hs.1
      have hs1 := keep_alloc (o := .cells #[.int .u64 x0, .int .u64 x1] 48) hs.2
      cases ok with
      | true =>
        obtain rfl := hok1 rfl
        clear hok2 hok1
        go_wp2_with fail
        refine bodyPost_ret (v := .tuple #[.agg #[.int .u64 x0, .int .u64 x1], .int .i64 0]) (by simp [results, Try.results26, go_sem, hs0, hs1]) rfl ⟨rfl, ?_⟩
        exact hb9
      | false =>
        obtain ⟨rfl, rfl, rfl⟩ := hok2 rfl
        clear hok2 hok1 hs0 hs1 hs
        have hs := two_set (.int .u64 0) (.int .u64 0) k4 k5
        have hs0 := keep_alloc (o := .cells #[.int .u64 0, .int .u64 0] 48) hs.1
        have hs1 := keep_alloc (o := .cells #[.int .u64 0, .int .u64 0] 48) hs.2
        go_wp2_with fail
        refine bodyPost_ret (v := .tuple #[.agg #[.int .u64 0, .int .u64 0], .int .i64 9]) (by simp [results, Try.results26, go_sem, hs0, hs1]) rfl ⟨rfl, ?_⟩
        exact hb9

end Go.Proofs.Ytogpnfgjdnccdaa.Wide
