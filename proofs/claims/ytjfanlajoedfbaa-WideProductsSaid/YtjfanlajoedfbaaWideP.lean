/- The document's own answers: sums of wide numbers. -/
import Derived.Test.YtjfanlajoedfbaaWideW
import Derived.Deep.RegionHeld3
namespace Go.Proofs.Ytjfanlajoedfbaa.Wide
open Go.RowKit

/-- Digit by digit. -/
def sumsL (ah al bh bl : Nat) : List Nat := [al % 4294967296 + bl % 4294967296, al / 4294967296 + bl / 4294967296, ah % 4294967296 + bh % 4294967296, ah / 4294967296 + bh / 4294967296]

theorem sumsL_at (ah al bh bl k x y : Nat) (hx : (ofL ah al)[k]? = some x) (hy : (ofL bh bl)[k]? = some y) : (sumsL ah al bh bl)[k]? = some (x + y) := by
  unfold ofL at hx hy
  unfold sumsL
  match k, hx, hy with
  | 0, hx, hy => simp at hx hy ⊢; omega
  | 1, hx, hy => simp at hx hy ⊢; omega
  | 2, hx, hy => simp at hx hy ⊢; omega
  | 3, hx, hy => simp at hx hy ⊢; omega
  | k + 4, hx, _ => simp at hx

theorem ofL_at (h l k : Nat) (hk : k < 4) (hh : h < 18446744073709551616) (hl : l < 18446744073709551616) : ∃ x, (ofL h l)[k]? = some x ∧ x < 4294967296 := by
  unfold ofL
  match k, hk with
  | 0, _ => exact ⟨_, rfl, by omega⟩
  | 1, _ => exact ⟨_, rfl, by omega⟩
  | 2, _ => exact ⟨_, rfl, by omega⟩
  | 3, _ => exact ⟨_, rfl, by omega⟩

/-- What the carried sums tell. -/
theorem sums_told (ah al bh bl : Nat) :
    ∃ s0 s1 s2 s3 o, carryL 0 (sumsL ah al bh bl) = [s0, s1, s2, s3, o] ∧ s0 < 4294967296 ∧ s1 < 4294967296 ∧ s2 < 4294967296 ∧ s3 < 4294967296 ∧
      (s3 * 4294967296 + s2) * 18446744073709551616 + (s1 * 4294967296 + s0) + o * 340282366920938463463374607431768211456 = ah * 18446744073709551616 + al + (bh * 18446744073709551616 + bl) := by
  refine ⟨_, _, _, _, _, rfl, Nat.mod_lt _ (by omega), Nat.mod_lt _ (by omega), Nat.mod_lt _ (by omega), Nat.mod_lt _ (by omega), ?_⟩
  omega

theorem own_take (w : World) (B g cap ah al bh bl : Nat) (h : w.ownsRow B 22 1 (.slice (some ⟨g, 0, none⟩) 4 cap) 4 (vals ((sumsL ah al bh bl).take 4))) : Dig w g (sumsL ah al bh bl) := by
  have e : (sumsL ah al bh bl).take 4 = sumsL ah al bh bl := List.take_of_length_le (Nat.le_refl 4)
  rw [e] at h
  exact own_cells h

theorem carry_sums (g cap ah al bh bl : Nat) (w : World) (hd : Dig w g (sumsL ah al bh bl)) (h1 : ah < 18446744073709551616) (h2 : al < 18446744073709551616) (h3 : bh < 18446744073709551616) (h4 : bl < 18446744073709551616) :
    Calls Try.prog 32 #[.slice (some ⟨g, 0, none⟩) 4 cap] w fun e w' => ∃ g' cap', e = .returned (.slice (some ⟨g', 0, none⟩) 5 cap') ∧ Dig w' g' (carryL 0 (sumsL ah al bh bl)) ∧ Below w.heap.size w w' :=
  carry_digits g cap (sumsL ah al bh bl) w hd (by simp [sumsL]) (by
    intro x hx
    simp [sumsL] at hx
    omega)

theorem wide_sums (g cap ah al bh bl X e : Nat) (w : World) (hd : Dig w g (carryL 0 (sumsL ah al bh bl)))
    (hX : plusN (ah * 18446744073709551616 + al) (bh * 18446744073709551616 + bl) = (X, e)) :
    ∃ ok : Bool, Calls Try.prog 31 #[.slice (some ⟨g, 0, none⟩) 5 cap] w (fun r w' =>
      r = .returned (.tuple #[.agg #[.int .u64 (hiN X), .int .u64 (loN X)], .bool ok]) ∧ Below w.heap.size w w') ∧ (ok = true → e = 0) ∧ (ok = false → e = 9 ∧ hiN X = 0 ∧ loN X = 0) := by
  obtain ⟨a0, a1, a2, a3, o, hcl, b0, b1, b2, b3, hval⟩ := sums_told ah al bh bl
  rw [hcl] at hd
  unfold plusN at hX
  obtain ⟨S, hS⟩ : ∃ S, ah * 18446744073709551616 + al + (bh * 18446744073709551616 + bl) = S := ⟨_, rfl⟩
  rw [hS] at hX hval
  clear hS hcl
  refine wide_told g cap 5 [a0, a1, a2, a3, o] a0 a1 a2 a3 _ X e w hd rfl (by omega) rfl rfl rfl rfl b0 b1 b2 b3 ?_ ?_ hX
  · intro hS
    have ho : o = 0 := by omega
    refine ⟨?_, by omega⟩
    intro i x hi hx
    match i, hi, hx with
    | 4, _, hx => simp at hx; omega
    | i + 5, _, hx => simp at hx
  · intro hS
    exact ⟨4, o, by omega, rfl, by omega⟩

set_option maxRecDepth 100000 in
set_option maxHeartbeats 1600000 in
theorem refPlus_any (ah al bh bl : Nat) (w : World) (h1 : ah < 18446744073709551616) (h2 : al < 18446744073709551616) (h3 : bh < 18446744073709551616) (h4 : bl < 18446744073709551616) :
    Calls Try.prog 19 #[.agg #[.int .u64 ah, .int .u64 al], .agg #[.int .u64 bh, .int .u64 bl]] w fun e w' =>
      e = .returned (.tuple #[.agg #[.int .u64 (hiN (plusN (ah * 18446744073709551616 + al) (bh * 18446744073709551616 + bl)).1), .int .u64 (loN (plusN (ah * 18446744073709551616 + al) (bh * 18446744073709551616 + bl)).1)],
        .int .i64 (plusN (ah * 18446744073709551616 + al) (bh * 18446744073709551616 + bl)).2]) ∧ Below w.heap.size w w' := by
  obtain ⟨i0, hi, hz0, hz1, hz2⟩ := info_parts info22
  obtain ⟨⟨X, e⟩, hX⟩ : ∃ t, plusN (ah * 18446744073709551616 + al) (bh * 18446744073709551616 + bl) = t := ⟨_, rfl⟩
  rw [hX]
  dsimp only
  obtain ⟨x0, hx0⟩ : ∃ t, hiN X = t := ⟨_, rfl⟩
  obtain ⟨x1, hx1⟩ : ∃ t, loN X = t := ⟨_, rfl⟩
  rw [hx0, hx1]
  have HX := Lib.hid hX
  have HX0 := Lib.hid hx0
  have HX1 := Lib.hid hx1
  clear hX hx0 hx1
  have hb := below_alloc (below_alloc (below_alloc (Below.refl w.heap.size w) (.cells #[.int .u64 ah, .int .u64 al] 28)) (.cells #[.int .u64 bh, .int .u64 bl] 28)) (.cells #[.int .u64 0, .int .u64 0] 28)
  have s0 : Six (((w.alloc (.cells #[.int .u64 ah, .int .u64 al] 28)).alloc (.cells #[.int .u64 bh, .int .u64 bl] 28)).alloc (.cells #[.int .u64 0, .int .u64 0] 28)) w.heap.size (.int .u64 ah) (.int .u64 al) (.int .u64 bh) (.int .u64 bl) (.int .u64 0) (.int .u64 0) := by
    obtain ⟨a, b, c, d, e, f⟩ := six_cells w (.int .u64 ah) (.int .u64 al) (.int .u64 bh) (.int .u64 bl) (.int .u64 0) (.int .u64 0) 28
    exact ⟨a, b, c, d, e, f⟩
  have f0 : (((w.alloc (.cells #[.int .u64 ah, .int .u64 al] 28)).alloc (.cells #[.int .u64 bh, .int .u64 bl] 28)).alloc (.cells #[.int .u64 0, .int .u64 0] 28)).frozen? ⟨w.heap.size + 2, 0, none⟩ = false := by go_simp
  have f1 : (((w.alloc (.cells #[.int .u64 ah, .int .u64 al] 28)).alloc (.cells #[.int .u64 bh, .int .u64 bl] 28)).alloc (.cells #[.int .u64 0, .int .u64 0] 28)).frozen? ⟨w.heap.size + 2, 1, none⟩ = false := by go_simp
  go_enter Try.func19, Try.ntmps19
  go_wp2_with fail
  refine (of_any ah al _ h1 h2).mono ?_
  rintro r w1 ⟨gx, rfl, hdx, hb1⟩
  have s1 := s0.kept hb1
  have f2 := keptF hb1 s0.k4 f0
  have f3 := keptF hb1 s0.k5 f1
  have hb1' := hb.trans (hb1.mono hb.size)
  have t2 := s1.k2; have t3 := s1.k3
  clear s0 f0 f1 hb hb1
  go_wp2_with fail
  refine (of_any bh bl _ h3 h4).mono ?_
  rintro r w2 ⟨gy, rfl, hdy, hb2⟩
  have s2 := s1.kept hb2
  have hdx2 := hdx.kept hb2
  have f4 := keptF hb2 s1.k4 f2
  have f5 := keptF hb2 s1.k5 f3
  have hb2' := hb1'.trans (hb2.mono hb1'.size)
  clear t2 t3 s1 hdx f2 f3 hb1' hb2
  generalize hB : w2.heap.size = B
  have HB := Lib.hid hB
  clear hB
  go_wp2_with fail
  go_loopw [8, 9] (fun v i wr => ∃ k : Nat, k ≤ 4 ∧ i = .int .i64 k ∧ wr.ownsRow B 22 1 v k (vals ((sumsL ah al bh bl).take k)) ∧ Below B w2 wr)
    (fun _ i _ => 4 - (intOf i).toNat)
  case atStart => exact ⟨0, by omega, rfl, World.ownsRow_nil _ _ _ _, Below.refl _ _⟩
  case round =>
    obtain ⟨k, hk, rfl, hown, hbel⟩ := hrel
    have HO := Lib.hid hown
    have hbase := Nat.le_trans (Nat.le_of_eq HB.out.symm) hbel.size
    clear hown
    by_cases hlt : k < 4
    · obtain ⟨x, hxk, hxb⟩ := ofL_at ah al k hlt h1 h2
      obtain ⟨y, hyk, hyb⟩ := ofL_at bh bl k hlt h3 h4
      have HCX := Lib.hid (hdx2 k x hxk)
      have HCY := Lib.hid (hdy k y hyk)
      have HGX := Lib.hid (show gx < B from HB.out ▸ World.block_lt_of_cell? _ _ HCX.out)
      have HGY := Lib.hid (show gy < B from HB.out ▸ World.block_lt_of_cell? _ _ HCY.out)
      have hcx : wr.cell? ⟨gx, k, none⟩ = some (.int .u64 x) := (hbel.cell (p := ⟨gx, k, none⟩) HGX.out).trans HCX.out
      have hcy : wr.cell? ⟨gy, k, none⟩ = some (.int .u64 y) := (hbel.cell (p := ⟨gy, k, none⟩) HGY.out).trans HCY.out
      have z0 : IntKind.u64.wrap ((x : Int) + (y : Int)) = ((x + y : Nat) : Int) := by rw [IntWalk.u64_in _ ⟨by omega, by omega⟩]; omega
      have htk : vals ((sumsL ah al bh bl).take k) ++ [Value.int .u64 ((x + y : Nat) : Int)] = vals ((sumsL ah al bh bl).take (k + 1)) := by
        rw [vals_snoc, List.take_add_one, sumsL_at ah al bh bl k x y hxk hyk]
        rfl
      obtain ⟨s, hs⟩ : ∃ s, x + y = s := ⟨_, rfl⟩
      rw [hs] at z0 htk
      clear hs hxk hyk hxb hyb hdx2 hdy s2 f4 f5 hb2'
      have hk0 : (0 : Int) ≤ (k : Int) := by omega
      have hk4 : (k : Int) < 4 := by omega
      have HTK := Lib.hid htk
      clear htk
      go_wp2
      go_region_held3 (fun w' => w'.cell? ⟨gx, k, none⟩ = some (.int .u64 x) ∧ w'.cell? ⟨gy, k, none⟩ = some (.int .u64 y)) (refine ⟨?_, ?_⟩ <;> (first | assumption | (refine keep_drew ?_; first | assumption | (refine keep_alloc ?_; assumption)) | (refine keep_alloc ?_; first | assumption | (refine keep_drew ?_; assumption)))) (first
        | (refine step_append_lies _ rfl (.tmp 20) (.tmp 30) 48 rfl B 22 i0 (.int .u64 0) 1 8 Try.underlying48 hi hz0 hz1 hz2 rfl (by decide) _ k (vals ((sumsL ah al bh bl).take k)) (by simp [Act.eval]) (HO.out.alloc _).drew ⟨wr.heap.size, 0, none⟩ 1 1 [.int .u64 s] (by simp [Act.eval]) rfl (news_one _ _ _) (news_oneCell s) (by decide) (by unfold maxLen; omega) (by omega) (Nat.le_trans hbase (by simp)) _ rfl ?_; intro g1 cap1 w1 hown1 hgrow1 hat hlt1; have hbel1 := ((hbel.alloc hbase (.cells #[.int .u64 s] 22)).drew).grown hgrow1 (Nat.le_trans hbase (by simp)) (own_base HO.out); have kx := (hbel1.cell (p := ⟨gx, k, none⟩) HGX.out).trans HCX.out; have ky := (hbel1.cell (p := ⟨gy, k, none⟩) HGY.out).trans HCY.out; rw [HTK.out] at hown1; have HO1 := Lib.hid hown1; clear hown1 hgrow1 hat))
      go_wp2
      go_roundw
      case rel => exact ⟨k + 1, by omega, by go_num, HO1.out, hbel1⟩
      case measure => simp [intOf]; omega
    · have hkk : k = 4 := by omega
      subst hkk
      obtain ⟨g1, cap1, rfl⟩ := Go.Joins.ownsRow_form HO.out (by omega)
      have hd1 := own_take wr B g1 cap1 ah al bh bl HO.out
      have hbel' : Below w2.heap.size w2 wr := by
        rw [HB.out]
        exact hbel
      have s3 := s2.kept hbel'
      have f6 := keptF hbel' s2.k4 f4
      have f7 := keptF hbel' s2.k5 f5
      have hb3' := hb2'.trans (hbel'.mono hb2'.size)
      clear s2 f4 f5 hb2' hbel hbel' HO hlt hk hdx2 hdy
      go_wp2_with fail
      refine (carry_sums g1 cap1 ah al bh bl _ hd1 h1 h2 h3 h4).mono ?_
      rintro r w3 ⟨g2, cap2, rfl, hd2, hb4⟩
      have s4 := s3.kept hb4
      have f8 := keptF hb4 s3.k4 f6
      have f9 := keptF hb4 s3.k5 f7
      have hb4' := hb3'.trans (hb4.mono hb3'.size)
      clear s3 f6 f7 hb3' hb4 hd1
      obtain ⟨ok, hW, hok1, hok2⟩ := wide_sums g2 cap2 ah al bh bl X e w3 hd2 HX.out
      rw [HX0.out, HX1.out] at hW hok2
      clear hd2
      go_wp2_with fail
      refine hW.mono ?_
      rintro r w5 ⟨rfl, hb5⟩
      have s5 := s4.kept hb5
      have fa := keptF hb5 s4.k4 f8
      have fb := keptF hb5 s4.k5 f9
      have hb5' := hb4'.trans (hb5.mono hb4'.size)
      have k4 := s5.k4
      have k5 := s5.k5
      have hsz := s5.size
      clear s4 s5 f8 f9 hb4' hb5 hW
      have hs := two_set (.int .u64 x0) (.int .u64 x1) k4 k5
      have hb6 := below_alloc ((hb5'.setCell (p := ⟨w.heap.size + 2, 0, none⟩) (show w.heap.size ≤ w.heap.size + 2 by omega) (.int .u64 x0)).setCell (p := ⟨w.heap.size + 2, 1, none⟩) (show w.heap.size ≤ w.heap.size + 2 by omega) (.int .u64 x1)) (.cells #[.int .u64 x0, .int .u64 x1] 28)
      have hs0 := keep_alloc (o := .cells #[.int .u64 x0, .int .u64 x1] 28) hs.1
      have hs1 := keep_alloc (o := .cells #[.int .u64 x0, .int .u64 x1] 28) hs.2
      cases ok with
      | true =>
        obtain rfl := hok1 rfl
        clear hok2 hok1
        go_wp2_with fail
        refine bodyPost_ret (v := .tuple #[.agg #[.int .u64 x0, .int .u64 x1], .int .i64 0]) (by simp [results, Try.results19, go_sem, hs0, hs1]) rfl ⟨rfl, ?_⟩
        exact hb6
      | false =>
        obtain ⟨rfl, rfl, rfl⟩ := hok2 rfl
        clear hok2 hok1 hs0 hs1 hs
        have hs := two_set (.int .u64 0) (.int .u64 0) k4 k5
        have hs0 := keep_alloc (o := .cells #[.int .u64 0, .int .u64 0] 28) hs.1
        have hs1 := keep_alloc (o := .cells #[.int .u64 0, .int .u64 0] 28) hs.2
        go_wp2_with fail
        refine bodyPost_ret (v := .tuple #[.agg #[.int .u64 0, .int .u64 0], .int .i64 9]) (by simp [results, Try.results19, go_sem, hs0, hs1]) rfl ⟨rfl, ?_⟩
        exact hb6

end Go.Proofs.Ytjfanlajoedfbaa.Wide
