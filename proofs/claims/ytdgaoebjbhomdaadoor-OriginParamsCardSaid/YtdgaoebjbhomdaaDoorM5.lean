/- The document's own answers: digits of 32 bits. -/
import Derived.Test.YtdgaoebjbhomdaaDoorM4
import Derived.Deep.AppendLies
import Derived.OwnWalk
import Derived.Laws.OwnMore
import Derived.Lib.SmallJoins
import Derived.Deep.RegionHeld3
import Derived.Deep.RegionWith
namespace Go.Proofs.YtdgaoebjbhomdaaDoor.Wide
open Go.RowKit

/-- A slice's cells are these numbers. -/
def Dig (w : World) (g : Nat) (xs : List Nat) : Prop := ∀ i x : Nat, xs[i]? = some x → w.cell? ⟨g, i, none⟩ = some (.int .u64 x)

theorem Dig.kept {w w' : World} {g : Nat} {xs : List Nat} (d : Dig w g xs) (h : Below w.heap.size w w') : Dig w' g xs := fun i x hx => Wide.kept h (d i x hx)
theorem Dig.alloc {w : World} {g : Nat} {xs : List Nat} (d : Dig w g xs) (o : Obj) : Dig (w.alloc o) g xs := fun i x hx => keep_alloc (d i x hx)

def vals (xs : List Nat) : List Value := xs.map fun (x : Nat) => Value.int .u64 x

theorem info22 : (Tryd.prog.info? 22).map (fun i => (i.zero, i.size, i.bytes)) = some (some (.int .u64 0), 1, 8) := by kernel_rfl

theorem four_cells (w : World) (a b c d : Value) (t : TypeId) (o : Obj) :
    let W := (w.alloc o).alloc (.cells #[a, b, c, d] t)
    W.cell? ⟨w.heap.size + 1, 0, none⟩ = some a ∧ W.cell? ⟨w.heap.size + 1, 1, none⟩ = some b ∧ W.cell? ⟨w.heap.size + 1, 2, none⟩ = some c ∧ W.cell? ⟨w.heap.size + 1, 3, none⟩ = some d := by
  refine ⟨?_, ?_, ?_, ?_⟩ <;> go_simp

theorem dig_four {w : World} {g a b c d : Nat} (h0 : w.cell? ⟨g, 0, none⟩ = some (.int .u64 a)) (h1 : w.cell? ⟨g, 1, none⟩ = some (.int .u64 b)) (h2 : w.cell? ⟨g, 2, none⟩ = some (.int .u64 c)) (h3 : w.cell? ⟨g, 3, none⟩ = some (.int .u64 d)) : Dig w g [a, b, c, d] := by
  intro i x hx
  match i with
  | 0 => simp at hx; subst hx; exact h0
  | 1 => simp at hx; subst hx; exact h1
  | 2 => simp at hx; subst hx; exact h2
  | 3 => simp at hx; subst hx; exact h3
  | i + 4 => simp at hx

/-- A wide number's four digits. -/
def ofL (h l : Nat) : List Nat := [l % 4294967296, l / 4294967296, h % 4294967296, h / 4294967296]

set_option maxRecDepth 100000 in
set_option maxHeartbeats 400000 in
theorem of_any (h l : Nat) (w : World) (hh : h < 18446744073709551616) (hl : l < 18446744073709551616) :
    Calls Tryd.prog 106 #[.agg #[.int .u64 h, .int .u64 l]] w fun e w' => ∃ g, e = .returned (.slice (some ⟨g, 0, none⟩) 4 4) ∧ Dig w' g (ofL h l) ∧ Below w.heap.size w w' := by
  unfold ofL
  have e0 : (l : Int) % 4294967296 = ((l % 4294967296 : Nat) : Int) := by omega
  have e1 : IntKind.u64.wrap ((l : Int) / 4294967296) = ((l / 4294967296 : Nat) : Int) := by rw [IntWalk.u64_in _ ⟨by omega, by omega⟩]; omega
  have e2 : (h : Int) % 4294967296 = ((h % 4294967296 : Nat) : Int) := by omega
  have e3 : IntKind.u64.wrap ((h : Int) / 4294967296) = ((h / 4294967296 : Nat) : Int) := by rw [IntWalk.u64_in _ ⟨by omega, by omega⟩]; omega
  generalize l % 4294967296 = l0 at e0 ⊢
  generalize l / 4294967296 = l1 at e1 ⊢
  generalize h % 4294967296 = h0 at e2 ⊢
  generalize h / 4294967296 = h1 at e3 ⊢
  go_enter Tryd.func106, Tryd.ntmps106
  go_wp2
  go_ret
  obtain ⟨c0, c1, c2, c3⟩ := four_cells w (.int .u64 l0) (.int .u64 l1) (.int .u64 h0) (.int .u64 h1) 22 (.cells #[.int .u64 h, .int .u64 l] 155)
  exact ⟨_, rfl, dig_four c0 c1 c2 c3, below_alloc (below_alloc (Below.refl _ _) _) _⟩

/-- Digits whose excess goes on. -/
def carryL : Nat → List Nat → List Nat
  | o, [] => [o]
  | o, x :: xs => (x + o) % 4294967296 :: carryL ((x + o) / 4294967296) xs

theorem carryL_at (xs : List Nat) (k o x : Nat) (h : xs[k]? = some x) : carryL o (xs.drop k) = (x + o) % 4294967296 :: carryL ((x + o) / 4294967296) (xs.drop (k + 1)) := by
  obtain ⟨hk, rfl⟩ := List.getElem?_eq_some_iff.1 h
  rw [List.drop_eq_getElem_cons hk, carryL]

theorem own_cells {w : World} {B : Nat} {n : Nat} {xs : List Nat} {g cap : Nat} (h : w.ownsRow B 22 1 (.slice (some ⟨g, 0, none⟩) n cap) n (vals xs)) : Dig w g xs := by
  intro i x hx
  have := h.cells (g := g) rfl i (.int .u64 x) (by simp [vals, hx])
  have e : (⟨g, 0, none⟩ : Addr).add i = ⟨g, i, none⟩ := by
    unfold Addr.add
    split
    · rename_i h0
      have : i = 0 := by simpa using h0
      subst this
      rfl
    · simp
  rw [e] at this
  exact this

/-- One number that is to be appended lies in a block of its own. -/
theorem news_one (w : World) (u : Value) (t : TypeId) : ∀ j v, [u][j]? = some v → (w.alloc (.cells #[u] t)).cell? ((⟨w.heap.size, 0, none⟩ : Addr).add j) = some v := by
  intro j v hj
  match j, hj with
  | 0, hj => simp at hj; subst hj; simp [Addr.add]
theorem news_oneCell (r : Nat) : ∀ u ∈ [Value.int .u64 (r : Int)], u.oneCell' = true := by
  intro u hu
  simp at hu
  subst hu
  rfl
theorem own_base {w : World} {B : Nat} {e : TypeId} {v : Value} {n : Nat} {xs : List Value} (h : w.ownsRow B e 1 v n xs) : ∀ k, v.ownBlock = some k → B ≤ k := by
  intro k hk
  rcases h.2 with ⟨rfl, _⟩ | ⟨g, cap, cur, rfl, hb, _⟩
  · simp [Value.ownBlock] at hk
  · simp [Value.ownBlock] at hk
    omega
theorem vals_snoc (ys : List Nat) (r : Nat) : vals ys ++ [Value.int .u64 (r : Int)] = vals (ys ++ [r]) := by simp [vals]

set_option maxRecDepth 100000 in
set_option maxHeartbeats 1600000 in
theorem carry_digits (g cap : Nat) (xs : List Nat) (w : World) (hd : Dig w g xs) (hlen : xs.length ≤ 100) (hx : ∀ x ∈ xs, x ≤ 18446744069414584320) :
    Calls Tryd.prog 108 #[.slice (some ⟨g, 0, none⟩) xs.length cap] w fun e w' => ∃ g' cap', e = .returned (.slice (some ⟨g', 0, none⟩) (xs.length + 1) cap') ∧ Dig w' g' (carryL 0 xs) ∧ Below w.heap.size w w' := by
  obtain ⟨i0, hi, hz0, hz1, hz2⟩ := info_parts info22
  generalize hB : w.heap.size = B
  go_enter Tryd.func108, Tryd.ntmps108
  go_wp2
  go_loopw [3, 4, 5] (fun v o i wr => ∃ k ov : Nat, ∃ ys : List Nat, k ≤ xs.length ∧ i = .int .i64 k ∧ o = .int .u64 ov ∧ ov ≤ 4294967295 ∧ ys.length = k ∧ wr.ownsRow B 22 1 v k (vals ys) ∧ ys ++ carryL ov (xs.drop k) = carryL 0 xs ∧ Below B w wr)
    (fun _ _ i _ => xs.length - (intOf i).toNat)
  case atStart => exact ⟨0, 0, [], Nat.zero_le _, rfl, rfl, by omega, rfl, World.ownsRow_nil _ _ _ _, rfl, Below.refl _ _⟩
  case round =>
    obtain ⟨k, ov, ys, hk, rfl, rfl, hov, hyl, hown, hys, hbel⟩ := hrel
    have HY := Lib.hid hys
    have HYL := Lib.hid hyl
    have HO := Lib.hid hown
    have HB := Lib.hid hB
    clear hys hyl hown hB
    by_cases hlt : k < xs.length
    · obtain ⟨x, hxk⟩ : ∃ x, xs[k]? = some x := ⟨xs[k], List.getElem?_eq_getElem hlt⟩
      have hmem := hx x (List.mem_of_getElem? hxk)
      have hcx : wr.cell? ⟨g, k, none⟩ = some (.int .u64 x) := by
        have hc := hd k x hxk
        rw [hbel.cell (by have := World.block_lt_of_cell? _ _ hc; have := HB.out; simp only at *; omega)]
        exact hc
      have z0 : IntKind.u64.wrap ((x : Int) + (ov : Int)) = ((x + ov : Nat) : Int) := by rw [IntWalk.u64_in _ ⟨by omega, by omega⟩]; omega
      have z1 : ((x + ov : Nat) : Int) % 4294967296 = (((x + ov) % 4294967296 : Nat) : Int) := by omega
      have z2 : IntKind.u64.wrap (((x + ov : Nat) : Int) / 4294967296) = (((x + ov) / 4294967296 : Nat) : Int) := by rw [IntWalk.u64_in _ ⟨by omega, by omega⟩]; omega
      have hq : (x + ov) / 4294967296 ≤ 4294967295 := by omega
      have hc := Lib.hid (carryL_at xs k ov x hxk)
      have hr : (x + ov) % 4294967296 < 4294967296 := by omega
      obtain ⟨r, hrr⟩ : ∃ r, (x + ov) % 4294967296 = r := ⟨_, rfl⟩
      obtain ⟨q, hqq⟩ : ∃ q, (x + ov) / 4294967296 = q := ⟨_, rfl⟩
      rw [hrr, hqq] at hc
      rw [hrr] at z1 hr
      rw [hqq] at z2 hq
      clear hrr hqq
      generalize x + ov = s at z0 z1 z2
      clear hmem hov hd hx
      have hbase := Nat.le_trans (Nat.le_of_eq HB.out.symm) hbel.size
      go_wp2_with (at_builtin; refine wpList_append_lies _ rfl (.tmp 19) (.tmp 22) 166 rfl B 22 i0 (.int .u64 0) 1 8 Tryd.underlying166 hi hz0 hz1 hz2 rfl (by decide) _ k (vals ys) rfl (HO.out.alloc _) ⟨wr.heap.size, 0, none⟩ 1 1 [.int .u64 r] rfl rfl (news_one _ _ _) (news_oneCell r) (by decide) (by unfold maxLen; omega) (by omega) (Nat.le_trans hbase (by simp)) _ rfl ?_; intro g1 cap1 w1 hown1 hgrow1 hat hlt1)
      have hbel1 := (hbel.alloc hbase (.cells #[.int .u64 r] 22)).grown hgrow1 (Nat.le_trans hbase (by simp)) (own_base HO.out)
      rw [vals_snoc] at hown1
      have HO1 := Lib.hid hown1
      clear hown1 hgrow1 hat
      go_wp2
      go_roundw
      case rel =>
        refine ⟨k + 1, q, ys ++ [r], by omega, by go_num, rfl, hq, by rw [List.length_append, HYL.out]; rfl, HO1.out, ?_, hbel1⟩
        rw [List.append_assoc, List.singleton_append, ← hc.out]
        exact HY.out
      case measure => simp [intOf]; omega
    · have hkk : k = xs.length := by omega
      subst hkk
      have hnil : carryL ov (xs.drop xs.length) = [ov] := by rw [List.drop_length]; rfl
      have hbase := Nat.le_trans (Nat.le_of_eq HB.out.symm) hbel.size
      have HN := Lib.hid hnil
      clear hnil hd hx
      go_wp2_with (at_builtin; refine wpList_append_lies _ rfl (.tmp 26) (.tmp 28) 166 rfl B 22 i0 (.int .u64 0) 1 8 Tryd.underlying166 hi hz0 hz1 hz2 rfl (by decide) _ xs.length (vals ys) rfl (HO.out.alloc _) ⟨wr.heap.size, 0, none⟩ 1 1 [.int .u64 ov] rfl rfl (news_one _ _ _) (news_oneCell ov) (by decide) (by unfold maxLen; omega) (by omega) (Nat.le_trans hbase (by simp)) _ rfl ?_; intro g1 cap1 w1 hown1 hgrow1 hat hlt1)
      have hbel1 := (hbel.alloc hbase (.cells #[.int .u64 ov] 22)).grown hgrow1 (Nat.le_trans hbase (by simp)) (own_base HO.out)
      rw [vals_snoc] at hown1
      have hdig := own_cells hown1
      have heq : ys ++ [ov] = carryL 0 xs := by rw [← HY.out, HN.out]
      rw [heq] at hdig
      clear hown1 hgrow1 hat heq
      go_wp2
      go_ret
      exact ⟨_, _, rfl, hdig, hbel1⟩

end Go.Proofs.YtdgaoebjbhomdaaDoor.Wide

namespace Go.Proofs.YtdgaoebjbhomdaaDoor.Wide
open Go.RowKit

/-- Digits times one digit. -/
def byL (n : Nat) : Nat → List Nat → List Nat
  | o, [] => [o]
  | o, x :: xs => (x * n + o) % 4294967296 :: byL n ((x * n + o) / 4294967296) xs

theorem byL_at (xs : List Nat) (n k o x : Nat) (h : xs[k]? = some x) : byL n o (xs.drop k) = (x * n + o) % 4294967296 :: byL n ((x * n + o) / 4294967296) (xs.drop (k + 1)) := by
  obtain ⟨hk, rfl⟩ := List.getElem?_eq_some_iff.1 h
  rw [List.drop_eq_getElem_cons hk, byL]

theorem set_next (ys : List Nat) (m k r : Nat) (hy : ys.length = k) : (vals (ys ++ List.replicate (m + 1) 0)).set k (.int .u64 (r : Int)) = vals ((ys ++ [r]) ++ List.replicate m 0) := by
  subst hy
  simp [vals, List.replicate_succ]

theorem get_next (ys : List Nat) (m k : Nat) (hy : ys.length = k) : (vals (ys ++ List.replicate (m + 1) 0))[k]? = some (.int .u64 ((0 : Nat) : Int)) := by
  subst hy
  simp [vals, List.replicate_succ]

end Go.Proofs.YtdgaoebjbhomdaaDoor.Wide

namespace Go.Proofs.YtdgaoebjbhomdaaDoor.Wide
open Go.RowKit

theorem join_wrap (a b : Nat) (ha : a < 4294967296) (hb : b < 4294967296) : IntKind.u64.wrap (IntKind.u64.wrap ((a : Int) * 4294967296) + (b : Int)) = ((a * 4294967296 + b : Nat) : Int) := by
  simp only [IntKind.wrap_u64]
  omega

set_option maxRecDepth 100000 in
set_option maxHeartbeats 1600000 in
theorem wide_ok (g cap len : Nat) (xs : List Nat) (x0 x1 x2 x3 : Nat) (w : World) (hd : Dig w g xs) (hl : xs.length = len) (hlen : len ≤ 100)
    (h0 : xs[0]? = some x0) (h1 : xs[1]? = some x1) (h2 : xs[2]? = some x2) (h3 : xs[3]? = some x3) (b0 : x0 < 4294967296) (b1 : x1 < 4294967296) (b2 : x2 < 4294967296) (b3 : x3 < 4294967296)
    (hz : ∀ i x : Nat, 4 ≤ i → xs[i]? = some x → x = 0) :
    Calls Tryd.prog 107 #[.slice (some ⟨g, 0, none⟩) len cap] w fun e w' =>
      e = .returned (.tuple #[.agg #[.int .u64 (x3 * 4294967296 + x2 : Nat), .int .u64 (x1 * 4294967296 + x0 : Nat)], .bool true]) ∧ Below w.heap.size w w' := by
  have hn : 3 < len := hl ▸ (List.getElem?_eq_some_iff.1 h3).1
  have HLEN := Lib.hid hl
  clear hl
  have c0 := hd 0 x0 h0
  have c1 := hd 1 x1 h1
  have c2 := hd 2 x2 h2
  have c3 := hd 3 x3 h3
  have hg := World.block_lt_of_cell? _ _ c0
  simp only at hg
  have m1 := join_wrap x3 x2 b3 b2
  have m0 := join_wrap x1 x0 b1 b0
  obtain ⟨H, hH⟩ : ∃ t, x3 * 4294967296 + x2 = t := ⟨_, rfl⟩
  obtain ⟨L, hL⟩ : ∃ t, x1 * 4294967296 + x0 = t := ⟨_, rfl⟩
  rw [hH] at m1 ⊢
  rw [hL] at m0 ⊢
  clear hH hL
  clear h0 h1 h2 h3 b0 b1 b2 b3
  have hn0 : (0 : Int) < (len : Int) := by omega
  have hn0' : 0 < len := by omega
  have hn1 : (1 : Int) < (len : Int) := by omega
  have hn2 : (2 : Int) < (len : Int) := by omega
  have hn3 : (3 : Int) < (len : Int) := by omega
  go_enter Tryd.func107, Tryd.ntmps107
  go_wp2
  go_loop [4] (fun i => ∃ k : Nat, 4 ≤ k ∧ k ≤ len + 1 ∧ i = .int .i64 k) (fun i => len + 1 - (intOf i).toNat)
  case atStart => exact ⟨4, by omega, by omega, rfl⟩
  case round =>
    obtain ⟨k, hk4, hk, rfl⟩ := hrel
    by_cases hlt : k < len
    · obtain ⟨x, hxk⟩ : ∃ x, xs[k]? = some x := ⟨xs[k]'(by rw [HLEN.out]; exact hlt), List.getElem?_eq_getElem _⟩
      have hx0 := hz k x hk4 hxk
      subst hx0
      have hcx := hd k 0 hxk
      clear hz hd c0 c1 c2 c3 hn0 hn1 hn2 hn3 hn hn0'
      go_wp2
      go_round
      case rel => exact ⟨k + 1, by omega, by omega, by go_num⟩
      case measure => simp [intOf]; omega
    · clear hz hd
      go_wp2
      have k0 := keep_alloc (o := .cells #[.int .u64 0, .int .u64 0] 155) c0
      have k1 := keep_alloc (o := .cells #[.int .u64 0, .int .u64 0] 155) c1
      have k2 := keep_alloc (o := .cells #[.int .u64 0, .int .u64 0] 155) c2
      have k3 := keep_alloc (o := .cells #[.int .u64 0, .int .u64 0] 155) c3
      have z := one_cells w (.int .u64 0) (.int .u64 0) 155
      have f0 : (w.alloc (.cells #[.int .u64 0, .int .u64 0] 155)).frozen? ⟨w.heap.size, 0, none⟩ = false := by go_simp
      have f1 : (w.alloc (.cells #[.int .u64 0, .int .u64 0] 155)).frozen? ⟨w.heap.size, 1, none⟩ = false := by go_simp
      have hbel := below_alloc (Below.refl w.heap.size w) (.cells #[.int .u64 0, .int .u64 0] 155)
      have hne : w.heap.size ≠ g := by omega
      generalize w.alloc (.cells #[.int .u64 0, .int .u64 0] 155) = W at *
      generalize hnn : w.heap.size = n at *
      go_region_held3 (fun w' => w'.cell? ⟨g, 0, none⟩ = some (.int .u64 x0) ∧ w'.cell? ⟨g, 1, none⟩ = some (.int .u64 x1) ∧ w'.cell? ⟨g, 2, none⟩ = some (.int .u64 x2) ∧ w'.cell? ⟨g, 3, none⟩ = some (.int .u64 x3)) (refine ⟨?_, ?_, ?_, ?_⟩ <;> (first | (refine keep_drew ?_; assumption) | (refine two_far _ _ hne ?_; first | assumption | (refine keep_drew ?_; assumption)))) (fail)
      all_goals
        go_wp2
        have hs := two_set (.int .u64 H) (.int .u64 L) z.1 z.2
        refine bodyPost_ret (v := .tuple #[.agg #[.int .u64 H, .int .u64 L], .bool true]) (by simp [results, Tryd.results107, go_sem, hs.1, hs.2]) rfl ⟨rfl, ?_⟩
        rw [hnn]
        exact ((hbel.setCell (Nat.le_refl _) _).setCell (Nat.le_refl _) _).drew

set_option maxRecDepth 100000 in
set_option maxHeartbeats 1600000 in
theorem wide_no (g cap len : Nat) (xs : List Nat) (w : World) (hd : Dig w g xs) (hl : xs.length = len) (hlen : len ≤ 100)
    (hz : ∃ i x : Nat, 4 ≤ i ∧ xs[i]? = some x ∧ x ≠ 0) :
    Calls Tryd.prog 107 #[.slice (some ⟨g, 0, none⟩) len cap] w fun e w' =>
      e = .returned (.tuple #[.agg #[.int .u64 0, .int .u64 0], .bool false]) ∧ Below w.heap.size w w' := by
  obtain ⟨i, y, hi4, hiy, hy⟩ := hz
  have hil : i < len := hl ▸ (List.getElem?_eq_some_iff.1 hiy).1
  have hg := World.block_lt_of_cell? _ _ (hd i y hiy)
  simp only at hg
  have HLEN := Lib.hid hl
  have HI := Lib.hid hiy
  clear hl hiy
  go_enter Tryd.func107, Tryd.ntmps107
  go_wp2
  go_loop [4] (fun v => ∃ k : Nat, 4 ≤ k ∧ k ≤ i ∧ v = .int .i64 k) (fun v => len + 1 - (intOf v).toNat)
  case atStart => exact ⟨4, by omega, by omega, rfl⟩
  case round =>
    obtain ⟨k, hk4, hk, rfl⟩ := hrel
    have hlt : k < len := by omega
    obtain ⟨x, hxk⟩ : ∃ x, xs[k]? = some x := ⟨xs[k]'(by rw [HLEN.out]; exact hlt), List.getElem?_eq_getElem _⟩
    have hcx := hd k x hxk
    have HX := Lib.hid hxk
    clear hd hxk
    by_cases hx0 : x = 0
    · subst hx0
      have hki : k ≠ i := fun h => hy (by subst h; exact (Option.some.inj (HX.out.symm.trans HI.out)).symm)
      go_wp2
      go_round
      case rel => exact ⟨k + 1, by omega, by omega, by go_num⟩
      case measure => simp [intOf]; omega
    · have hne : ((x : Int) != 0) = true := by simp; omega
      go_wp2
      refine bodyPost_ret (v := .tuple #[.agg #[.int .u64 0, .int .u64 0], .bool false]) (by simp [results, Tryd.results107, go_sem]) rfl ⟨rfl, below_alloc (Below.refl _ _) _⟩

/-- What the digits of a number S tell: the number, or that it is none. -/
theorem wide_told (g cap len : Nat) (xs : List Nat) (a0 a1 a2 a3 S X e : Nat) (w : World) (hd : Dig w g xs) (hl : xs.length = len) (hlen : len ≤ 100)
    (h0 : xs[0]? = some a0) (h1 : xs[1]? = some a1) (h2 : xs[2]? = some a2) (h3 : xs[3]? = some a3) (b0 : a0 < 4294967296) (b1 : a1 < 4294967296) (b2 : a2 < 4294967296) (b3 : a3 < 4294967296)
    (hz : S < 340282366920938463463374607431768211456 → (∀ i x : Nat, 4 ≤ i → xs[i]? = some x → x = 0) ∧ S = (a3 * 4294967296 + a2) * 18446744073709551616 + (a1 * 4294967296 + a0))
    (hn : ¬ S < 340282366920938463463374607431768211456 → ∃ i x : Nat, 4 ≤ i ∧ xs[i]? = some x ∧ x ≠ 0)
    (hX : (if S < 340282366920938463463374607431768211456 then (S, 0) else (0, 9)) = (X, e)) :
    ∃ ok : Bool, Calls Tryd.prog 107 #[.slice (some ⟨g, 0, none⟩) len cap] w (fun r w' =>
      r = .returned (.tuple #[.agg #[.int .u64 (hiN X), .int .u64 (loN X)], .bool ok]) ∧ Below w.heap.size w w') ∧ (ok = true → e = 0) ∧ (ok = false → e = 9 ∧ hiN X = 0 ∧ loN X = 0) := by
  by_cases hS : S < 340282366920938463463374607431768211456
  · rw [if_pos hS] at hX
    simp only [Prod.mk.injEq] at hX
    obtain ⟨rfl, rfl⟩ := hX
    obtain ⟨hz1, hz2⟩ := hz hS
    have hW := wide_ok g cap len xs a0 a1 a2 a3 w hd hl hlen h0 h1 h2 h3 b0 b1 b2 b3 hz1
    refine ⟨true, ?_, fun _ => rfl, fun h => by simp at h⟩
    rw [hz2, hiN_join _ _ (by omega), loN_join _ _ (by omega)]
    exact hW
  · rw [if_neg hS] at hX
    simp only [Prod.mk.injEq] at hX
    obtain ⟨rfl, rfl⟩ := hX
    refine ⟨false, ?_, fun h => by simp at h, fun _ => ⟨rfl, rfl, rfl⟩⟩
    exact wide_no g cap len xs w hd hl hlen (hn hS)

end Go.Proofs.YtdgaoebjbhomdaaDoor.Wide

namespace Go.Proofs.YtdgaoebjbhomdaaDoor.Wide
open Go.RowKit

/-- Digit by digit. -/
def sumsL (ah al bh bl : Nat) : List Nat := [al % 4294967296 + bl % 4294967296, al / 4294967296 + bl / 4294967296, ah % 4294967296 + bh % 4294967296, ah / 4294967296 + bh / 4294967296]

theorem sumsL_at (ah al bh bl k x y : Nat) (hx : (ofL ah al)[k]? = some x) (hy : (ofL bh bl)[k]? = some y) : (sumsL ah al bh bl)[k]? = some (x + y) := by
  unfold ofL at hx hy
  unfold sumsL
  match k, hx, hy with
  | 0, hx, hy => simp at hx hy ⊢; omega
  | 1, hx, hy => simp at hx hy ⊢; omega
  | 2, hx, hy => simp at hx hy ⊢; omega
  | 3, hx, hy => simp at hx hy ⊢; omega
  | k + 4, hx, _ => simp at hx

theorem ofL_at (h l k : Nat) (hk : k < 4) (hh : h < 18446744073709551616) (hl : l < 18446744073709551616) : ∃ x, (ofL h l)[k]? = some x ∧ x < 4294967296 := by
  unfold ofL
  match k, hk with
  | 0, _ => exact ⟨_, rfl, by omega⟩
  | 1, _ => exact ⟨_, rfl, by omega⟩
  | 2, _ => exact ⟨_, rfl, by omega⟩
  | 3, _ => exact ⟨_, rfl, by omega⟩

/-- What the carried sums tell. -/
theorem sums_told (ah al bh bl : Nat) :
    ∃ s0 s1 s2 s3 o, carryL 0 (sumsL ah al bh bl) = [s0, s1, s2, s3, o] ∧ s0 < 4294967296 ∧ s1 < 4294967296 ∧ s2 < 4294967296 ∧ s3 < 4294967296 ∧
      (s3 * 4294967296 + s2) * 18446744073709551616 + (s1 * 4294967296 + s0) + o * 340282366920938463463374607431768211456 = ah * 18446744073709551616 + al + (bh * 18446744073709551616 + bl) := by
  refine ⟨_, _, _, _, _, rfl, Nat.mod_lt _ (by omega), Nat.mod_lt _ (by omega), Nat.mod_lt _ (by omega), Nat.mod_lt _ (by omega), ?_⟩
  omega

theorem own_take (w : World) (B g cap ah al bh bl : Nat) (h : w.ownsRow B 22 1 (.slice (some ⟨g, 0, none⟩) 4 cap) 4 (vals ((sumsL ah al bh bl).take 4))) : Dig w g (sumsL ah al bh bl) := by
  have e : (sumsL ah al bh bl).take 4 = sumsL ah al bh bl := List.take_of_length_le (Nat.le_refl 4)
  rw [e] at h
  exact own_cells h

theorem carry_sums (g cap ah al bh bl : Nat) (w : World) (hd : Dig w g (sumsL ah al bh bl)) (h1 : ah < 18446744073709551616) (h2 : al < 18446744073709551616) (h3 : bh < 18446744073709551616) (h4 : bl < 18446744073709551616) :
    Calls Tryd.prog 108 #[.slice (some ⟨g, 0, none⟩) 4 cap] w fun e w' => ∃ g' cap', e = .returned (.slice (some ⟨g', 0, none⟩) 5 cap') ∧ Dig w' g' (carryL 0 (sumsL ah al bh bl)) ∧ Below w.heap.size w w' :=
  carry_digits g cap (sumsL ah al bh bl) w hd (by simp [sumsL]) (by
    intro x hx
    simp [sumsL] at hx
    omega)

theorem wide_sums (g cap ah al bh bl X e : Nat) (w : World) (hd : Dig w g (carryL 0 (sumsL ah al bh bl)))
    (hX : plusN (ah * 18446744073709551616 + al) (bh * 18446744073709551616 + bl) = (X, e)) :
    ∃ ok : Bool, Calls Tryd.prog 107 #[.slice (some ⟨g, 0, none⟩) 5 cap] w (fun r w' =>
      r = .returned (.tuple #[.agg #[.int .u64 (hiN X), .int .u64 (loN X)], .bool ok]) ∧ Below w.heap.size w w') ∧ (ok = true → e = 0) ∧ (ok = false → e = 9 ∧ hiN X = 0 ∧ loN X = 0) := by
  obtain ⟨a0, a1, a2, a3, o, hcl, b0, b1, b2, b3, hval⟩ := sums_told ah al bh bl
  rw [hcl] at hd
  unfold plusN at hX
  obtain ⟨S, hS⟩ : ∃ S, ah * 18446744073709551616 + al + (bh * 18446744073709551616 + bl) = S := ⟨_, rfl⟩
  rw [hS] at hX hval
  clear hS hcl
  refine wide_told g cap 5 [a0, a1, a2, a3, o] a0 a1 a2 a3 _ X e w hd rfl (by omega) rfl rfl rfl rfl b0 b1 b2 b3 ?_ ?_ hX
  · intro hS
    have ho : o = 0 := by omega
    refine ⟨?_, by omega⟩
    intro i x hi hx
    match i, hi, hx with
    | 4, _, hx => simp at hx; omega
    | i + 5, _, hx => simp at hx
  · intro hS
    exact ⟨4, o, by omega, rfl, by omega⟩

set_option maxRecDepth 100000 in
set_option maxHeartbeats 1600000 in
theorem refPlus_any (ah al bh bl : Nat) (w : World) (h1 : ah < 18446744073709551616) (h2 : al < 18446744073709551616) (h3 : bh < 18446744073709551616) (h4 : bl < 18446744073709551616) :
    Calls Tryd.prog 97 #[.agg #[.int .u64 ah, .int .u64 al], .agg #[.int .u64 bh, .int .u64 bl]] w fun e w' =>
      e = .returned (.tuple #[.agg #[.int .u64 (hiN (plusN (ah * 18446744073709551616 + al) (bh * 18446744073709551616 + bl)).1), .int .u64 (loN (plusN (ah * 18446744073709551616 + al) (bh * 18446744073709551616 + bl)).1)],
        .int .i64 (plusN (ah * 18446744073709551616 + al) (bh * 18446744073709551616 + bl)).2]) ∧ Below w.heap.size w w' := by
  obtain ⟨i0, hi, hz0, hz1, hz2⟩ := info_parts info22
  obtain ⟨⟨X, e⟩, hX⟩ : ∃ t, plusN (ah * 18446744073709551616 + al) (bh * 18446744073709551616 + bl) = t := ⟨_, rfl⟩
  rw [hX]
  dsimp only
  obtain ⟨x0, hx0⟩ : ∃ t, hiN X = t := ⟨_, rfl⟩
  obtain ⟨x1, hx1⟩ : ∃ t, loN X = t := ⟨_, rfl⟩
  rw [hx0, hx1]
  have HX := Lib.hid hX
  have HX0 := Lib.hid hx0
  have HX1 := Lib.hid hx1
  clear hX hx0 hx1
  have hb := below_alloc (below_alloc (below_alloc (Below.refl w.heap.size w) (.cells #[.int .u64 ah, .int .u64 al] 155)) (.cells #[.int .u64 bh, .int .u64 bl] 155)) (.cells #[.int .u64 0, .int .u64 0] 155)
  have s0 : Six (((w.alloc (.cells #[.int .u64 ah, .int .u64 al] 155)).alloc (.cells #[.int .u64 bh, .int .u64 bl] 155)).alloc (.cells #[.int .u64 0, .int .u64 0] 155)) w.heap.size (.int .u64 ah) (.int .u64 al) (.int .u64 bh) (.int .u64 bl) (.int .u64 0) (.int .u64 0) := by
    obtain ⟨a, b, c, d, e, f⟩ := six_cells w (.int .u64 ah) (.int .u64 al) (.int .u64 bh) (.int .u64 bl) (.int .u64 0) (.int .u64 0) 155
    exact ⟨a, b, c, d, e, f⟩
  have f0 : (((w.alloc (.cells #[.int .u64 ah, .int .u64 al] 155)).alloc (.cells #[.int .u64 bh, .int .u64 bl] 155)).alloc (.cells #[.int .u64 0, .int .u64 0] 155)).frozen? ⟨w.heap.size + 2, 0, none⟩ = false := by go_simp
  have f1 : (((w.alloc (.cells #[.int .u64 ah, .int .u64 al] 155)).alloc (.cells #[.int .u64 bh, .int .u64 bl] 155)).alloc (.cells #[.int .u64 0, .int .u64 0] 155)).frozen? ⟨w.heap.size + 2, 1, none⟩ = false := by go_simp
  go_enter Tryd.func97, Tryd.ntmps97
  go_wp2_with fail
  refine (of_any ah al _ h1 h2).mono ?_
  rintro r w1 ⟨gx, rfl, hdx, hb1⟩
  have s1 := s0.kept hb1
  have f2 := keptF hb1 s0.k4 f0
  have f3 := keptF hb1 s0.k5 f1
  have hb1' := hb.trans (hb1.mono hb.size)
  have t2 := s1.k2; have t3 := s1.k3
  clear s0 f0 f1 hb hb1
  go_wp2_with fail
  refine (of_any bh bl _ h3 h4).mono ?_
  rintro r w2 ⟨gy, rfl, hdy, hb2⟩
  have s2 := s1.kept hb2
  have hdx2 := hdx.kept hb2
  have f4 := keptF hb2 s1.k4 f2
  have f5 := keptF hb2 s1.k5 f3
  have hb2' := hb1'.trans (hb2.mono hb1'.size)
  clear t2 t3 s1 hdx f2 f3 hb1' hb2
  generalize hB : w2.heap.size = B
  have HB := Lib.hid hB
  clear hB
  go_wp2_with fail
  go_loopw [8, 9] (fun v i wr => ∃ k : Nat, k ≤ 4 ∧ i = .int .i64 k ∧ wr.ownsRow B 22 1 v k (vals ((sumsL ah al bh bl).take k)) ∧ Below B w2 wr)
    (fun _ i _ => 4 - (intOf i).toNat)
  case atStart => exact ⟨0, by omega, rfl, World.ownsRow_nil _ _ _ _, Below.refl _ _⟩
  case round =>
    obtain ⟨k, hk, rfl, hown, hbel⟩ := hrel
    have HO := Lib.hid hown
    have hbase := Nat.le_trans (Nat.le_of_eq HB.out.symm) hbel.size
    clear hown
    by_cases hlt : k < 4
    · obtain ⟨x, hxk, hxb⟩ := ofL_at ah al k hlt h1 h2
      obtain ⟨y, hyk, hyb⟩ := ofL_at bh bl k hlt h3 h4
      have HCX := Lib.hid (hdx2 k x hxk)
      have HCY := Lib.hid (hdy k y hyk)
      have HGX := Lib.hid (show gx < B from HB.out ▸ World.block_lt_of_cell? _ _ HCX.out)
      have HGY := Lib.hid (show gy < B from HB.out ▸ World.block_lt_of_cell? _ _ HCY.out)
      have hcx : wr.cell? ⟨gx, k, none⟩ = some (.int .u64 x) := (hbel.cell (p := ⟨gx, k, none⟩) HGX.out).trans HCX.out
      have hcy : wr.cell? ⟨gy, k, none⟩ = some (.int .u64 y) := (hbel.cell (p := ⟨gy, k, none⟩) HGY.out).trans HCY.out
      have z0 : IntKind.u64.wrap ((x : Int) + (y : Int)) = ((x + y : Nat) : Int) := by rw [IntWalk.u64_in _ ⟨by omega, by omega⟩]; omega
      have htk : vals ((sumsL ah al bh bl).take k) ++ [Value.int .u64 ((x + y : Nat) : Int)] = vals ((sumsL ah al bh bl).take (k + 1)) := by
        rw [vals_snoc, List.take_add_one, sumsL_at ah al bh bl k x y hxk hyk]
        rfl
      obtain ⟨s, hs⟩ : ∃ s, x + y = s := ⟨_, rfl⟩
      rw [hs] at z0 htk
      clear hs hxk hyk hxb hyb hdx2 hdy s2 f4 f5 hb2'
      have hk0 : (0 : Int) ≤ (k : Int) := by omega
      have hk4 : (k : Int) < 4 := by omega
      have HTK := Lib.hid htk
      clear htk
      go_wp2
      go_region_held3 (fun w' => w'.cell? ⟨gx, k, none⟩ = some (.int .u64 x) ∧ w'.cell? ⟨gy, k, none⟩ = some (.int .u64 y)) (refine ⟨?_, ?_⟩ <;> (first | assumption | (refine keep_drew ?_; first | assumption | (refine keep_alloc ?_; assumption)) | (refine keep_alloc ?_; first | assumption | (refine keep_drew ?_; assumption)))) (first
        | (refine step_append_lies _ rfl (.tmp 20) (.tmp 30) 166 rfl B 22 i0 (.int .u64 0) 1 8 Tryd.underlying166 hi hz0 hz1 hz2 rfl (by decide) _ k (vals ((sumsL ah al bh bl).take k)) (by simp [Act.eval]) (HO.out.alloc _).drew ⟨wr.heap.size, 0, none⟩ 1 1 [.int .u64 s] (by simp [Act.eval]) rfl (news_one _ _ _) (news_oneCell s) (by decide) (by unfold maxLen; omega) (by omega) (Nat.le_trans hbase (by simp)) _ rfl ?_; intro g1 cap1 w1 hown1 hgrow1 hat hlt1; have hbel1 := ((hbel.alloc hbase (.cells #[.int .u64 s] 22)).drew).grown hgrow1 (Nat.le_trans hbase (by simp)) (own_base HO.out); have kx := (hbel1.cell (p := ⟨gx, k, none⟩) HGX.out).trans HCX.out; have ky := (hbel1.cell (p := ⟨gy, k, none⟩) HGY.out).trans HCY.out; rw [HTK.out] at hown1; have HO1 := Lib.hid hown1; clear hown1 hgrow1 hat))
      go_wp2
      go_roundw
      case rel => exact ⟨k + 1, by omega, by go_num, HO1.out, hbel1⟩
      case measure => simp [intOf]; omega
    · have hkk : k = 4 := by omega
      subst hkk
      obtain ⟨g1, cap1, rfl⟩ := Go.Joins.ownsRow_form HO.out (by omega)
      have hd1 := own_take wr B g1 cap1 ah al bh bl HO.out
      have hbel' : Below w2.heap.size w2 wr := by
        rw [HB.out]
        exact hbel
      have s3 := s2.kept hbel'
      have f6 := keptF hbel' s2.k4 f4
      have f7 := keptF hbel' s2.k5 f5
      have hb3' := hb2'.trans (hbel'.mono hb2'.size)
      clear s2 f4 f5 hb2' hbel hbel' HO hlt hk hdx2 hdy
      go_wp2_with fail
      refine (carry_sums g1 cap1 ah al bh bl _ hd1 h1 h2 h3 h4).mono ?_
      rintro r w3 ⟨g2, cap2, rfl, hd2, hb4⟩
      have s4 := s3.kept hb4
      have f8 := keptF hb4 s3.k4 f6
      have f9 := keptF hb4 s3.k5 f7
      have hb4' := hb3'.trans (hb4.mono hb3'.size)
      clear s3 f6 f7 hb3' hb4 hd1
      obtain ⟨ok, hW, hok1, hok2⟩ := wide_sums g2 cap2 ah al bh bl X e w3 hd2 HX.out
      rw [HX0.out, HX1.out] at hW hok2
      clear hd2
      go_wp2_with fail
      refine hW.mono ?_
      rintro r w5 ⟨rfl, hb5⟩
      have s5 := s4.kept hb5
      have fa := keptF hb5 s4.k4 f8
      have fb := keptF hb5 s4.k5 f9
      have hb5' := hb4'.trans (hb5.mono hb4'.size)
      have k4 := s5.k4
      have k5 := s5.k5
      have hsz := s5.size
      clear s4 s5 f8 f9 hb4' hb5 hW
      have hs := two_set (.int .u64 x0) (.int .u64 x1) k4 k5
      have hb6 := below_alloc ((hb5'.setCell (p := ⟨w.heap.size + 2, 0, none⟩) (show w.heap.size ≤ w.heap.size + 2 by omega) (.int .u64 x0)).setCell (p := ⟨w.heap.size + 2, 1, none⟩) (show w.heap.size ≤ w.heap.size + 2 by omega) (.int .u64 x1)) (.cells #[.int .u64 x0, .int .u64 x1] 155)
      have hs0 := keep_alloc (o := .cells #[.int .u64 x0, .int .u64 x1] 155) hs.1
      have hs1 := keep_alloc (o := .cells #[.int .u64 x0, .int .u64 x1] 155) hs.2
      cases ok with
      | true =>
        obtain rfl := hok1 rfl
        clear hok2 hok1
        go_wp2_with fail
        refine bodyPost_ret (v := .tuple #[.agg #[.int .u64 x0, .int .u64 x1], .int .i64 0]) (by simp [results, Tryd.results97, go_sem, hs0, hs1]) rfl ⟨rfl, ?_⟩
        exact hb6
      | false =>
        obtain ⟨rfl, rfl, rfl⟩ := hok2 rfl
        clear hok2 hok1 hs0 hs1 hs
        have hs := two_set (.int .u64 0) (.int .u64 0) k4 k5
        have hs0 := keep_alloc (o := .cells #[.int .u64 0, .int .u64 0] 155) hs.1
        have hs1 := keep_alloc (o := .cells #[.int .u64 0, .int .u64 0] 155) hs.2
        go_wp2_with fail
        refine bodyPost_ret (v := .tuple #[.agg #[.int .u64 0, .int .u64 0], .int .i64 9]) (by simp [results, Tryd.results97, go_sem, hs0, hs1]) rfl ⟨rfl, ?_⟩
        exact hb6

end Go.Proofs.YtdgaoebjbhomdaaDoor.Wide

namespace Go.Proofs.YtdgaoebjbhomdaaDoor.Wide
open Go.RowKit

/-- The sum of a list. -/
def totalL : List Nat → Nat
  | [] => 0
  | x :: xs => x + totalL xs

theorem totalL_take (xs : List Nat) (k x : Nat) (h : xs[k]? = some x) : totalL (xs.take (k + 1)) = totalL (xs.take k) + x := by
  induction xs generalizing k with
  | nil => simp at h
  | cons y ys ih =>
    cases k with
    | zero => simp at h; subst h; simp [totalL]
    | succ k =>
      have := ih k (by simpa using h)
      simp only [List.take_succ_cons, totalL]
      omega

theorem totalL_le (xs : List Nat) (k : Nat) : totalL (xs.take k) ≤ totalL xs := by
  induction xs generalizing k with
  | nil => simp [totalL]
  | cons y ys ih =>
    cases k with
    | zero => simp [totalL]
    | succ k =>
      have := ih k
      simp only [List.take_succ_cons, totalL]
      omega

/-- The numbers that a slice leads to. -/
def Nums (w : World) (a : Option Addr) (len cap : Nat) (xs : List Nat) : Prop :=
  xs.length = len ∧ len ≤ cap ∧ cap ≤ maxLen ∧ (∀ x ∈ xs, x < 18446744073709551616) ∧ (len = 0 ∨ ∃ p, a = some p ∧ ∀ i x : Nat, xs[i]? = some x → w.cell? (p.add i) = some (.int .u64 x))

/-- The sum, or that it is no number. -/
def sumN (xs : List Nat) : Nat × Nat := if totalL xs < 18446744073709551616 then (totalL xs, 0) else (0, 9)

set_option maxRecDepth 100000 in
set_option maxHeartbeats 800000 in
theorem sum_any (a : Option Addr) (len cap : Nat) (xs : List Nat) (w : World) (hs : Nums w a len cap xs) :
    Calls Tryd.prog 50 #[.slice a len cap] w fun e w' => e = .returned (.tuple #[.int .u64 (sumN xs).1, .int .i64 (sumN xs).2]) ∧ w = w' := by
  obtain ⟨hlen, hcap, hmax, hx, hcell⟩ := hs
  obtain ⟨⟨r, e⟩, hR⟩ : ∃ t, sumN xs = t := ⟨_, rfl⟩
  rw [hR]
  have HR := Lib.hid hR
  have HL := Lib.hid hlen
  have HM : len ≤ 9223372036854775807 := by unfold maxLen at hmax; omega
  clear hR hlen hcap hmax
  go_enter Tryd.func50, Tryd.ntmps50
  go_wp2
  go_loop [4, 10] (fun s i => ∃ k t : Nat, k ≤ len ∧ i = .int .i64 k ∧ s = .int .u64 t ∧ t < 18446744073709551616 ∧ t = totalL (xs.take k)) (fun _ i => len - (intOf i).toNat)
  case atStart => exact ⟨0, 0, Nat.zero_le _, rfl, rfl, by omega, rfl⟩
  case round =>
    obtain ⟨k, t, hk, rfl, rfl, ht, htt⟩ := hrel
    have HT := Lib.hid htt
    clear htt
    by_cases hlt : k < len
    · rcases hcell with h0 | ⟨p, rfl, hc⟩
      · omega
      obtain ⟨x, hxk⟩ : ∃ x, xs[k]? = some x := ⟨xs[k]'(by rw [HL.out]; exact hlt), List.getElem?_eq_getElem _⟩
      have hcx := hc k x hxk
      have hxb := hx x (List.mem_of_getElem? hxk)
      have hA := fun w => add_any t x w ht hxb
      have HN := Lib.hid (totalL_take xs k x hxk)
      clear hc hx hxk
      unfold addN at hA
      by_cases ho : t + x < 18446744073709551616
      · simp only [if_pos ho] at hA
        obtain ⟨s, hss⟩ : ∃ s, t + x = s := ⟨_, rfl⟩
        rw [hss] at hA ho
        have HS := Lib.hid hss
        have HO := Lib.hid ho
        clear hss ho
        go_wp2_with (go_at_call 78; refine (hA _).mono ?_; rintro e w' ⟨rfl, rfl⟩)
        go_round
        case rel => exact ⟨k + 1, s, by omega, by go_num, rfl, HO.out, by rw [HN.out, ← HT.out, HS.out]⟩
        case measure => simp [intOf]; omega
      · simp only [if_neg ho] at hA
        have hno : sumN xs = (0, 9) := by
          unfold sumN
          have := totalL_le xs (k + 1)
          rw [HN.out, ← HT.out] at this
          rw [if_neg (by omega)]
        have hz := HR.out.symm.trans hno
        simp only [Prod.mk.injEq] at hz
        obtain ⟨rfl, rfl⟩ := hz
        clear ho hno
        go_wp2_with (go_at_call 78; refine (hA _).mono ?_; rintro e w' ⟨rfl, rfl⟩)
        go_ret2
        exact ⟨rfl, rfl⟩
    · have hkk : k = len := by omega
      subst hkk
      have hyes : sumN xs = (t, 0) := by
        have h := HT.out
        rw [List.take_of_length_le (by rw [HL.out]; exact Nat.le_refl _)] at h
        unfold sumN
        rw [← h, if_pos ht]
      have hz := HR.out.symm.trans hyes
      simp only [Prod.mk.injEq] at hz
      obtain ⟨rfl, rfl⟩ := hz
      clear hyes hcell hx
      go_wp2
      go_ret2
      exact ⟨rfl, rfl⟩

end Go.Proofs.YtdgaoebjbhomdaaDoor.Wide

namespace Go.Proofs.YtdgaoebjbhomdaaDoor.Wide
open Go.RowKit

theorem totalL_most (xs : List Nat) (h : ∀ x ∈ xs, x < 18446744073709551616) : totalL xs ≤ xs.length * 18446744073709551615 := by
  induction xs with
  | nil => simp [totalL]
  | cons y ys ih =>
    have h1 := ih fun x hx => h x (List.mem_cons_of_mem _ hx)
    have h2 := h y (List.mem_cons_self)
    simp only [totalL, List.length_cons]
    omega

set_option maxRecDepth 100000 in
set_option maxHeartbeats 1600000 in
theorem refSum_any (a : Option Addr) (len cap : Nat) (xs : List Nat) (w : World) (hs : Nums w a len cap xs) (h4 : len ≤ 4096) :
    Calls Tryd.prog 82 #[.slice a len cap] w fun e w' => e = .returned (.tuple #[.int .u64 (sumN xs).1, .int .i64 (sumN xs).2]) ∧ Below w.heap.size w w' := by
  obtain ⟨hlen, hcap, hmax, hx, hcell⟩ := hs
  obtain ⟨⟨r, e⟩, hR⟩ : ∃ t, sumN xs = t := ⟨_, rfl⟩
  rw [hR]
  have HR := Lib.hid hR
  have HL := Lib.hid hlen
  have hmost := totalL_most xs hx
  have HMO := Lib.hid hmost
  have z := one_cells w (.int .u64 0) (.int .u64 0) 155
  have f0 : (w.alloc (.cells #[.int .u64 0, .int .u64 0] 155)).frozen? ⟨w.heap.size, 0, none⟩ = false := by go_simp
  have f1 : (w.alloc (.cells #[.int .u64 0, .int .u64 0] 155)).frozen? ⟨w.heap.size, 1, none⟩ = false := by go_simp
  have hb0 := below_alloc (Below.refl w.heap.size w) (.cells #[.int .u64 0, .int .u64 0] 155)
  clear hR hlen hcap hmax hmost
  go_enter Tryd.func82, Tryd.ntmps82
  go_wp2_with fail
  go_loopw [5] (fun i wr => ∃ k t : Nat, k ≤ len ∧ i = .int .i64 k ∧ t = totalL (xs.take k) ∧ wr.cell? ⟨w.heap.size, 0, none⟩ = some (.int .u64 (hiN t)) ∧ wr.cell? ⟨w.heap.size, 1, none⟩ = some (.int .u64 (loN t)) ∧
      wr.frozen? ⟨w.heap.size, 0, none⟩ = false ∧ wr.frozen? ⟨w.heap.size, 1, none⟩ = false ∧ Below w.heap.size w wr) (fun i _ => len - (intOf i).toNat)
  case atStart => exact ⟨0, 0, Nat.zero_le _, rfl, rfl, z.1, z.2, f0, f1, hb0⟩
  case round =>
    clear z f0 f1 hb0
    obtain ⟨k, t, hk, rfl, htt, c0, c1, f0, f1, hbel⟩ := hrel
    have HT := Lib.hid htt
    have htm : t < 340282366920938463463374607431768211456 - 18446744073709551616 := by
      have h1 := totalL_le xs k
      have h2 := HMO.out
      have h3 : xs.length * 18446744073709551615 ≤ 4096 * 18446744073709551615 := Nat.mul_le_mul_right _ (by rw [HL.out]; exact h4)
      omega
    clear htt
    by_cases hlt : k < len
    · rcases hcell with h0 | ⟨p, rfl, hc⟩
      · omega
      obtain ⟨x, hxk⟩ : ∃ x, xs[k]? = some x := ⟨xs[k]'(by rw [HL.out]; exact hlt), List.getElem?_eq_getElem _⟩
      have hcx := kept hbel (hc k x hxk)
      have hxb := hx x (List.mem_of_getElem? hxk)
      have HN := Lib.hid (totalL_take xs k x hxk)
      have hP := fun w => refPlus_any (hiN t) (loN t) 0 x w (hiN_lt (by omega)) (loN_lt _) (by omega) hxb
      have hp : plusN t (0 * 18446744073709551616 + x) = (t + x, 0) := by
        unfold plusN
        rw [Nat.zero_mul, Nat.zero_add, if_pos (by omega)]
      rw [join_N, hp] at hP
      dsimp only at hP
      obtain ⟨s, hss⟩ : ∃ s, t + x = s := ⟨_, rfl⟩
      rw [hss] at hP
      have HS := Lib.hid hss
      clear hc hx hxk hp hxb htm hss
      have HP := Lib.hid hP
      clear hP
      obtain ⟨th, hth⟩ : ∃ v, hiN t = v := ⟨_, rfl⟩
      obtain ⟨tl, htl⟩ : ∃ v, loN t = v := ⟨_, rfl⟩
      rw [hth] at c0 HP
      rw [htl] at c1 HP
      clear hth htl
      obtain ⟨sh, hsh⟩ : ∃ v, hiN s = v := ⟨_, rfl⟩
      obtain ⟨sl, hsl⟩ : ∃ v, loN s = v := ⟨_, rfl⟩
      rw [hsh, hsl] at HP
      go_wp2_with fail
      go_region_with (go_at_call 97; refine (HP.out _).mono ?_; rintro e w' ⟨rfl, hb⟩; have k0 := kept hb c0; have k1 := kept hb c1; have k2 := keptF hb c0 f0; have k3 := keptF hb c1 f1)
      all_goals
        go_wp2_with fail
        go_roundw
        case rel =>
          have hb' : Below wr.heap.size wr w' := ⟨hb.os, hb.tape, hb.output, hb.size, hb.block⟩
          have h2 := two_set (.int .u64 sh) (.int .u64 sl) k0 k1
          exact ⟨k + 1, s, by omega, by go_num, by rw [HN.out, ← HT.out, HS.out], by rw [hsh]; exact h2.1, by rw [hsl]; exact h2.2, by simp [k2], by simp [k3], ((hbel.trans (hb'.mono hbel.size)).setCell (Nat.le_refl _) _).setCell (Nat.le_refl _) _⟩
        case measure => simp [intOf]; omega
    · have hkk : k = len := by omega
      subst hkk
      have htt := HT.out
      rw [List.take_of_length_le (by rw [HL.out]; exact Nat.le_refl _)] at htt
      have hr := HR.out
      unfold sumN at hr
      rw [← htt] at hr
      clear htm hcell hx htt
      by_cases ho : t < 18446744073709551616
      · rw [if_pos ho] at hr
        simp only [Prod.mk.injEq] at hr
        obtain ⟨rfl, rfl⟩ := hr
        rw [show hiN t = 0 from Nat.div_eq_of_lt ho] at c0
        rw [show loN t = t from Nat.mod_eq_of_lt ho] at c1
        clear ho
        go_wp2_with fail
        go_ret2
        exact ⟨rfl, hbel⟩
      · rw [if_neg ho] at hr
        simp only [Prod.mk.injEq] at hr
        obtain ⟨rfl, rfl⟩ := hr
        have hne : 0 < hiN t := by unfold hiN; omega
        obtain ⟨th, hth⟩ : ∃ v, hiN t = v := ⟨_, rfl⟩
        rw [hth] at c0 hne
        clear ho hth
        go_wp2_with fail
        go_ret2
        exact ⟨rfl, hbel⟩

end Go.Proofs.YtdgaoebjbhomdaaDoor.Wide
