/- The document's own answers: digits of 32 bits. -/
import Derived.Test.YtogpnfgjdnccdaaWideL1
import Derived.Deep.AppendLies
import Derived.OwnWalk
namespace Go.Proofs.Ytogpnfgjdnccdaa.Wide
open Go.RowKit

/-- A slice's cells are these numbers. -/
def Dig (w : World) (g : Nat) (xs : List Nat) : Prop := ∀ i x : Nat, xs[i]? = some x → w.cell? ⟨g, i, none⟩ = some (.int .u64 x)

theorem Dig.kept {w w' : World} {g : Nat} {xs : List Nat} (d : Dig w g xs) (h : Below w.heap.size w w') : Dig w' g xs := fun i x hx => Wide.kept h (d i x hx)
theorem Dig.alloc {w : World} {g : Nat} {xs : List Nat} (d : Dig w g xs) (o : Obj) : Dig (w.alloc o) g xs := fun i x hx => keep_alloc (d i x hx)

def vals (xs : List Nat) : List Value := xs.map fun (x : Nat) => Value.int .u64 x

theorem info22 : (Try.prog.info? 26).map (fun i => (i.zero, i.size, i.bytes)) = some (some (.int .u64 0), 1, 8) := by kernel_rfl

theorem four_cells (w : World) (a b c d : Value) (t : TypeId) (o : Obj) :
    let W := (w.alloc o).alloc (.cells #[a, b, c, d] t)
    W.cell? ⟨w.heap.size + 1, 0, none⟩ = some a ∧ W.cell? ⟨w.heap.size + 1, 1, none⟩ = some b ∧ W.cell? ⟨w.heap.size + 1, 2, none⟩ = some c ∧ W.cell? ⟨w.heap.size + 1, 3, none⟩ = some d := by
  refine ⟨?_, ?_, ?_, ?_⟩ <;> go_simp

theorem dig_four {w : World} {g a b c d : Nat} (h0 : w.cell? ⟨g, 0, none⟩ = some (.int .u64 a)) (h1 : w.cell? ⟨g, 1, none⟩ = some (.int .u64 b)) (h2 : w.cell? ⟨g, 2, none⟩ = some (.int .u64 c)) (h3 : w.cell? ⟨g, 3, none⟩ = some (.int .u64 d)) : Dig w g [a, b, c, d] := by
  intro i x hx
  match i with
  | 0 => simp at hx; subst hx; exact h0
  | 1 => simp at hx; subst hx; exact h1
  | 2 => simp at hx; subst hx; exact h2
  | 3 => simp at hx; subst hx; exact h3
  | i + 4 => simp at hx

/-- A wide number's four digits. -/
def ofL (h l : Nat) : List Nat := [l % 4294967296, l / 4294967296, h % 4294967296, h / 4294967296]

set_option maxRecDepth 100000 in
set_option maxHeartbeats 400000 in
theorem of_any (h l : Nat) (w : World) (hh : h < 18446744073709551616) (hl : l < 18446744073709551616) :
    Calls Try.prog 41 #[.agg #[.int .u64 h, .int .u64 l]] w fun e w' => ∃ g, e = .returned (.slice (some ⟨g, 0, none⟩) 4 4) ∧ Dig w' g (ofL h l) ∧ Below w.heap.size w w' := by
  unfold ofL
  have e0 : (l : Int) % 4294967296 = ((l % 4294967296 : Nat) : Int) := by omega
  have e1 : IntKind.u64.wrap ((l : Int) / 4294967296) = ((l / 4294967296 : Nat) : Int) := by rw [IntWalk.u64_in _ ⟨by omega, by omega⟩]; omega
  have e2 : (h : Int) % 4294967296 = ((h % 4294967296 : Nat) : Int) := by omega
  have e3 : IntKind.u64.wrap ((h : Int) / 4294967296) = ((h / 4294967296 : Nat) : Int) := by rw [IntWalk.u64_in _ ⟨by omega, by omega⟩]; omega
  generalize l % 4294967296 = l0 at e0 ⊢
  generalize l / 4294967296 = l1 at e1 ⊢
  generalize h % 4294967296 = h0 at e2 ⊢
  generalize h / 4294967296 = h1 at e3 ⊢
  go_enter Try.func41, Try.ntmps41
  go_wp2
  go_ret
  obtain ⟨c0, c1, c2, c3⟩ := four_cells w (.int .u64 l0) (.int .u64 l1) (.int .u64 h0) (.int .u64 h1) 26 (.cells #[.int .u64 h, .int .u64 l] 48)
  exact ⟨_, rfl, dig_four c0 c1 c2 c3, below_alloc (below_alloc (Below.refl _ _) _) _⟩

/-- Digits whose excess goes on. -/
def carryL : Nat → List Nat → List Nat
  | o, [] => [o]
  | o, x :: xs => (x + o) % 4294967296 :: carryL ((x + o) / 4294967296) xs

theorem carryL_at (xs : List Nat) (k o x : Nat) (h : xs[k]? = some x) : carryL o (xs.drop k) = (x + o) % 4294967296 :: carryL ((x + o) / 4294967296) (xs.drop (k + 1)) := by
  obtain ⟨hk, rfl⟩ := List.getElem?_eq_some_iff.1 h
  rw [List.drop_eq_getElem_cons hk, carryL]

theorem own_cells {w : World} {B : Nat} {n : Nat} {xs : List Nat} {g cap : Nat} (h : w.ownsRow B 26 1 (.slice (some ⟨g, 0, none⟩) n cap) n (vals xs)) : Dig w g xs := by
  intro i x hx
  have := h.cells (g := g) rfl i (.int .u64 x) (by simp [vals, hx])
  have e : (⟨g, 0, none⟩ : Addr).add i = ⟨g, i, none⟩ := by
    unfold Addr.add
    split
    · rename_i h0
      have : i = 0 := by simpa using h0
      subst this
      rfl
    · simp
  rw [e] at this
  exact this

/-- One number that is to be appended lies in a block of its own. -/
theorem news_one (w : World) (u : Value) (t : TypeId) : ∀ j v, [u][j]? = some v → (w.alloc (.cells #[u] t)).cell? ((⟨w.heap.size, 0, none⟩ : Addr).add j) = some v := by
  intro j v hj
  match j, hj with
  | 0, hj => simp at hj; subst hj; simp [Addr.add]
theorem news_oneCell (r : Nat) : ∀ u ∈ [Value.int .u64 (r : Int)], u.oneCell' = true := by
  intro u hu
  simp at hu
  subst hu
  rfl
theorem own_base {w : World} {B : Nat} {e : TypeId} {v : Value} {n : Nat} {xs : List Value} (h : w.ownsRow B e 1 v n xs) : ∀ k, v.ownBlock = some k → B ≤ k := by
  intro k hk
  rcases h.2 with ⟨rfl, _⟩ | ⟨g, cap, cur, rfl, hb, _⟩
  · simp [Value.ownBlock] at hk
  · simp [Value.ownBlock] at hk
    omega
theorem vals_snoc (ys : List Nat) (r : Nat) : vals ys ++ [Value.int .u64 (r : Int)] = vals (ys ++ [r]) := by simp [vals]

set_option maxRecDepth 100000 in
set_option maxHeartbeats 1600000 in
theorem carry_digits (g cap : Nat) (xs : List Nat) (w : World) (hd : Dig w g xs) (hlen : xs.length ≤ 100) (hx : ∀ x ∈ xs, x ≤ 18446744069414584320) :
    Calls Try.prog 43 #[.slice (some ⟨g, 0, none⟩) xs.length cap] w fun e w' => ∃ g' cap', e = .returned (.slice (some ⟨g', 0, none⟩) (xs.length + 1) cap') ∧ Dig w' g' (carryL 0 xs) ∧ Below w.heap.size w w' := by
  obtain ⟨i0, hi, hz0, hz1, hz2⟩ := info_parts info22
  generalize hB : w.heap.size = B
  go_enter Try.func43, Try.ntmps43
  go_wp2
  go_loopw [3, 4, 5] (fun v o i wr => ∃ k ov : Nat, ∃ ys : List Nat, k ≤ xs.length ∧ i = .int .i64 k ∧ o = .int .u64 ov ∧ ov ≤ 4294967295 ∧ ys.length = k ∧ wr.ownsRow B 26 1 v k (vals ys) ∧ ys ++ carryL ov (xs.drop k) = carryL 0 xs ∧ Below B w wr)
    (fun _ _ i _ => xs.length - (intOf i).toNat)
  case atStart => exact ⟨0, 0, [], Nat.zero_le _, rfl, rfl, by omega, rfl, World.ownsRow_nil _ _ _ _, rfl, Below.refl _ _⟩
  case round =>
    obtain ⟨k, ov, ys, hk, rfl, rfl, hov, hyl, hown, hys, hbel⟩ := hrel
    have HY := Lib.hid hys
    have HYL := Lib.hid hyl
    have HO := Lib.hid hown
    have HB := Lib.hid hB
    clear hys hyl hown hB
    by_cases hlt : k < xs.length
    · obtain ⟨x, hxk⟩ : ∃ x, xs[k]? = some x := ⟨xs[k], List.getElem?_eq_getElem hlt⟩
      have hmem := hx x (List.mem_of_getElem? hxk)
      have hcx : wr.cell? ⟨g, k, none⟩ = some (.int .u64 x) := by
        have hc := hd k x hxk
        rw [hbel.cell (by have := World.block_lt_of_cell? _ _ hc; have := HB.out; simp only at *; omega)]
        exact hc
      have z0 : IntKind.u64.wrap ((x : Int) + (ov : Int)) = ((x + ov : Nat) : Int) := by rw [IntWalk.u64_in _ ⟨by omega, by omega⟩]; omega
      have z1 : ((x + ov : Nat) : Int) % 4294967296 = (((x + ov) % 4294967296 : Nat) : Int) := by omega
      have z2 : IntKind.u64.wrap (((x + ov : Nat) : Int) / 4294967296) = (((x + ov) / 4294967296 : Nat) : Int) := by rw [IntWalk.u64_in _ ⟨by omega, by omega⟩]; omega
      have hq : (x + ov) / 4294967296 ≤ 4294967295 := by omega
      have hc := Lib.hid (carryL_at xs k ov x hxk)
      have hr : (x + ov) % 4294967296 < 4294967296 := by omega
      obtain ⟨r, hrr⟩ : ∃ r, (x + ov) % 4294967296 = r := ⟨_, rfl⟩
      obtain ⟨q, hqq⟩ : ∃ q, (x + ov) / 4294967296 = q := ⟨_, rfl⟩
      rw [hrr, hqq] at hc
      rw [hrr] at z1 hr
      rw [hqq] at z2 hq
      clear hrr hqq
      generalize x + ov = s at z0 z1 z2
      clear hmem hov hd hx
      have hbase := Nat.le_trans (Nat.le_of_eq HB.out.symm) hbel.size
      go_wp2_with (at_builtin; refine wpList_append_lies _ rfl (.tmp 19) (.tmp 22) 63 rfl B 26 i0 (.int .u64 0) 1 8 Try.underlying63 hi hz0 hz1 hz2 rfl (by decide) _ k (vals ys) rfl (HO.out.alloc _) ⟨wr.heap.size, 0, none⟩ 1 1 [.int .u64 r] rfl rfl (news_one _ _ _) (news_oneCell r) (by decide) (by unfold maxLen; omega) (by omega) (Nat.le_trans hbase (by simp)) _ rfl ?_; intro g1 cap1 w1 hown1 hgrow1 hat hlt1)
      have hbel1 := (hbel.alloc hbase (.cells #[.int .u64 r] 26)).grown hgrow1 (Nat.le_trans hbase (by simp)) (own_base HO.out)
      rw [vals_snoc] at hown1
      have HO1 := Lib.hid hown1
      clear hown1 hgrow1 hat
      go_wp2
      go_roundw
      case rel =>
        refine ⟨k + 1, q, ys ++ [r], by omega, by go_num, rfl, hq, by rw [List.length_append, HYL.out]; rfl, HO1.out, ?_, hbel1⟩
        rw [List.append_assoc, List.singleton_append, ← hc.out]
        exact HY.out
      case measure => simp [intOf]; omega
    · have hkk : k = xs.length := by omega
      subst hkk
      have hnil : carryL ov (xs.drop xs.length) = [ov] := by rw [List.drop_length]; rfl
      have hbase := Nat.le_trans (Nat.le_of_eq HB.out.symm) hbel.size
      have HN := Lib.hid hnil
      clear hnil hd hx
      go_wp2_with (at_builtin; refine wpList_append_lies _ rfl (.tmp 26) (.tmp 28) 63 rfl B 26 i0 (.int .u64 0) 1 8 Try.underlying63 hi hz0 hz1 hz2 rfl (by decide) _ xs.length (vals ys) rfl (HO.out.alloc _) ⟨wr.heap.size, 0, none⟩ 1 1 [.int .u64 ov] rfl rfl (news_one _ _ _) (news_oneCell ov) (by decide) (by unfold maxLen; omega) (by omega) (Nat.le_trans hbase (by simp)) _ rfl ?_; intro g1 cap1 w1 hown1 hgrow1 hat hlt1)
      have hbel1 := (hbel.alloc hbase (.cells #[.int .u64 ov] 26)).grown hgrow1 (Nat.le_trans hbase (by simp)) (own_base HO.out)
      rw [vals_snoc] at hown1
      have hdig := own_cells hown1
      have heq : ys ++ [ov] = carryL 0 xs := by rw [← HY.out, HN.out]
      rw [heq] at hdig
      clear hown1 hgrow1 hat heq
      go_wp2
      go_ret
      exact ⟨_, _, rfl, hdig, hbel1⟩

end Go.Proofs.Ytogpnfgjdnccdaa.Wide
