/- The document's own answers: digits of 16 bits times a number. -/
import Derived.Test.YtnfoegiogldidaaShaA
import Derived.Deep.AppendLies
import Derived.OwnWalk
import Derived.Lib.SmallJoins
namespace Go.Proofs.Ytnfoegiogldidaa.Sha
open Go.RowKit

/-- A slice's cells are these numbers. -/
def Dig (w : World) (g : Nat) (xs : List Nat) : Prop := ∀ i x : Nat, xs[i]? = some x → w.cell? ⟨g, i, none⟩ = some (.int .u64 x)
def vals (xs : List Nat) : List Value := xs.map fun (x : Nat) => Value.int .u64 x
theorem vals_snoc (ys : List Nat) (r : Nat) : vals ys ++ [Value.int .u64 (r : Int)] = vals (ys ++ [r]) := by simp [vals]
theorem info64 : (Try.prog.info? 70).map (fun i => (i.zero, i.size, i.bytes)) = some (some (.int .u64 0), 1, 8) := by kernel_rfl
theorem own_cells {w : World} {B : Nat} {n : Nat} {xs : List Nat} {g cap : Nat} (h : w.ownsRow B 70 1 (.slice (some ⟨g, 0, none⟩) n cap) n (vals xs)) : Dig w g xs := by
  intro i x hx
  have := h.cells (g := g) rfl i (.int .u64 x) (by simp [vals, hx])
  have e : (⟨g, 0, none⟩ : Addr).add i = ⟨g, i, none⟩ := by
    unfold Addr.add
    split
    · rename_i h0
      have : i = 0 := by simpa using h0
      subst this
      rfl
    · simp
  rw [e] at this
  exact this
theorem news_one (w : World) (u : Value) (t : TypeId) : ∀ j v, [u][j]? = some v → (w.alloc (.cells #[u] t)).cell? ((⟨w.heap.size, 0, none⟩ : Addr).add j) = some v := by
  intro j v hj
  match j, hj with
  | 0, hj => simp at hj; subst hj; simp [Addr.add]
theorem news_oneCell (r : Nat) : ∀ u ∈ [Value.int .u64 (r : Int)], u.oneCell' = true := by
  intro u hu
  simp at hu
  subst hu
  rfl
theorem own_base {w : World} {B : Nat} {e : TypeId} {v : Value} {n : Nat} {xs : List Value} (h : w.ownsRow B e 1 v n xs) : ∀ k, v.ownBlock = some k → B ≤ k := by
  intro k hk
  rcases h.2 with ⟨rfl, _⟩ | ⟨g, cap, cur, rfl, hb, _⟩
  · simp [Value.ownBlock] at hk
  · simp [Value.ownBlock] at hk
    omega

/-- What digits of 16 bits tell, the lowest first. -/
def val16 : List Nat → Nat
  | [] => 0
  | x :: xs => x + 65536 * val16 xs

theorem val16_snoc (ys : List Nat) (r : Nat) : val16 (ys ++ [r]) = val16 ys + 65536 ^ ys.length * r := by
  induction ys with
  | nil => simp [val16]
  | cons y ys ih =>
    simp only [List.cons_append, val16, ih, List.length_cons, Nat.pow_succ]
    rw [Nat.mul_add, ← Nat.mul_assoc, Nat.mul_comm 65536 (65536 ^ ys.length)]
    omega

theorem val16_drop (xs : List Nat) (k x : Nat) (h : xs[k]? = some x) : val16 (xs.drop k) = x + 65536 * val16 (xs.drop (k + 1)) := by
  obtain ⟨hk, rfl⟩ := List.getElem?_eq_some_iff.1 h
  rw [List.drop_eq_getElem_cons hk, val16]

/-- One digit more: what has been told and what is to come is the product still. -/
theorem step16 (P n V ov r q X : Nat) (h : P * (ov + n * X) = V) (hX : ov + n * X = r + 65536 * q) : P * r + P * 65536 * q = V := by
  rw [← h, hX, Nat.mul_add, Nat.mul_assoc]

set_option maxRecDepth 100000 in
set_option maxHeartbeats 3200000 in
theorem times_any (g cap n len : Nat) (xs : List Nat) (w : World) (hd : Dig w g xs) (hl : xs.length = len) (hlen : len ≤ 100) (hpos : 0 < len) (hx : ∀ x ∈ xs, x < 65536) (hn : n < 1099511627776) :
    Calls Try.prog 69 #[.slice (some ⟨g, 0, none⟩) len cap, .int .u64 n] w fun e w' => ∃ g' cap' D, e = .returned (.slice (some ⟨g', 0, none⟩) D.length cap') ∧ Dig w' g' D ∧ val16 D = val16 xs * n ∧ (∀ x ∈ D, x < 65536) ∧ D.length ≤ len + 3 ∧ 0 < D.length ∧ Below w.heap.size w w' := by
  obtain ⟨i0, hi, hz0, hz1, hz2⟩ := info_parts info64
  generalize hB : w.heap.size = B
  have HL := Lib.hid hl
  clear hl
  go_enter Try.func69, Try.ntmps69
  go_wp2
  go_loopw [5, 6, 7] (fun v o i wr => ∃ k ov : Nat, ∃ ys : List Nat, k ≤ len + 3 ∧ i = .int .i64 k ∧ o = .int .u64 ov ∧ ov < 2199023255552 ∧ (len ≤ k → ov < 65536 ^ (len + 3 - k)) ∧ ys.length = k ∧ (∀ y ∈ ys, y < 65536) ∧
      wr.ownsRow B 70 1 v k (vals ys) ∧ val16 ys + 65536 ^ k * (ov + n * val16 (xs.drop k)) = val16 xs * n ∧ Below B w wr)
    (fun _ o i _ => (len - (intOf i).toNat) * 2199023255552 + (intOf o).toNat)
  case atStart => exact ⟨0, 0, [], Nat.zero_le _, rfl, rfl, by omega, fun h => by omega, rfl, by simp, World.ownsRow_nil _ _ _ _, by simp [val16, Nat.mul_comm], Below.refl _ _⟩
  case round =>
    obtain ⟨k, ov, ys, hk, rfl, rfl, hov, hsm, hyl, hyb, hown, hval, hbel⟩ := hrel
    have HSM := Lib.hid hsm
    have HYL := Lib.hid hyl
    have HYB := Lib.hid hyb
    have HO := Lib.hid hown
    have HV := Lib.hid hval
    have HB := Lib.hid hB
    have HOV := Lib.hid hov
    have hbase := Nat.le_trans (Nat.le_of_eq hB.symm) hbel.size
    clear hsm hyl hyb hown hval hB
    by_cases hlt : k < len
    · obtain ⟨x, hxk⟩ : ∃ x, xs[k]? = some x := ⟨xs[k]'(by rw [HL.out]; exact hlt), List.getElem?_eq_getElem _⟩
      have hmem := hx x (List.mem_of_getElem? hxk)
      have hcx : wr.cell? ⟨g, k, none⟩ = some (.int .u64 x) := by
        have hc := hd k x hxk
        rw [hbel.cell (show g < B from HB.out ▸ World.block_lt_of_cell? _ _ hc)]
        exact hc
      have HD := Lib.hid (val16_drop xs k x hxk)
      have hp : x * n ≤ 65535 * 1099511627775 := Nat.mul_le_mul (by omega) (by omega)
      have zz : IntKind.u64.wrap ((x : Int) * (n : Int)) = ((x * n : Nat) : Int) := by
        rw [← Int.natCast_mul, IntWalk.u64_in _ ⟨by omega, by omega⟩]
      have HXN := Lib.hid (Nat.mul_comm n x)
      obtain ⟨p, hpp⟩ : ∃ p, x * n = p := ⟨_, rfl⟩
      rw [hpp] at hp zz
      have HP := Lib.hid hpp
      have z0 : IntKind.u64.wrap ((ov : Int) + (p : Int)) = ((ov + p : Nat) : Int) := by rw [IntWalk.u64_in _ ⟨by omega, by omega⟩]; omega
      obtain ⟨s, hs⟩ : ∃ s, ov + p = s := ⟨_, rfl⟩
      rw [hs] at z0
      have z1 : (s : Int) % 65536 = ((s % 65536 : Nat) : Int) := by omega
      have z2 : IntKind.u64.wrap ((s : Int) / 65536) = ((s / 65536 : Nat) : Int) := by rw [IntWalk.u64_in _ ⟨by omega, by omega⟩]; omega
      obtain ⟨r, hr⟩ : ∃ r, s % 65536 = r := ⟨_, rfl⟩
      obtain ⟨q, hq⟩ : ∃ q, s / 65536 = q := ⟨_, rfl⟩
      rw [hr] at z1
      rw [hq] at z2
      have HQ := Lib.hid (show q < 2199023255552 by omega)
      have HRB := Lib.hid (show r < 65536 by omega)
      have HS := Lib.hid (show ov + p = r + 65536 * q by omega)
      clear hpp hs hr hq hp hmem hd hx hxk hov
      go_wp2_with (at_builtin; refine wpList_append_lies _ rfl (.tmp 32) (.tmp 35) 81 rfl B 70 i0 (.int .u64 0) 1 8 Try.underlying81 hi hz0 hz1 hz2 rfl (by decide) _ k (vals ys) rfl (HO.out.alloc _) ⟨wr.heap.size, 0, none⟩ 1 1 [.int .u64 r] rfl rfl (news_one _ _ _) (news_oneCell r) (by decide) (by unfold maxLen; omega) (by omega) (Nat.le_trans hbase (by simp)) _ rfl ?_; intro g1 cap1 w1 hown1 hgrow1 hat hlt1)
      have hbel1 := (hbel.alloc hbase (.cells #[.int .u64 r] 70)).grown hgrow1 (Nat.le_trans hbase (by simp)) (own_base HO.out)
      rw [vals_snoc] at hown1
      have HO1 := Lib.hid hown1
      clear hown1 hgrow1 hat
      go_wp2
      go_roundw
      case rel =>
        refine ⟨k + 1, q, ys ++ [r], by omega, by go_num, rfl, HQ.out, fun h => ?_, by rw [List.length_append, HYL.out]; rfl, ?_, HO1.out, ?_, hbel1⟩
        · have hk1 : len + 3 - (k + 1) = 3 := by omega
          rw [hk1]
          have := HQ.out
          have h3 : (65536 : Nat) ^ 3 = 281474976710656 := by decide
          omega
        · intro y hy
          rcases List.mem_append.1 hy with h | h
          · exact HYB.out y h
          · simp at h
            subst h
            exact HRB.out
        · rw [val16_snoc, HYL.out, Nat.pow_succ, ← HV.out, HD.out, Nat.add_assoc]
          congr 1
          have h1 := HS.out
          have h2 := HP.out
          rw [Nat.mul_assoc (65536 ^ k), ← Nat.mul_add]
          congr 1
          rw [Nat.mul_add n, Nat.mul_comm n x, h2, ← Nat.mul_assoc n 65536, Nat.mul_comm n 65536, Nat.mul_assoc 65536 n, Nat.mul_add 65536]
          omega
      case measure =>
        have := HQ.out
        simp [intOf]
        omega
    · have hge : len ≤ k := by omega
      have hdrop : xs.drop k = [] := List.drop_eq_nil_of_le (by rw [HL.out]; exact hge)
      have hv := HV.out
      rw [hdrop, val16, Nat.mul_zero, Nat.add_zero] at hv
      by_cases h0 : ov = 0
      · subst h0
        rw [Nat.mul_zero, Nat.add_zero] at hv
        obtain ⟨g1, cap1, rfl⟩ := Go.Joins.ownsRow_form HO.out (by omega)
        have hdig := own_cells HO.out
        clear hd hx hov
        go_wp2
        go_ret
        exact ⟨g1, cap1, ys, by rw [HYL.out]; rfl, hdig, hv, HYB.out, by rw [HYL.out]; exact hk, by rw [HYL.out]; omega, hbel⟩
      · have hsm := HSM.out hge
        obtain ⟨m, hm⟩ : ∃ m, len + 3 - k = m + 1 := by
          refine ⟨len + 3 - k - 1, ?_⟩
          rcases Nat.eq_zero_or_pos (len + 3 - k) with h | h
          · rw [h, Nat.pow_zero] at hsm
            omega
          · omega
        rw [hm, Nat.pow_succ] at hsm
        have hpos2 : 0 < ov := by omega
        have z1 : (ov : Int) % 65536 = ((ov % 65536 : Nat) : Int) := by omega
        have z2 : IntKind.u64.wrap ((ov : Int) / 65536) = ((ov / 65536 : Nat) : Int) := by rw [IntWalk.u64_in _ ⟨by omega, by omega⟩]; omega
        have HSQ := Lib.hid (show ov / 65536 < 65536 ^ m by rw [Nat.div_lt_iff_lt_mul (by omega)]; exact hsm)
        have HLT := Lib.hid (show ov / 65536 < ov by omega)
        obtain ⟨r, hr⟩ : ∃ r, ov % 65536 = r := ⟨_, rfl⟩
        obtain ⟨q, hq⟩ : ∃ q, ov / 65536 = q := ⟨_, rfl⟩
        rw [hr] at z1
        rw [hq] at z2 HSQ HLT
        have HQ := Lib.hid (show q < 2199023255552 by omega)
        have HRB := Lib.hid (show r < 65536 by omega)
        have HS := Lib.hid (show ov = r + 65536 * q by omega)
        have HV2 := Lib.hid hv
        have HM := Lib.hid hm
        have hkm : k + 1 ≤ len + 3 := by omega
        clear hr hq hd hx hov hv hsm hdrop hm h0
        go_wp2_with (at_builtin; refine wpList_append_lies _ rfl (.tmp 32) (.tmp 35) 81 rfl B 70 i0 (.int .u64 0) 1 8 Try.underlying81 hi hz0 hz1 hz2 rfl (by decide) _ k (vals ys) rfl (HO.out.alloc _) ⟨wr.heap.size, 0, none⟩ 1 1 [.int .u64 r] rfl rfl (news_one _ _ _) (news_oneCell r) (by decide) (by unfold maxLen; omega) (by omega) (Nat.le_trans hbase (by simp)) _ rfl ?_; intro g1 cap1 w1 hown1 hgrow1 hat hlt1)
        have hbel1 := (hbel.alloc hbase (.cells #[.int .u64 r] 70)).grown hgrow1 (Nat.le_trans hbase (by simp)) (own_base HO.out)
        rw [vals_snoc] at hown1
        have HO1 := Lib.hid hown1
        clear hown1 hgrow1 hat
        go_wp2
        go_roundw
        case rel =>
          refine ⟨k + 1, q, ys ++ [r], hkm, by go_num, rfl, HQ.out, fun _ => ?_, by rw [List.length_append, HYL.out]; rfl, ?_, HO1.out, ?_, hbel1⟩
          · rw [show len + 3 - (k + 1) = m by have := HM.out; omega]
            exact HSQ.out
          · intro y hy
            rcases List.mem_append.1 hy with h | h
            · exact HYB.out y h
            · simp at h
              subst h
              exact HRB.out
          · have hd1 : xs.drop (k + 1) = [] := List.drop_eq_nil_of_le (by rw [HL.out]; omega)
            rw [hd1, val16, Nat.mul_zero, val16_snoc, HYL.out, Nat.pow_succ, ← HV2.out, Nat.add_assoc, Nat.mul_assoc, ← Nat.mul_add]
            simp only [Nat.add_zero]
            rw [← HS.out]
        case measure =>
          have := HLT.out
          simp [intOf]
          omega

end Go.Proofs.Ytnfoegiogldidaa.Sha
