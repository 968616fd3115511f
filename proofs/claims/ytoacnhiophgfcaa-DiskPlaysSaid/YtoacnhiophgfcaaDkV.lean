/- disk: the document's own calls, the short ones. -/
import Derived.Test.YtoacnhiophgfcaaDkU
import Derived.StillTailTactics
import Derived.Deep.Cut
namespace Go.Proofs.Ytoacnhiophgfcaa.Dk
open Go.RowKit Go.Proofs.Ytoacnhiophgfcaa.Gr
section
variable {B r na nc sa sc : Nat} {lv : Value} {goes : Int} {S : St}

theorem ref_file (w : World) (f : Int) (h : RAt B w r na nc sa sc lv goes S) : Calls Try.prog 51 #[.pointer (some ⟨r, 0, none⟩), .int .i64 f] w fun e w' => e = .returned (.int .i64 (errF S.on f)) ∧ w = w' := by
  have hc := h.cOff
  clear h
  generalize S.on = b at hc ⊢
  cases b
  · go_enter Try.func51, Try.ntmps51
    go_wp2_with fail
    go_ret
    exact ⟨rfl, rfl⟩
  · unfold errF
    rw [if_pos rfl]
    by_cases h1 : f < 0
    · rw [if_pos (Or.inl h1)]
      go_enter Try.func51, Try.ntmps51
      go_wp2_with fail
      go_ret
      exact ⟨rfl, rfl⟩
    · by_cases h2 : 64 ≤ f
      · rw [if_pos (Or.inr h2)]
        have h3 : 0 ≤ f := by omega
        go_enter Try.func51, Try.ntmps51
        go_wp2_with fail
        go_ret
        exact ⟨rfl, rfl⟩
      · rw [if_neg (by omega)]
        have h3 : 0 ≤ f := by omega
        have h4 : f < 64 := by omega
        go_enter Try.func51, Try.ntmps51
        go_wp2_with fail
        go_ret
        exact ⟨rfl, rfl⟩
theorem ref_Size (w : World) (f : Int) (h : RAt B w r na nc sa sc lv goes S) : Calls Try.prog 25 #[.pointer (some ⟨r, 0, none⟩), .int .i64 f] w fun e w' => e = .returned (.int .i64 (sizeF S f)) ∧ w = w' := by
  have hc := h.cNow
  unfold sizeF
  by_cases h1 : f < 0
  · rw [if_pos (Or.inl h1)]
    clear h
    go_enter Try.func25, Try.ntmps25
    go_wp2_with fail
    go_ret
    exact ⟨rfl, rfl⟩
  · obtain ⟨k, rfl⟩ : ∃ k : Nat, f = k := ⟨f.toNat, by omega⟩
    by_cases h2 : 64 ≤ k
    · rw [if_pos (Or.inr (by omega))]
      have h3 : (0 : Int) ≤ k := by omega
      have h4 : (64 : Int) ≤ k := by omega
      clear h h2
      go_enter Try.func25, Try.ntmps25
      go_wp2_with fail
      go_ret
      exact ⟨rfl, rfl⟩
    · rw [if_neg (by omega), Int.toNat_natCast]
      have h3 : (0 : Int) ≤ k := by omega
      have h4 : (k : Int) < 64 := by omega
      have hc2 := h.now.file (f := k) (by omega)
      generalize S.now.getD k ⟨#[]⟩ = t at hc2 ⊢
      clear h h2
      go_enter Try.func25, Try.ntmps25
      go_wp2_with fail
      go_ret
      exact ⟨rfl, rfl⟩
end
/-- The power goes with an operation. -/
def offS (S : St) (goes : Int) : St := { S with ops := S.ops + 1, on := !(decide ((S.ops : Int) = goes)) }
theorem off_op {S : St} {goes : Int} (h : GoesOk S goes) (hon : S.on = true) : { offS S goes with lasts := (opS S).2.lasts } = (opS S).2 ∧ (offS S goes).on = decide ((opS S).1 = 0) ∧ GoesOk (opS S).2 goes := by
  rcases h hon with ⟨h1, h2, h3⟩ | ⟨h1, h2⟩
  · have e : ¬ (S.ops : Int) = goes := by omega
    unfold opS offS
    rw [if_neg (by omega), if_neg (by omega)]
    simp only [e, decide_false, Bool.not_false]
    refine ⟨by rw [hon], by simp, fun _ => Or.inl ⟨h1, h2, by show goes < ((S.ops + 1 : Nat) : Int); omega⟩⟩
  · by_cases h0 : S.lasts = 0
    · have e : (S.ops : Int) = goes := by omega
      unfold opS offS
      rw [if_pos h0]
      simp only [e, decide_true, Bool.not_true]
      exact ⟨trivial, by simp, fun h => by cases h⟩
    · have e : ¬ (S.ops : Int) = goes := by omega
      unfold opS offS
      rw [if_neg h0, if_pos (by omega)]
      simp only [e, decide_false, Bool.not_false]
      exact ⟨by rw [hon], by simp, fun _ => Or.inr ⟨by show 0 ≤ S.lasts - 1; omega, by show goes = ((S.ops + 1 : Nat) : Int) + (S.lasts - 1); omega⟩⟩
section
variable {B r na nc sa sc : Nat} {lv : Value} {goes : Int} {S : St}
theorem RAt.ops (w : World) (h : RAt B w r na nc sa sc lv goes S) : RAt B (w.setCell ⟨r, 3, none⟩ (.int .i64 (S.ops + 1 : Nat))) r na nc sa sc lv goes { S with ops := S.ops + 1 } :=
  h.field (by simp) h.now h.sure h.loose h.ne h.bN h.bS
theorem RAt.off (w : World) (h : RAt B w r na nc sa sc lv goes S) (b : Bool) : RAt B (w.setCell ⟨r, 5, none⟩ (.bool b)) r na nc sa sc lv goes { S with on := !b } :=
  h.field (by simp) h.now h.sure h.loose h.ne h.bN h.bS
theorem RAt.goesTo (w : World) (h : RAt B w r na nc sa sc lv goes S) (n : Int) : RAt B (w.setCell ⟨r, 4, none⟩ (.int .i64 n)) r na nc sa sc lv n S :=
  h.field (by simp) h.now h.sure h.loose h.ne h.bN h.bS
theorem RAt.kSet {w0 w : World} (h : RAt B w r na nc sa sc lv goes S) (hk : Kp B RefTy w0 w) (i : Nat) (v : Value) : Kp B RefTy w0 (w.setCell ⟨r, i, none⟩ v) := hk.setCell h.heap (Or.inr ⟨h.bR, Or.inl rfl⟩) v
theorem SRow.kSet {w0 w : World} {g cap : Nat} {N : List ByteArray} (h : SRow w g cap N) (hb : B ≤ g) (hk : Kp B RefTy w0 w) (i : Nat) (v : Value) : Kp B RefTy w0 (w.setCell ⟨g, i, none⟩ v) := by
  obtain ⟨X, hX⟩ := h.heap
  exact hk.setCell hX (Or.inr ⟨hb, Or.inr (Or.inl rfl)⟩) v

set_option maxRecDepth 100000 in
theorem ref_step (w : World) (h : RAt B w r na nc sa sc lv goes S) (hn : S.ops ≤ 1000000000) (hon : S.on = true) (hg : GoesOk S goes) : Calls Try.prog 52 #[.pointer (some ⟨r, 0, none⟩)] w fun e w' => e = .returned (.bool (decide ((opS S).1 = 0))) ∧ RAt B w' r na nc sa sc lv goes (opS S).2 ∧ Kp B RefTy w w' := by
  obtain ⟨h1, h2, h3⟩ := off_op hg hon
  rw [← h1, ← h2]
  have hc3 := h.cOps
  have hf := h.fz
  have HA := Lib.hid (h.ops w)
  have HKA := Lib.hid (h.kSet (Kp.refl (a := w)) 3 (.int .i64 (S.ops + 1 : Nat)))
  obtain ⟨n, hn1⟩ : ∃ n : Int, (S.ops : Int) = n := ⟨_, rfl⟩
  have hn2 : ((S.ops + 1 : Nat) : Int) = n + 1 := by omega
  have hn0 : 0 ≤ n := by omega
  have hn3 : n ≤ 1000000000 := by omega
  rw [hn2] at HA HKA
  rw [hn1] at hc3
  unfold offS
  obtain ⟨q, hq⟩ : ∃ q, (n == goes) = q := ⟨_, rfl⟩
  rw [hn1, show decide (n = goes) = (n == goes) by rfl, hq]
  have HQ := Lib.hid hq
  clear hq
  obtain ⟨on, hon2⟩ : ∃ b, S.on = b := ⟨_, rfl⟩
  obtain ⟨la, hla⟩ : ∃ b, (opS S).2.lasts = b := ⟨_, rfl⟩
  rw [hla]
  clear h1 h2 h3 h hg hon hn
  go_enter Try.func52, Try.ntmps52
  go_upto_region 2 with (fail)
  generalize w.setCell ⟨r, 3, none⟩ (.int .i64 (n + 1)) = w1 at HA HKA ⊢
  clear hc3 hf
  refine wp_region_still_tail 11 (by kernel_rfl) (by kernel_rfl) ?_
  simp only [List.take_succ_cons, List.take_zero, List.drop_succ_cons, List.drop_zero]
  have ha : RAt B w1.drew r na nc sa sc lv goes { S with ops := S.ops + 1 } := HA.out.below (Below.refl _ _).drew
  have HKA2 := Lib.hid (HKA.out.drew)
  show wpStill _ _ w1.drew (fun a' => wpList _ _ _ _ a' w1.drew) _ _
  generalize w1.drew = w2 at ha HKA2 ⊢
  have hc3 := ha.cOps
  have hc4 := ha.cGoes
  have hc5 := ha.cOff
  have hf := ha.fz
  simp only [hn2, hon2] at hc3 hc5
  have HB := Lib.hid ((ha.off _ q).lasts la)
  have HKB := Lib.hid (ha.kSet HKA2.out 5 (.bool q))
  have he : (n + 1 - 1 : Int) = n := by omega
  have hw : IntKind.i64.wrap n = n := wrap_in _ (by omega) (by omega)
  clear ha HA HKA HKA2
  repeat still_step
  refine wpStill_nil ?_
  go_upto_region 3 with (fail)
  rw [HQ.out]
  generalize w2.setCell ⟨r, 5, none⟩ (.bool q) = w3 at HB HKB ⊢
  clear hc3 hc4 hc5 hf
  have hc5 := HB.out.cOff
  simp only [Bool.not_not] at hc5
  go_wp2_with fail
  go_ret
  exact ⟨rfl, HB.out, HKB.out⟩

theorem ref_Power (w : World) (h : RAt B w r na nc sa sc lv goes S) (hg : GoesOk S goes) (hn : S.ops ≤ 1000000000) (m : Int) : Calls Try.prog 42 #[.pointer (some ⟨r, 0, none⟩), .int .i64 m] w (RPost B w r (.int .i64 (powerS S m).1) (powerS S m).2) := by
  have hc := h.cOff
  have hc3 := h.cOps
  have hf := h.fz
  have HR := Lib.hid h
  have HG := Lib.hid hg
  unfold powerS RPost
  by_cases hon : S.on = true
  · rw [if_pos hon]
    rw [hon] at hc
    by_cases h1 : m < 0
    · rw [if_pos (Or.inl h1)]
      clear h hg
      go_enter Try.func42, Try.ntmps42
      go_wp2_with fail
      go_ret
      exact ⟨rfl, Kp.refl, _, _, _, _, _, _, HR.out, HG.out⟩
    · have h1' : 0 ≤ m := by omega
      by_cases h2 : 1099511627776 < m
      · rw [if_pos (Or.inr h2)]
        clear h hg
        go_enter Try.func42, Try.ntmps42
        go_wp2_with fail
        go_ret
        exact ⟨rfl, Kp.refl, _, _, _, _, _, _, HR.out, HG.out⟩
      · rw [if_neg (by omega)]
        have h2' : m ≤ 1099511627776 := by omega
        obtain ⟨n, hn1⟩ : ∃ n : Int, (S.ops : Int) = n := ⟨_, rfl⟩
        have hn0 : 0 ≤ n := by omega
        have hn3 : n ≤ 1000000000 := by omega
        rw [hn1] at hc3
        have hc4 := h.cGoes
        have HT := Lib.hid ((h.goesTo w (n + m)).lasts m)
        have HK := Lib.hid (h.kSet (Kp.refl (a := w)) 4 (.int .i64 (n + m)))
        have HO := Lib.hid (show GoesOk { S with lasts := m } (n + m) from fun _ => Or.inr ⟨h1', by show n + m = S.ops + m; omega⟩)
        clear h hg hn hn1 hon
        go_enter Try.func42, Try.ntmps42
        go_wp2_with fail
        go_ret
        exact ⟨rfl, HK.out, _, _, _, _, _, _, HT.out, HO.out⟩
  · rw [if_neg hon]
    rw [show S.on = false by simpa using hon] at hc
    clear h hg
    go_enter Try.func42, Try.ntmps42
    go_wp2_with fail
    go_ret
    exact ⟨rfl, Kp.refl, _, _, _, _, _, _, HR.out, HG.out⟩

set_option maxRecDepth 100000 in
set_option maxHeartbeats 1600000 in
theorem ref_Read (w : World) (h : RAt B w r na nc sa sc lv goes S) (f a n : Int) (hz : ∀ s ∈ S.now, s.size ≤ 1048576) : Calls Try.prog 41 #[.pointer (some ⟨r, 0, none⟩), .int .i64 f, .int .i64 a, .int .i64 n] w fun e w' => e = .returned (.tuple #[.string (readV S f a n).1, .int .i64 (readV S f a n).2]) ∧ w = w' := by
  have HF := Lib.hid (ref_file w f h)
  have hc := h.cNow
  unfold readV
  by_cases he : errF S.on f = 0
  · obtain ⟨hon, hf⟩ := errF_zero he
    obtain ⟨k, rfl⟩ : ∃ k : Nat, f = k := ⟨f.toNat, by omega⟩
    have hk : k < 64 := by omega
    have hc2 := h.now.file hk
    have hsz := getD_size hz k
    rw [if_neg (fun x => x he), Int.toNat_natCast]
    rw [he] at HF
    generalize S.now.getD k ⟨#[]⟩ = t at hc2 hsz ⊢
    have hi : (k : Int) < 64 := by omega
    have hi0 : (0 : Int) ≤ k := by omega
    clear h hz hf hon he hk
    by_cases ha : a < 0
    · rw [if_pos (Or.inl ha)]
      go_enter Try.func41, Try.ntmps41
      go_wp2_with fail
      refine HF.out.mono ?_
      rintro e w' ⟨rfl, rfl⟩
      go_wp2_with fail
      go_ret2
      exact ⟨rfl, rfl⟩
    obtain ⟨i, rfl⟩ : ∃ i : Nat, a = i := ⟨a.toNat, by omega⟩
    have ha : (0 : Int) ≤ (i : Int) := by omega
    by_cases hn : n < 0
    · rw [if_pos (Or.inr (Or.inl hn))]
      go_enter Try.func41, Try.ntmps41
      go_wp2_with fail
      refine HF.out.mono ?_
      rintro e w' ⟨rfl, rfl⟩
      go_wp2_with fail
      go_ret2
      exact ⟨rfl, rfl⟩
    obtain ⟨j, rfl⟩ : ∃ i : Nat, n = i := ⟨n.toNat, by omega⟩
    have hn : (0 : Int) ≤ (j : Int) := by omega
    by_cases h1 : (t.size : Int) < (i : Int)
    · rw [if_pos (Or.inr (Or.inr (Or.inl h1)))]
      go_enter Try.func41, Try.ntmps41
      go_wp2_with fail
      refine HF.out.mono ?_
      rintro e w' ⟨rfl, rfl⟩
      go_wp2_with fail
      go_ret2
      exact ⟨rfl, rfl⟩
    have h1 : (i : Int) ≤ (t.size : Int) := by omega
    by_cases h2 : (t.size : Int) - (i : Int) < (j : Int)
    · rw [if_pos (by omega)]
      go_enter Try.func41, Try.ntmps41
      go_wp2_with fail
      refine HF.out.mono ?_
      rintro e w' ⟨rfl, rfl⟩
      go_wp2_with fail
      go_ret2
      exact ⟨rfl, rfl⟩
    rw [if_neg (by omega)]
    have h2 : (j : Int) ≤ (t.size : Int) - (i : Int) := by omega
    have h3 : ((i : Int) + (j : Int)) ≤ (t.size : Int) := by omega
    have h4 : (i : Int) ≤ (i : Int) + (j : Int) := by omega
    have h5 : ((i : Int) + (j : Int)).toNat = i + j := by omega
    simp only [Int.toNat_natCast]
    go_enter Try.func41, Try.ntmps41
    go_wp2_with fail
    refine HF.out.mono ?_
    rintro e w' ⟨rfl, rfl⟩
    go_wp2_with fail
    go_ret2
    exact ⟨rfl, rfl⟩
  · rw [if_pos he]
    generalize errF S.on f = x at HF he ⊢
    have he2 : (x == 0) = false := by simpa using he
    have he3 : (x != 0) = true := by simpa using he
    clear h
    go_enter Try.func41, Try.ntmps41
    go_wp2_with fail
    refine HF.out.mono ?_
    rintro e w' ⟨rfl, rfl⟩
    go_wp2_with fail
    go_ret2
    exact ⟨rfl, rfl⟩
end
end Go.Proofs.Ytoacnhiophgfcaa.Dk
