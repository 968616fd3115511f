/- disk: what only reads: power, files, sizes, counts; the step of an operation. -/
import Derived.Test.YtoacnhiophgfcaaDkA
import Derived.WalkKit
import Derived.Lib.Hide
namespace Go.Proofs.Ytoacnhiophgfcaa.Dk
open Go.RowKit Go.Proofs.Ytoacnhiophgfcaa.Gr

theorem code_isFile_yes (f : Nat) (hf : f < 64) (w : World) : Calls Try.prog 31 #[.int .i64 f] w fun e w' => e = .returned (.bool true) ∧ w = w' := by
  have h0 : (0 : Int) ≤ (f : Int) := by omega
  have h1 : (f : Int) < 64 := by omega
  go_enter Try.func31, Try.ntmps31
  go_wp2
  go_ret
  exact ⟨rfl, rfl⟩
theorem code_isFile_no (f : Int) (h : f < 0 ∨ 64 ≤ f) (w : World) : Calls Try.prog 31 #[.int .i64 f] w fun e w' => e = .returned (.bool false) ∧ w = w' := by
  rcases h with h | h
  · have h0 : ¬ (0 : Int) ≤ f := by omega
    go_enter Try.func31, Try.ntmps31
    go_wp2
    go_ret
    exact ⟨rfl, rfl⟩
  · have h0 : (0 : Int) ≤ f := by omega
    have h1 : ¬ f < 64 := by omega
    go_enter Try.func31, Try.ntmps31
    go_wp2
    go_ret
    exact ⟨rfl, rfl⟩
theorem code_hasPower_nil (w : World) : Calls Try.prog 36 #[.pointer none] w fun e w' => e = .returned (.int .i64 1) ∧ w = w' := by
  go_enter Try.func36, Try.ntmps36
  go_wp2
  go_ret
  exact ⟨rfl, rfl⟩
theorem code_hasPower (g : Nat) (b : Bool) (w : World) (hc : w.cell? ⟨g, 129, none⟩ = some (.bool b)) : Calls Try.prog 36 #[.pointer (some ⟨g, 0, none⟩)] w fun e w' => e = .returned (.int .i64 (if b then 0 else 100)) ∧ w = w' := by
  cases b
  all_goals
    go_enter Try.func36, Try.ntmps36
    go_wp2
    go_ret
    exact ⟨rfl, rfl⟩
/-- What is wrong with a file. -/
def errF (on : Bool) (f : Int) : Int := if on then (if f < 0 ∨ 64 ≤ f then 2 else 0) else 100
theorem code_serves_nil (f : Int) (w : World) : Calls Try.prog 29 #[.pointer none, .int .i64 f] w fun e w' => e = .returned (.int .i64 1) ∧ w = w' := by
  go_enter Try.func29, Try.ntmps29
  go_wp2_with (refine (code_hasPower_nil _).mono ?_; rintro e w' ⟨rfl, rfl⟩)
  go_ret
  exact ⟨rfl, rfl⟩
theorem code_serves_off (g : Nat) (f : Int) (w : World) (hc : w.cell? ⟨g, 129, none⟩ = some (.bool false)) : Calls Try.prog 29 #[.pointer (some ⟨g, 0, none⟩), .int .i64 f] w fun e w' => e = .returned (.int .i64 100) ∧ w = w' := by
  have HC := Lib.hid hc
  clear hc
  go_enter Try.func29, Try.ntmps29
  go_wp2_with (refine (code_hasPower _ _ _ HC.out).mono ?_; rintro e w' ⟨rfl, rfl⟩)
  go_ret
  exact ⟨rfl, rfl⟩
theorem code_serves_no (g : Nat) (f : Int) (w : World) (hc : w.cell? ⟨g, 129, none⟩ = some (.bool true)) (h : f < 0 ∨ 64 ≤ f) : Calls Try.prog 29 #[.pointer (some ⟨g, 0, none⟩), .int .i64 f] w fun e w' => e = .returned (.int .i64 2) ∧ w = w' := by
  have HC := Lib.hid hc
  have HH := Lib.hid h
  clear hc h
  go_enter Try.func29, Try.ntmps29
  go_wp2_with fail
  refine (code_hasPower _ _ _ HC.out).mono ?_
  rintro e w' ⟨rfl, rfl⟩
  go_wp2_with fail
  refine (code_isFile_no _ HH.out _).mono ?_
  rintro e w' ⟨rfl, rfl⟩
  go_wp2_with fail
  go_ret
  exact ⟨rfl, rfl⟩
theorem code_serves_yes (g f : Nat) (w : World) (hc : w.cell? ⟨g, 129, none⟩ = some (.bool true)) (h : f < 64) : Calls Try.prog 29 #[.pointer (some ⟨g, 0, none⟩), .int .i64 f] w fun e w' => e = .returned (.int .i64 0) ∧ w = w' := by
  have HC := Lib.hid hc
  have HH := Lib.hid h
  clear hc h
  go_enter Try.func29, Try.ntmps29
  go_wp2_with fail
  refine (code_hasPower _ _ _ HC.out).mono ?_
  rintro e w' ⟨rfl, rfl⟩
  go_wp2_with fail
  refine (code_isFile_yes _ HH.out _).mono ?_
  rintro e w' ⟨rfl, rfl⟩
  go_wp2_with fail
  go_ret
  exact ⟨rfl, rfl⟩

theorem code_Ops (g : Nat) (lv : Value) (S : St) (w : World) (h : DAt w g lv S) : Calls Try.prog 13 #[.pointer (some ⟨g, 0, none⟩)] w fun e w' => e = .returned (.int .i64 S.ops) ∧ w = w' := by
  have hc := h.cOps
  clear h
  go_enter Try.func13, Try.ntmps13
  go_wp2
  go_ret
  exact ⟨rfl, rfl⟩
theorem code_On (g : Nat) (lv : Value) (S : St) (w : World) (h : DAt w g lv S) : Calls Try.prog 20 #[.pointer (some ⟨g, 0, none⟩)] w fun e w' => e = .returned (.bool S.on) ∧ w = w' := by
  have hc := h.cOn
  clear h
  generalize S.on = b at hc ⊢
  cases b
  all_goals
    go_enter Try.func20, Try.ntmps20
    go_wp2
    go_ret
    exact ⟨rfl, rfl⟩
theorem code_Loose (g : Nat) (lv : Value) (S : St) (w : World) (h : DAt w g lv S) : Calls Try.prog 12 #[.pointer (some ⟨g, 0, none⟩)] w fun e w' => e = .returned (.int .i64 (S.loose.length : Nat)) ∧ w = w' := by
  obtain ⟨b, n, cap, hv, hn⟩ : ∃ b n cap, lv = .slice b n cap ∧ n = S.loose.length := by
    rcases h.own.form with ⟨hv, hl⟩ | ⟨b, cap, hv, _⟩
    · exact ⟨_, _, _, hv, by rw [hl]; rfl⟩
    · exact ⟨_, _, _, hv, rfl⟩
  subst hv
  have hc := h.cLoose
  rw [← hn]
  clear h hn
  go_enter Try.func12, Try.ntmps12
  go_wp2
  go_ret
  exact ⟨rfl, rfl⟩
def sizeF (S : St) (f : Int) : Nat := if f < 0 ∨ 64 ≤ f then 0 else (S.now.getD f.toNat ⟨#[]⟩).size
theorem code_Size (g : Nat) (lv : Value) (S : St) (f : Int) (w : World) (h : DAt w g lv S) : Calls Try.prog 11 #[.pointer (some ⟨g, 0, none⟩), .int .i64 f] w fun e w' => e = .returned (.int .i64 (sizeF S f)) ∧ w = w' := by
  by_cases hf : f < 0 ∨ 64 ≤ f
  · rw [sizeF, if_pos hf]
    have HF := Lib.hid hf
    clear hf h
    go_enter Try.func11, Try.ntmps11
    go_wp2_with fail
    refine (code_isFile_no _ HF.out _).mono ?_
    rintro e w' ⟨rfl, rfl⟩
    go_wp2_with fail
    go_ret
    exact ⟨rfl, rfl⟩
  · obtain ⟨n, rfl⟩ : ∃ n : Nat, f = n := ⟨f.toNat, by omega⟩
    rw [sizeF, if_neg hf, Int.toNat_natCast]
    have hn : n < 64 := by omega
    have hc := h.cNow (h.file hn)
    generalize S.now.getD n ⟨#[]⟩ = s at hc ⊢
    have HN := Lib.hid hn
    have hi : (n : Int) < 64 := by omega
    clear h hf
    go_enter Try.func11, Try.ntmps11
    go_wp2_with fail
    refine (code_isFile_yes _ HN.out _).mono ?_
    rintro e w' ⟨rfl, rfl⟩
    go_wp2_with fail
    go_ret
    exact ⟨rfl, rfl⟩
theorem code_Size_nil (f : Int) (w : World) : Calls Try.prog 11 #[.pointer none, .int .i64 f] w fun e w' => e = .returned (.int .i64 0) ∧ w = w' := by
  go_enter Try.func11, Try.ntmps11
  go_wp2
  go_ret
  exact ⟨rfl, rfl⟩

theorem vals_set {S T : St} {lv lu : Value} {i : Nat} {v : Value} (h : (S.vals lv).set i v = T.vals lu) {w : World} {g : Nat} {t : TypeId} {fr : Nat × Nat} (hg : w.heap[g]? = some (.cells (S.vals lv).toArray t fr)) : w.setCell ⟨g, i, none⟩ v = w.setRow g (T.vals lu).toArray := by
  rw [setCell_eq_setRow w g i _ t fr v hg, ← h, List.setIfInBounds_toArray]
theorem set_rest {S : St} (lv : Value) (h1 : S.now.length = 64) (h2 : S.sure.length = 64) (j : Nat) (v : Value) : (S.vals lv).set (128 + j) v = S.now.map .string ++ (S.sure.map .string ++ [lv, .bool S.on, .int .i64 S.lasts, .int .i64 S.ops].set j v) := by
  unfold St.vals
  rw [List.set_append_right (128 + j) v (by rw [List.length_map]; omega), List.length_map, h1, List.set_append_right (128 + j - 64) v (by rw [List.length_map]; omega), List.length_map, h2, show 128 + j - 64 - 64 = j by omega]
theorem set_now {S : St} (lv : Value) (h1 : S.now.length = 64) (f : Nat) (hf : f < 64) (s : ByteArray) : (S.vals lv).set f (.string s) = ({ S with now := S.now.set f s } : St).vals lv := by
  unfold St.vals
  rw [List.set_append_left _ _ (by rw [List.length_map]; omega), List.map_set]
theorem set_sure {S : St} (lv : Value) (h1 : S.now.length = 64) (h2 : S.sure.length = 64) (f : Nat) (hf : f < 64) (s : ByteArray) : (S.vals lv).set (64 + f) (.string s) = ({ S with sure := S.sure.set f s } : St).vals lv := by
  unfold St.vals
  rw [List.set_append_right _ _ (by rw [List.length_map]; omega), List.length_map, h1, Nat.add_sub_cancel_left, List.set_append_left _ _ (by rw [List.length_map]; omega), List.map_set]

/-- One cell of a disk is written. -/
theorem DAt.put {w : World} {g : Nat} {lv : Value} {S T : St} (h : DAt w g lv S) {i : Nat} {v : Value} (hv : (S.vals lv).set i v = T.vals lv) (h1 : T.now.length = 64) (h2 : T.sure.length = 64) (hl : T.loose = S.loose) : DAt (w.setCell ⟨g, i, none⟩ v) g lv T := by
  rw [vals_set hv h.heap]
  refine ⟨setRow_heap _ _ _ _ _ _ h.heap, h1, h2, ?_⟩
  rw [hl]
  have ho := h.own
  rcases ho.2 with ⟨rfl, h0⟩ | ⟨b, cap, cur, rfl, hb, hc, h1, h2, h3, h4⟩
  · exact ⟨ho.1, Or.inl ⟨rfl, h0⟩⟩
  · exact ⟨ho.1, Or.inr ⟨b, cap, cur, rfl, hb, (setRow_other _ _ _ _ (fun e => h.ne (by rw [e]; rfl))).trans hc, h1, h2, h3, h4⟩⟩
theorem Frm.setCell {F : Nat → Prop} {a b : World} (h : Frm F a b) {p : Addr} (hg : F p.block ∨ a.heap.size ≤ p.block) (v : Value) : Frm F a (b.setCell p v) :=
  ⟨h.os, h.tape, h.output, by simp [World.setCell]; exact h.size, fun k hk hn => by
    rw [Below.heap_setCell _ _ _ _ (fun e => by subst e; rcases hg with hg | hg; exact hn hg; omega)]
    exact h.block k hk hn⟩
theorem Left.put {w w' : World} {g : Nat} {lv lv' : Value} {S T : St} (h : Left w g lv S w' lv') {i : Nat} {v : Value} (hv : (S.vals lv').set i v = T.vals lv') (h1 : T.now.length = 64) (h2 : T.sure.length = 64) (hl : T.loose = S.loose) : Left w g lv T (w'.setCell ⟨g, i, none⟩ v) lv' :=
  ⟨h.at_.put hv h1 h2 hl, h.frm.setCell (Or.inl (Or.inl rfl)) v, h.foot⟩
theorem Left.put_rest {w w' : World} {g : Nat} {lv lv' : Value} {S T : St} (h : Left w g lv S w' lv') (j : Nat) {v : Value} (hv : [lv', .bool S.on, .int .i64 S.lasts, .int .i64 S.ops].set j v = [lv', .bool T.on, .int .i64 T.lasts, .int .i64 T.ops]) (h1 : T.now = S.now) (h2 : T.sure = S.sure) (hl : T.loose = S.loose) : Left w g lv T (w'.setCell ⟨g, 128 + j, none⟩ v) lv' :=
  h.put (by rw [set_rest lv' h.at_.now h.at_.sure, hv]; unfold St.vals; rw [h1, h2]) (by rw [h1]; exact h.at_.now) (by rw [h2]; exact h.at_.sure) hl

theorem wrap_in (i : Int) (h0 : -1000000000000000 ≤ i) (h1 : i ≤ 1000000000000000) : IntKind.i64.wrap i = i := by
  unfold IntKind.wrap
  simp [IntKind.bits, IntKind.signed]
  omega

set_option maxHeartbeats 800000 in
theorem code_operation (g : Nat) (lv : Value) (S : St) (w : World) (h : DAt w g lv S) (ho : S.ops ≤ 100000000000) (hl : -1 ≤ S.lasts) (hl2 : S.lasts ≤ 1099511627776) :
    Calls Try.prog 30 #[.pointer (some ⟨g, 0, none⟩)] w fun e w' => e = .returned (.int .i64 (opS S).1) ∧ Left w g lv (opS S).2 w' lv := by
  have hc1 := h.cOps
  have hc2 := h.cLasts
  have hfz := h.fz
  have hc3 := h.cOn
  have H := Lib.hid (Left.refl h)
  have ho1 : (0 : Int) ≤ (S.ops : Int) := by omega
  have ho2 : (S.ops : Int) ≤ 100000000000 := by omega
  obtain ⟨n, hn⟩ : ∃ n : Int, (S.ops : Int) = n := ⟨_, rfl⟩
  obtain ⟨l, hln⟩ : ∃ n : Int, S.lasts = n := ⟨_, rfl⟩
  have H1 := Lib.hid (H.out.put_rest (T := { S with ops := S.ops + 1 }) 3 (v := .int .i64 ((S.ops : Int) + 1)) (by simp) rfl rfl rfl)
  rw [hn] at hc1 ho1 ho2 H1
  rw [hln] at hc2 hl hl2
  by_cases hz : l = 0
  · have hr : opS S = (100, { S with ops := S.ops + 1, on := false }) := by unfold opS; rw [hln, if_pos hz]
    rw [hr]
    subst hz
    have H2 := Lib.hid (H1.out.put_rest (T := { S with ops := S.ops + 1, on := false }) 1 (v := .bool false) (by simp) rfl rfl rfl)
    clear h hr ho hn hln H H1
    go_enter Try.func30, Try.ntmps30
    go_wp2
    go_ret
    exact ⟨rfl, H2.out⟩
  · by_cases hp : 0 < l
    · have hr : opS S = (0, { S with ops := S.ops + 1, lasts := S.lasts - 1 }) := by unfold opS; rw [hln, if_neg hz, if_pos hp]
      rw [hr]
      have H2 := Lib.hid (H1.out.put_rest (T := { S with ops := S.ops + 1, lasts := S.lasts - 1 }) 2 (v := .int .i64 (l - 1)) (by simp [hln]) rfl rfl rfl)
      clear h hr ho hn hln H H1
      go_enter Try.func30, Try.ntmps30
      go_wp2
      go_ret
      exact ⟨rfl, H2.out⟩
    · have hr : opS S = (0, { S with ops := S.ops + 1 }) := by unfold opS; rw [hln, if_neg hz, if_neg hp]
      rw [hr]
      clear h hr ho hn hln H
      go_enter Try.func30, Try.ntmps30
      go_wp2
      go_ret
      exact ⟨rfl, H1.out⟩
end Go.Proofs.Ytoacnhiophgfcaa.Dk
