/- disk: Read, all of a file, New, Power. -/
import Derived.Test.YtoacnhiophgfcaaDkB
namespace Go.Proofs.Ytoacnhiophgfcaa.Dk
open Go.RowKit Go.Proofs.Ytoacnhiophgfcaa.Gr

theorem errF_off (f : Int) : errF false f = 100 := rfl
theorem errF_no {f : Int} (h : f < 0 ∨ 64 ≤ f) : errF true f = 2 := by unfold errF; rw [if_pos rfl, if_pos h]
theorem errF_yes {f : Int} (h : ¬ (f < 0 ∨ 64 ≤ f)) : errF true f = 0 := by unfold errF; rw [if_pos rfl, if_neg h]

theorem errF_zero {b : Bool} {f : Int} (h : errF b f = 0) : b = true ∧ ¬ (f < 0 ∨ 64 ≤ f) := by
  cases b
  · rw [errF_off] at h; simp at h
  · by_cases hf : f < 0 ∨ 64 ≤ f
    · rw [errF_no hf] at h; simp at h
    · exact ⟨rfl, hf⟩
theorem code_serves (g : Nat) (b : Bool) (f : Int) (w : World) (hc : w.cell? ⟨g, 129, none⟩ = some (.bool b)) : Calls Try.prog 29 #[.pointer (some ⟨g, 0, none⟩), .int .i64 f] w fun e w' => e = .returned (.int .i64 (errF b f)) ∧ w = w' := by
  cases b
  · exact code_serves_off g f w hc
  · by_cases h : f < 0 ∨ 64 ≤ f
    · rw [errF_no h]
      exact code_serves_no g f w hc h
    · rw [errF_yes h]
      obtain ⟨n, rfl⟩ : ∃ n : Nat, f = n := ⟨f.toNat, by omega⟩
      exact code_serves_yes g n w hc (by omega)

/-- What Read answers. -/
def readV (S : St) (f a n : Int) : ByteArray × Int :=
  if errF S.on f ≠ 0 then (⟨#[]⟩, errF S.on f)
  else if a < 0 ∨ n < 0 ∨ ((S.now.getD f.toNat ⟨#[]⟩).size : Int) < a ∨ (S.now.getD f.toNat ⟨#[]⟩).size - a < n then (⟨#[]⟩, 5)
  else ((S.now.getD f.toNat ⟨#[]⟩).extract a.toNat (a.toNat + n.toNat), 0)

set_option maxRecDepth 100000 in
set_option maxHeartbeats 800000 in
theorem code_Read (g : Nat) (lv : Value) (S : St) (f a n : Int) (w : World) (h : DAt w g lv S) (hs : ∀ s ∈ S.now, s.size ≤ 1048576) :
    Calls Try.prog 14 #[.pointer (some ⟨g, 0, none⟩), .int .i64 f, .int .i64 a, .int .i64 n] w fun e w' => e = .returned (.tuple #[.string (readV S f a n).1, .int .i64 (readV S f a n).2]) ∧ w = w' := by
  have HS := Lib.hid (code_serves g S.on f w h.cOn)
  by_cases he : errF S.on f = 0
  · obtain ⟨hon, hf⟩ := errF_zero he
    obtain ⟨k, rfl⟩ : ∃ k : Nat, f = k := ⟨f.toNat, by omega⟩
    have hk : k < 64 := by omega
    have hc := h.cNow (h.file hk)
    have hsz := hs _ (List.mem_of_getElem? (h.file hk))
    unfold readV
    rw [if_neg (by simpa using he), Int.toNat_natCast]
    rw [he] at HS
    have hi : (k : Int) < 64 := by omega
    generalize S.now.getD k ⟨#[]⟩ = s at hc hsz ⊢
    clear h hs hf hon he hk
    by_cases ha : a < 0
    · rw [if_pos (Or.inl ha)]
      go_enter Try.func14, Try.ntmps14
      go_wp2_with fail
      refine HS.out.mono ?_
      rintro e w' ⟨rfl, rfl⟩
      go_wp2_with fail
      go_ret2
      exact ⟨rfl, rfl⟩
    obtain ⟨i, rfl⟩ : ∃ i : Nat, a = i := ⟨a.toNat, by omega⟩
    have ha : (0 : Int) ≤ (i : Int) := by omega
    by_cases hn : n < 0
    · rw [if_pos (Or.inr (Or.inl hn))]
      go_enter Try.func14, Try.ntmps14
      go_wp2_with fail
      refine HS.out.mono ?_
      rintro e w' ⟨rfl, rfl⟩
      go_wp2_with fail
      go_ret2
      exact ⟨rfl, rfl⟩
    obtain ⟨m, rfl⟩ : ∃ m : Nat, n = m := ⟨n.toNat, by omega⟩
    have hn : (0 : Int) ≤ (m : Int) := by omega
    by_cases h1 : s.size < i
    · rw [if_pos (Or.inr (Or.inr (Or.inl (by omega))))]
      go_enter Try.func14, Try.ntmps14
      go_wp2_with fail
      refine HS.out.mono ?_
      rintro e w' ⟨rfl, rfl⟩
      go_wp2_with fail
      go_ret2
      exact ⟨rfl, rfl⟩
    by_cases h2 : (s.size : Int) - i < m
    · rw [if_pos (Or.inr (Or.inr (Or.inr (by omega))))]
      go_enter Try.func14, Try.ntmps14
      go_wp2_with fail
      refine HS.out.mono ?_
      rintro e w' ⟨rfl, rfl⟩
      go_wp2_with fail
      go_ret2
      exact ⟨rfl, rfl⟩
    · rw [if_neg (by omega)]
      have h3 : (i : Int) + m ≤ s.size := by omega
      have h4 : (i : Int) ≤ 1048576 := by omega
      have h5 : (m : Int) ≤ 1048576 := by omega
      have hsl : (Instr.slice 9 (.string s) (some (.int .i64 i)) (some (.int .i64 ((i : Int) + m))) none).run Try.prog w = .ok (.string (s.extract i (i + m))) w := by
        rw [run_slice_string _ _ _ _ _ _ _ Try.underlying9 (by omega) (by omega) (by omega)]
        rw [Int.toNat_natCast, show ((i : Int) + m).toNat = i + m by omega]
      go_enter Try.func14, Try.ntmps14
      go_wp2_with fail
      refine HS.out.mono ?_
      rintro e w' ⟨rfl, rfl⟩
      go_wp2_with fail
      go_ret2
      exact ⟨rfl, rfl⟩
  · unfold readV
    rw [if_pos he]
    generalize errF S.on f = x at HS he ⊢
    have he2 : (x == 0) = false := by simpa using he
    have he3 : (x != 0) = true := by simpa using he
    clear h hs
    go_enter Try.func14, Try.ntmps14
    go_wp2_with fail
    refine HS.out.mono ?_
    rintro e w' ⟨rfl, rfl⟩
    go_wp2_with fail
    go_ret2
    exact ⟨rfl, rfl⟩
theorem code_Read_nil (f a n : Int) (w : World) : Calls Try.prog 14 #[.pointer none, .int .i64 f, .int .i64 a, .int .i64 n] w fun e w' => e = .returned (.tuple #[.string ⟨#[]⟩, .int .i64 1]) ∧ w = w' := by
  go_enter Try.func14, Try.ntmps14
  go_wp2_with fail
  refine (code_serves_nil _ _).mono ?_
  rintro e w' ⟨rfl, rfl⟩
  go_wp2_with fail
  go_ret2
  exact ⟨rfl, rfl⟩

def allS (S : St) (f : Int) : ByteArray := if errF S.on f ≠ 0 then ⟨#[]⟩ else S.now.getD f.toNat ⟨#[]⟩
theorem read_all (S : St) (f : Int) : (readV S f 0 (sizeF S f)).1 = allS S f := by
  unfold readV allS
  by_cases he : errF S.on f = 0
  · obtain ⟨_, hf⟩ := errF_zero he
    have hn : ¬ errF S.on f ≠ 0 := fun h => h he
    unfold sizeF
    rw [if_neg hn, if_neg hn, if_neg hf, if_neg (by omega)]
    simp
  · rw [if_pos he, if_pos he]

set_option maxRecDepth 100000 in
set_option maxHeartbeats 800000 in
theorem code_all (g : Nat) (lv : Value) (S : St) (f : Int) (w : World) (h : DAt w g lv S) (hs : ∀ s ∈ S.now, s.size ≤ 1048576) :
    Calls Try.prog 17 #[.pointer (some ⟨g, 0, none⟩), .int .i64 f] w fun e w' => e = .returned (.string (allS S f)) ∧ w = w' := by
  have H1 := Lib.hid (code_Size g lv S f w h)
  have H2 := Lib.hid (code_Read g lv S f 0 (sizeF S f) w h hs)
  rw [read_all] at H2
  generalize allS S f = s at H2 ⊢
  generalize sizeF S f = n at H1 H2
  generalize (readV S f 0 n).2 = x at H2
  clear h hs
  go_enter Try.func17, Try.ntmps17
  go_wp2_with fail
  refine H1.out.mono ?_
  rintro e w' ⟨rfl, rfl⟩
  go_wp2_with fail
  refine H2.out.mono ?_
  rintro e w' ⟨rfl, rfl⟩
  go_wp2_with fail
  go_ret
  exact ⟨rfl, rfl⟩

def powerS (S : St) (n : Int) : Int × St := if S.on then (if n < 0 ∨ 1099511627776 < n then (2, S) else (0, { S with lasts := n })) else (100, S)
set_option maxRecDepth 100000 in
set_option maxHeartbeats 800000 in
theorem code_Power (g : Nat) (lv : Value) (S : St) (n : Int) (w : World) (h : DAt w g lv S) :
    Calls Try.prog 19 #[.pointer (some ⟨g, 0, none⟩), .int .i64 n] w fun e w' => e = .returned (.int .i64 (powerS S n).1) ∧ Left w g lv (powerS S n).2 w' lv := by
  have HS := Lib.hid (code_hasPower g S.on w h.cOn)
  have H0 := Lib.hid (Left.refl h)
  have hfz := h.fz
  have hc2 := h.cLasts
  unfold powerS
  by_cases hb : S.on = true
  case neg =>
    rw [if_neg hb]
    simp only [Bool.not_eq_true] at hb
    rw [hb] at HS
    clear hb h hfz hc2
    go_enter Try.func19, Try.ntmps19
    go_wp2_with fail
    refine HS.out.mono ?_
    rintro e w' ⟨rfl, rfl⟩
    go_wp2_with fail
    go_ret
    exact ⟨rfl, H0.out⟩
  case pos =>
    rw [if_pos hb]
    rw [hb] at HS
    by_cases h1 : n < 0
    · rw [if_pos (Or.inl h1)]
      clear hb h hfz hc2
      go_enter Try.func19, Try.ntmps19
      go_wp2_with fail
      refine HS.out.mono ?_
      rintro e w' ⟨rfl, rfl⟩
      go_wp2_with fail
      go_ret
      exact ⟨rfl, H0.out⟩
    by_cases h2 : 1099511627776 < n
    · rw [if_pos (Or.inr h2)]
      clear hb h hfz hc2
      go_enter Try.func19, Try.ntmps19
      go_wp2_with fail
      refine HS.out.mono ?_
      rintro e w' ⟨rfl, rfl⟩
      go_wp2_with fail
      go_ret
      exact ⟨rfl, H0.out⟩
    · rw [if_neg (by omega)]
      have H1 := Lib.hid (H0.out.put_rest (T := { S with lasts := n }) 2 (v := .int .i64 n) (by simp) rfl rfl rfl)
      clear hb h
      go_enter Try.func19, Try.ntmps19
      go_wp2_with fail
      refine HS.out.mono ?_
      rintro e w' ⟨rfl, rfl⟩
      go_wp2_with fail
      go_ret
      exact ⟨rfl, H1.out⟩
theorem code_Power_nil (n : Int) (w : World) : Calls Try.prog 19 #[.pointer none, .int .i64 n] w fun e w' => e = .returned (.int .i64 1) ∧ w = w' := by
  go_enter Try.func19, Try.ntmps19
  go_wp2_with fail
  refine (code_hasPower_nil _).mono ?_
  rintro e w' ⟨rfl, rfl⟩
  go_wp2_with fail
  go_ret
  exact ⟨rfl, rfl⟩

def newS : St := ⟨List.replicate 64 ⟨#[]⟩, List.replicate 64 ⟨#[]⟩, [], true, -1, 0⟩
theorem built_new (a : Act) : Try.prog.built 58 ((#[(3, .const (.bool true)), (4, .const (.int .i64 (-1)))] : Array (Nat × Operand)).map fun (i, x) => (i, a.eval x)).toList = some (newS.vals (.slice none 0 0)).toArray := by kernel_rfl
theorem new_at (w : World) : DAt (w.alloc (.cells (newS.vals (.slice none 0 0)).toArray 58)) w.heap.size (.slice none 0 0) newS :=
  ⟨heap_alloc_new _ _, rfl, rfl, Kind.Own.nil _ _⟩
theorem wpList_build_as {P : Program} {ops : Array Oper} {rest : List Oper} {o : Oper} {a : Act} {w : World} {Q : Exit → Act → World → Prop} (hg : o.guard = none) (t : TypeId) (parts : Array (Nat × Operand)) (ho : o.op = .build t parts) (C : Array Value)
    (hf : P.built t (parts.map fun (i, x) => (i, a.eval x)).toList = some C) (h : wpList P ops Q rest (a.put o.dst (.agg C)) w) : wpList P ops Q (o :: rest) a w := by
  refine wpList_build hg t parts ho (by rw [hf]; rfl) ?_
  rw [hf]
  exact h
theorem code_New (w : World) : Calls Try.prog 8 #[] w fun e w' => e = .returned (.pointer (some ⟨w.heap.size, 0, none⟩)) ∧ DAt w' w.heap.size (.slice none 0 0) newS ∧ Below w.heap.size w w' := by
  have HA := Lib.hid (new_at w)
  have HB := Lib.hid built_new
  generalize (newS.vals (.slice none 0 0)).toArray = C at HA HB
  go_enter Try.func8, Try.ntmps8
  go_wp2_with (refine wpList_build_as rfl 58 #[(3, .const (.bool true)), (4, .const (.int .i64 (-1)))] rfl C (HB.out _) ?_)
  go_ret
  exact ⟨rfl, HA.out, (Below.refl _ _).alloc (Nat.le_refl _) _⟩
end Go.Proofs.Ytoacnhiophgfcaa.Dk
