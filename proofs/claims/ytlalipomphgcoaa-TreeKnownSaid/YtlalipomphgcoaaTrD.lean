/- The tree: the code's up, top, Root. -/
import Derived.Test.YtlalipomphgcoaaTrC
namespace Go.Proofs.Ytlalipomphgcoaa.Tree
open Go.RowKit Go.Proofs.Ytlalipomphgcoaa.Sha

/-- All rows, from this one up to the one of one hash (or none). -/
def rowsN : Nat → List (List UInt8) → List (List (List UInt8))
  | 0, M => [M]
  | f + 1, M => if M.length ≤ 1 then [M] else M :: rowsN f (upF M)
def rowsA (M : List (List UInt8)) : List (List (List UInt8)) := rowsN M.length M
theorem rowsN_fuel : ∀ (f g : Nat) (M : List (List UInt8)), M.length ≤ f → M.length ≤ g → rowsN f M = rowsN g M
  | 0, 0, _, _, _ => rfl
  | 0, g + 1, M, h, _ => by rw [rowsN, rowsN, if_pos (by omega)]
  | f + 1, 0, M, _, h => by rw [rowsN, rowsN, if_pos (by omega)]
  | f + 1, g + 1, M, h1, h2 => by
    rw [rowsN, rowsN]
    split
    · rfl
    · rw [rowsN_fuel f g (upF M) (by rw [upF_len]; omega) (by rw [upF_len]; omega)]
theorem rowsA_one (M : List (List UInt8)) (h : M.length ≤ 1) : rowsA M = [M] := by
  unfold rowsA
  cases hl : M.length with
  | zero => rfl
  | succ n => rw [rowsN, if_pos h]
theorem rowsA_step (M : List (List UInt8)) (h : 1 < M.length) : rowsA M = M :: rowsA (upF M) := by
  unfold rowsA
  obtain ⟨n, hn⟩ : ∃ n, M.length = n + 1 := ⟨M.length - 1, by omega⟩
  rw [hn, rowsN, if_neg (by omega), rowsN_fuel n (upF M).length (upF M) (by rw [upF_len]; omega) (Nat.le_refl _)]
theorem rowsA_ne (M : List (List UInt8)) : rowsA M ≠ [] := by
  by_cases h : M.length ≤ 1
  · rw [rowsA_one M h]; simp
  · rw [rowsA_step M (by omega)]; simp
/-- The row of one hash (or none). -/
def lastA (M : List (List UInt8)) : List (List UInt8) := (rowsA M).getLast (rowsA_ne M)
theorem lastA_one (M : List (List UInt8)) (h : M.length ≤ 1) : lastA M = M := by
  unfold lastA
  simp only [rowsA_one M h]
  rfl
theorem lastA_step (M : List (List UInt8)) (h : 1 < M.length) : lastA M = lastA (upF M) := by
  unfold lastA
  simp only [rowsA_step M h]
  rw [List.getLast_cons (rowsA_ne _)]
/-- The top, the root. -/
def topA (L : List (List UInt8)) : List UInt8 := if L = [] then noneF else (lastA (L.map leafF)).headD []
def rootA (L : List (List UInt8)) : List UInt8 := rootF L.length (topA L)
theorem lastA_len (n : Nat) : ∀ M : List (List UInt8), M.length ≤ n → 0 < M.length → H32 M → ∃ h, lastA M = [h] ∧ h.length = 32 := by
  induction n with
  | zero => intro M h1 h2; omega
  | succ n ih =>
    intro M h1 h2 h3
    by_cases h : M.length ≤ 1
    · match M, h2, h with
      | [x], _, h => exact ⟨x, lastA_one _ h, h3 x (by simp)⟩
    · rw [lastA_step M (by omega)]
      exact ih _ (by rw [upF_len]; omega) (by rw [upF_len]; omega) (upF_32 M h3)
theorem leaves_32 (L : List (List UInt8)) : H32 (L.map leafF) := fun h hh => by
  obtain ⟨x, _, rfl⟩ := List.mem_map.1 hh
  rfl
theorem topA_len (L : List (List UInt8)) : (topA L).length = 32 := by
  unfold topA
  split
  · rfl
  · rename_i h
    obtain ⟨x, hx, hl⟩ := lastA_len (L.map leafF).length (L.map leafF) (Nat.le_refl _) (by rw [List.length_map]; exact Nat.pos_of_ne_zero fun h0 => h (List.eq_nil_of_length_eq_zero h0)) (leaves_32 L)
    rw [hx]
    exact hl

theorem cell_of_one' {w : World} {b : Nat} {v : Value} {t : TypeId} (h : w.heap[b]? = some (.cells #[v] t (0, 0))) : w.cell? ⟨b, 0, none⟩ = some v := by
  rw [cell_of_row w b 0 _ _ _ h]
  rfl

theorem setCells_other (g : Nat) : ∀ (vs : List Value) (o : Nat) (w : World) (k : Nat), k ≠ g → (w.setCells g o vs).heap[k]? = w.heap[k]?
  | [], _, _, _, _ => rfl
  | v :: r, o, w, k, h => by
    rw [World.setCells, setCells_other g r (o + 1) _ k h]
    exact heap_setCell_other w ⟨g, o, none⟩ k v h
theorem but_setCells {g : Nat} {a : World} : ∀ {w : World} (_ : But g a w) (vs : List Value) (o : Nat), But g a (w.setCells g o vs)
  | _, h, [], _ => h
  | _, h, v :: r, o => but_setCells (h.setCell o v) r (o + 1)

set_option maxRecDepth 100000 in
set_option maxHeartbeats 3200000 in
/-- A row goes up, over itself. -/
theorem code_up (g R cap n : Nat) (L : List (List UInt8)) (w : World) (hrow : RowOf w g R L) (hn : L.length = n) (hnR : n ≤ R) (hcap : n ≤ cap) (hn1 : 1 ≤ n) (hn63 : n ≤ 1099511627776) (hc63 : cap ≤ 140737488355328) :
    Calls Try.prog 40 #[.slice (some ⟨g, 0, none⟩) n cap] w fun e w' => e = .returned (.slice (some ⟨g, 0, none⟩) (n / 2 + n % 2) (n / 2 + n % 2)) ∧ RowOf w' g R (upF L) ∧ But g w w' := by
  have hg := hrow.lt
  have HROW := Lib.hid hrow
  have HN := Lib.hid hn
  clear hrow hn
  have hmf : ∀ (fn : Fn) (first cap : Array Value) (w : World), (Instr.makeFunc fn first cap).run Try.prog w = .ok (.func fn first cap) w := fun _ _ _ _ => rfl
  go_enter Try.func40, Try.ntmps40
  go_wp2_with fail
  have hb0 : Below w.heap.size w (w.alloc (.cells #[.slice (some ⟨g, 0, none⟩) n cap] 28)) := (Below.refl _ _).alloc (Nat.le_refl _) _
  have HR0 := Lib.hid (HROW.out.kept hb0)
  have HX0 := Lib.hid (heap_alloc_new w (.cells #[.slice (some ⟨g, 0, none⟩) n cap] 28))
  have HB0 := Lib.hid (show But g w (w.alloc (.cells #[.slice (some ⟨g, 0, none⟩) n cap] 28)) from But.below hb0)
  have hs0 : w.heap.size < (w.alloc (.cells #[.slice (some ⟨g, 0, none⟩) n cap] 28)).heap.size := by simp
  clear hb0
  generalize w.alloc (.cells #[.slice (some ⟨g, 0, none⟩) n cap] 28) = W0 at HR0 HX0 HB0 hs0 ⊢
  go_loopw [4] (fun i wr => ∃ m f : Nat, i = .int .i64 f ∧ f = 2 * m ∧ f ≤ n + 1 ∧ wr.heap[w.heap.size]? = some (.cells #[.slice (some ⟨g, 0, none⟩) n cap] 28 (0, 0)) ∧ RowOf wr g R [] ∧ (∀ (j : Nat) (y : List UInt8), j < m → (upF L)[j]? = some y → wr.rangeAt g (j * 32) (valsB y)) ∧ (∀ (j : Nat) (y : List UInt8), f ≤ j → L[j]? = some y → wr.rangeAt g (j * 32) (valsB y)) ∧ But g w wr) (fun i _ => n + 2 - (intOf i).toNat)
  case atStart => exact ⟨0, 0, rfl, rfl, by omega, HX0.out, ⟨fun h hh => by simp at hh, HR0.out.row, fun i h hi => by simp at hi⟩, fun j y hj => by omega, fun j y _ hy => HR0.out.at_ j y hy, HB0.out⟩
  case round =>
    obtain ⟨m, f, rfl, hfm, hfn, hbx, hrow, hnew, hold, hbut⟩ := hrel
    have hcx := cell_of_one' hbx
    have hcr := fun d os => cell_regrown hcx d os
    have HBX := Lib.hid hbx
    have HRW := Lib.hid hrow
    have HNEW := Lib.hid hnew
    have HOLD := Lib.hid hold
    have HBUT := Lib.hid hbut
    have HFM := Lib.hid hfm
    clear hbx hrow hnew hold hbut
    by_cases hlt : f < n
    · have hq : (f : Int) / 2 = (m : Int) := by omega
      have hmf2 : m ≤ f := by omega
      have hwm : IntKind.i64.wrap (m : Int) = (m : Int) := IntWalk.i64_in _ ⟨by omega, by omega⟩
      have hq2 : (f : Int).tdiv 2 = (m : Int) := by rw [Int.tdiv_eq_ediv_of_nonneg (by omega)]; omega
      have hf0 : (0 : Int) ≤ (f : Int) := by omega
      have hfi : (f : Int) < (n : Int) := by omega
      have hm0 : (0 : Int) ≤ (m : Int) := by omega
      have hmi : (m : Int) < (n : Int) := by omega
      have hmR : m < R := by omega
      have HF2 := Lib.hid (show f % 2 = 0 by omega)
      clear hfm
      obtain ⟨a, ha⟩ : ∃ a, L[f]? = some a := ⟨L[f]'(by rw [HN.out]; exact hlt), List.getElem?_eq_getElem _⟩
      have hal := HROW.out.len a (List.mem_of_getElem? ha)
      have hra := HOLD.out f a (Nat.le_refl _) ha
      have hcall : ∃ x : List UInt8, x.length = 32 ∧ (upF L)[m]? = some x ∧ ∀ w' : World, w'.cell? ⟨w.heap.size, 0, none⟩ = some (.slice (some ⟨g, 0, none⟩) n cap) → (∀ (j : Nat) (y : List UInt8), f ≤ j → L[j]? = some y → w'.rangeAt g (j * 32) (valsB y)) →
          Calls Try.prog 67 #[.int .i64 f, .pointer (some ⟨w.heap.size, 0, none⟩)] w' fun e w'' => e = .returned (.agg (valsB x).toArray) ∧ Below w'.heap.size w' w'' := by
        by_cases hl : f + 1 < n
        · obtain ⟨b, hb⟩ : ∃ b, L[f + 1]? = some b := ⟨L[f + 1]'(by rw [HN.out]; exact hl), List.getElem?_eq_getElem _⟩
          have hbl := HROW.out.len b (List.mem_of_getElem? hb)
          refine ⟨pairF a b, rfl, upF_two L m a b (by rw [← HFM.out]; exact ha) (by rw [← HFM.out]; exact hb), fun w' hc ho => ?_⟩
          exact code_up1_two w.heap.size g n cap f a b hal hbl HF2.out hl (by omega) w' hc (ho f a (Nat.le_refl _) ha) (ho (f + 1) b (by omega) hb)
        · refine ⟨a, hal, upF_last L m a (by rw [← HFM.out]; exact ha) (by have := HFM.out; rw [HN.out]; omega), fun w' hc ho => ?_⟩
          exact code_up1_last w.heap.size g n cap f a hal HF2.out (by omega) (by omega) w' hc (ho f a (Nat.le_refl _) ha)
      obtain ⟨x, hxl, hxu, hcl⟩ := hcall
      have HCL := Lib.hid hcl
      have HXU := Lib.hid hxu
      have HRX := Lib.hid (row32 x hxl)
      obtain ⟨C, hC⟩ : ∃ C, (valsB x).toArray = C := ⟨_, rfl⟩
      rw [hC] at HCL HRX
      have HCC := Lib.hid hC
      have HC2 := Lib.hid (fun d os => HCL.out _ (cell_regrown hcx d os) (fun j y hj hy => fun i v hv => cell_regrown (HOLD.out j y hj hy i v hv) d os))
      clear ha hra hcl hxu hC
      go_wp2_with fail
      refine QT.wp_region_below_tail 7 (by kernel_rfl) (by kernel_rfl) ?_
      simp only [List.take_succ_cons, List.take_zero, List.drop_succ_cons, List.drop_zero]
      repeat (quiet_step (with_reducible exact Calls.regrown_of (HC2.out _ _)))
      refine wpQuiet_nil ?_
      intro _ hw'
      obtain ⟨⟨dq, osq⟩, hw''⟩ := hw'
      subst hw''
      have hbq := below_regrown wr dq osq
      dsimp only
      generalize Sort.grow (redrawn wr dq) osq = w3 at hbq ⊢
      have HR3 := Lib.hid (HRW.out.kept hbq)
      have HTH := Lib.hid (show w3.there g (m * 32) C.size by rw [HRX.out.size]; exact HR3.out.there m hmR)
      have HX3 := Lib.hid ((hbq.block _ (Array.getElem?_eq_some_iff.1 HBX.out).1).trans HBX.out)
      have HB3 := Lib.hid (HBUT.out.trans (But.below hbq))
      have HBQ := Lib.hid hbq
      have hcx3 := cell_of_one' HX3.out
      clear hbq hcr hcx
      go_wp2_with (refine wpList_store_mid rfl 23 (.tmp 19) (.tmp 18) rfl g (m * 32) C (by simp [Act.eval]) (by simp [Act.eval]) HTH.out HRX.out.info HRX.out.one ?_)
      have HC3 := Lib.hid (show ∀ (b o : Nat) (cs : List Value), (b ≠ g ∨ o + cs.length ≤ m * 32 ∨ m * 32 + 32 ≤ o) → wr.rangeAt b o cs → (w3.setCells g (m * 32) C.toList).rangeAt b o cs from fun b o cs hap hr => by
        refine World.rangeAt_setCells_apart (range_kept HBQ.out hr) g (m * 32) C.toList ?_
        have hcl : C.toList.length = 32 := by rw [Array.length_toList, HRX.out.size]
        rw [hcl]
        exact hap)
      go_roundw
      case rel =>
        have hfm := HFM.out
        refine ⟨m + 1, f + 2, by go_num, by omega, by omega, ?_, ⟨fun h hh => by simp at hh, ?_, fun i h hi => by simp at hi⟩, ?_, ?_, ?_⟩
        · rw [setCells_other g C.toList (m * 32) w3 w.heap.size (by omega)]
          exact HX3.out
        · obtain ⟨C0, hc0, hcs⟩ := HR3.out.row
          obtain ⟨C1, hc1, hcs1⟩ := setCells_heap g 23 (0, 0) C.toList (m * 32) w3 C0 hc0
          exact ⟨C1, hc1, by rw [hcs1, hcs]⟩
        · intro j y hj hy
          by_cases hjm : j = m
          · rw [hjm] at hy ⊢
            have hxy : x = y := Option.some.inj (HXU.out.symm.trans hy)
            subst hxy
            rw [← HCC.out]
            exact World.rangeAt_setCells_same w3 g _ (valsB x) (by rw [valsB_len, hxl]; exact HR3.out.there m hmR)
          · refine HC3.out g (j * 32) (valsB y) (Or.inr (Or.inl ?_)) (HNEW.out j y (by omega) hy)
            rw [valsB_len, upF_32 L HROW.out.len y (List.mem_of_getElem? hy)]
            omega
        · intro j y hj hy
          exact HC3.out g (j * 32) (valsB y) (Or.inr (Or.inr (by omega))) (HOLD.out j y (by omega) hy)
        · exact but_setCells HB3.out C.toList (m * 32)
      case measure => simp [intOf]; omega
    · obtain ⟨q, hq⟩ : ∃ q, n / 2 + n % 2 = q := ⟨_, rfl⟩
      have HAB := Lib.hid (fun w => code_above n (by omega) w)
      rw [hq] at HAB
      have hqc : q ≤ cap := by omega
      have hqm : q ≤ m := by omega
      have HQ := Lib.hid hq
      have hq0 : (0 : Int) ≤ (q : Int) := by omega
      have hqi : (q : Int) ≤ (cap : Int) := by omega
      have hfi : ¬ (f : Int) < (n : Int) := by omega
      clear hq hfm hcr
      go_wp2_with (go_at_call 50; refine (HAB.out _).mono ?_; rintro e w' ⟨rfl, rfl⟩)
      go_ret
      refine ⟨?_, ⟨upF_32 L HROW.out.len, HRW.out.row, fun j y hy => HNEW.out j y ?_ hy⟩, HBUT.out⟩
      · rw [HQ.out]
        rfl
      · have := (List.getElem?_eq_some_iff.1 hy).1
        rw [upF_len, HN.out, HQ.out] at this
        omega
end Go.Proofs.Ytlalipomphgcoaa.Tree
