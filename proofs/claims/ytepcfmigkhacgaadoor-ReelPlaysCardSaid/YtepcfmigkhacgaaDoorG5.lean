/- disk: what a disk is in plain words; how it lies in memory. -/
import Derived.Test.YtepcfmigkhacgaaDoorProg
import Derived.Test.YtepcfmigkhacgaaDoorGr
import Derived.Laws.CopyOwn
import Derived.Lib.SmallJoins
import Derived.Laws.Tables
import Derived.Laws.Rows
import Derived.WalkKit
import Derived.Lib.Hide
import Derived.StillTailTactics
import Derived.Deep.Cut
namespace Go.Proofs.YtepcfmigkhacgaaDoor.Dk
open Go.RowKit Go.Proofs.YtepcfmigkhacgaaDoor.Gr

/-- A change: bytes put at a place, or a cut to it. -/
structure Ch where
  file : Nat
  at_ : Nat
  cut : Bool
  s : ByteArray
/-- A disk. -/
structure St where
  now : List ByteArray
  sure : List ByteArray
  loose : List Ch
  on : Bool
  lasts : Int
  ops : Nat

def opS (S : St) : Int × St :=
  if S.lasts = 0 then (100, { S with ops := S.ops + 1, on := false })
  else if 0 < S.lasts then (0, { S with ops := S.ops + 1, lasts := S.lasts - 1 })
  else (0, { S with ops := S.ops + 1 })

/-- How many bytes a file has. -/
def sizeS (S : St) (f : Nat) : Nat := (S.now.getD f ⟨#[]⟩).size

def St.vals (S : St) (lv : Value) : List Value := S.now.map .string ++ (S.sure.map .string ++ [lv, .bool S.on, .int .i64 S.lasts, .int .i64 S.ops])

/-- A change among others. -/
def KC : Kind Tryd.prog Ch where
  T := 84
  size := 4
  bytes := 40
  zero := .agg #[.int .i64 0, .int .i64 0, .bool false, .string ⟨#[]⟩]
  enc c := [.int .i64 c.file, .int .i64 c.at_, .bool c.cut, .string c.s]
  info := by kernel_rfl
  zsize := rfl
  pos := by decide
  len _ := rfl
  one x u hu := by simp at hu; rcases hu with rfl | rfl | rfl | rfl <;> rfl

/-- A disk in block g, whose row of loose changes is lv. -/
structure DAt (w : World) (g : Nat) (lv : Value) (S : St) : Prop where
  heap : w.heap[g]? = some (.cells (S.vals lv).toArray 67 (0, 0))
  now : S.now.length = 64
  sure : S.sure.length = 64
  own : KC.Own 0 lv S.loose w

theorem disk_info : (Tryd.prog.info? 67).map (·.size) = some 132 := by kernel_rfl
theorem vals_len {S : St} {lv : Value} (h1 : S.now.length = 64) (h2 : S.sure.length = 64) : (S.vals lv).length = 132 := by
  simp [St.vals, h1, h2]
theorem cell_row {w : World} {g : Nat} {L : List Value} {t : TypeId} {fr : Nat × Nat} (h : w.heap[g]? = some (.cells L.toArray t fr)) {i : Nat} {v : Value} (hv : L[i]? = some v) : w.cell? ⟨g, i, none⟩ = some v := by
  rw [Lib.cell_of_heap h, List.getElem?_toArray]
  exact hv
theorem vals_now (S : St) (lv : Value) {f : Nat} {s : ByteArray} (h : S.now[f]? = some s) : (S.vals lv)[f]? = some (.string s) := by
  unfold St.vals
  rw [List.getElem?_append_left (by rw [List.length_map]; exact (List.getElem?_eq_some_iff.1 h).1), List.getElem?_map, h]
  rfl
theorem vals_sure (S : St) (lv : Value) (h1 : S.now.length = 64) {f : Nat} {s : ByteArray} (h : S.sure[f]? = some s) : (S.vals lv)[64 + f]? = some (.string s) := by
  unfold St.vals
  rw [List.getElem?_append_right (by rw [List.length_map]; omega), List.length_map, h1, Nat.add_sub_cancel_left, List.getElem?_append_left (by rw [List.length_map]; exact (List.getElem?_eq_some_iff.1 h).1), List.getElem?_map, h]
  rfl
theorem vals_rest (S : St) (lv : Value) (h1 : S.now.length = 64) (h2 : S.sure.length = 64) (j : Nat) : (S.vals lv)[128 + j]? = [lv, .bool S.on, .int .i64 S.lasts, .int .i64 S.ops][j]? := by
  unfold St.vals
  rw [List.getElem?_append_right (by rw [List.length_map]; omega), List.length_map, h1, List.getElem?_append_right (by rw [List.length_map]; omega), List.length_map, h2, show 128 + j - 64 - 64 = j by omega]

section
variable {w : World} {g : Nat} {lv : Value} {S : St}
theorem DAt.cNow (h : DAt w g lv S) {f : Nat} {s : ByteArray} (hf : S.now[f]? = some s) : w.cell? ⟨g, f, none⟩ = some (.string s) := cell_row h.heap (vals_now S lv hf)
theorem DAt.cSure (h : DAt w g lv S) {f : Nat} {s : ByteArray} (hf : S.sure[f]? = some s) : w.cell? ⟨g, 64 + f, none⟩ = some (.string s) := cell_row h.heap (vals_sure S lv h.now hf)
theorem DAt.cLoose (h : DAt w g lv S) : w.cell? ⟨g, 128, none⟩ = some lv := cell_row h.heap (vals_rest S lv h.now h.sure 0)
theorem DAt.cOn (h : DAt w g lv S) : w.cell? ⟨g, 129, none⟩ = some (.bool S.on) := cell_row h.heap (vals_rest S lv h.now h.sure 1)
theorem DAt.cLasts (h : DAt w g lv S) : w.cell? ⟨g, 130, none⟩ = some (.int .i64 S.lasts) := cell_row h.heap (vals_rest S lv h.now h.sure 2)
theorem DAt.cOps (h : DAt w g lv S) : w.cell? ⟨g, 131, none⟩ = some (.int .i64 S.ops) := cell_row h.heap (vals_rest S lv h.now h.sure 3)
theorem DAt.lt (h : DAt w g lv S) : g < w.heap.size := (Array.getElem?_eq_some_iff.1 h.heap).1
theorem DAt.fz (h : DAt w g lv S) (i : Nat) : w.frozen? ⟨g, i, none⟩ = false := by simp [World.frozen?, h.heap]
theorem DAt.file (h : DAt w g lv S) {f : Nat} (hf : f < 64) : S.now[f]? = some (S.now.getD f ⟨#[]⟩) := by
  rw [List.getD_eq_getElem?_getD, List.getElem?_eq_getElem (by rw [h.now]; exact hf)]
  rfl
theorem DAt.fileS (h : DAt w g lv S) {f : Nat} (hf : f < 64) : S.sure[f]? = some (S.sure.getD f ⟨#[]⟩) := by
  rw [List.getD_eq_getElem?_getD, List.getElem?_eq_getElem (by rw [h.sure]; exact hf)]
  rfl
end

theorem own_type {α : Type} {P : Program} {K : Kind P α} {B : Nat} {w : World} {v : Value} {L : List α} (h : K.Own B v L w) (k : Nat) (hk : v.ownBlock = some k) : ∃ cs, w.heap[k]? = some (.cells cs K.T (0, 0)) := by
  rcases h.2 with ⟨rfl, _⟩ | ⟨g, cap, cur, rfl, _, hg, _, _, _, _⟩
  · simp [Value.ownBlock] at hk
  · simp [Value.ownBlock] at hk
    subst hk
    exact ⟨cur, hg⟩
theorem DAt.ne {w : World} {g : Nat} {lv : Value} {S : St} (h : DAt w g lv S) : lv.ownBlock ≠ some g := fun e => by
  obtain ⟨cs, hc⟩ := own_type h.own g e
  rw [h.heap] at hc
  simp at hc
  exact absurd hc.2 (by decide)

/-- What is there of old, but for some blocks, is as it was. -/
structure Frm (F : Nat → Prop) (w w' : World) : Prop where
  os : w'.os = w.os
  tape : w'.tape = w.tape
  output : w'.output = w.output
  size : w.heap.size ≤ w'.heap.size
  block : ∀ k, k < w.heap.size → ¬ F k → w'.heap[k]? = w.heap[k]?
theorem Frm.refl (F : Nat → Prop) (w : World) : Frm F w w := ⟨rfl, rfl, rfl, Nat.le_refl _, fun _ _ _ => rfl⟩
theorem Frm.trans {F G : Nat → Prop} {a b c : World} (h : Frm F a b) (k : Frm G b c) (hG : ∀ i, G i → F i ∨ a.heap.size ≤ i) : Frm F a c :=
  ⟨k.os.trans h.os, k.tape.trans h.tape, k.output.trans h.output, Nat.le_trans h.size k.size, fun i hi hn => (k.block i (Nat.lt_of_lt_of_le hi h.size) (fun hg => by
    rcases hG i hg with hf | hf
    · exact hn hf
    · omega)).trans (h.block i hi hn)⟩
theorem Frm.mono {F G : Nat → Prop} {a b : World} (h : Frm F a b) (hG : ∀ i, F i → G i) : Frm G a b :=
  ⟨h.os, h.tape, h.output, h.size, fun k hk hn => h.block k hk (fun hf => hn (hG k hf))⟩
theorem Frm.of_below {F : Nat → Prop} {a b : World} (h : Below a.heap.size a b) : Frm F a b := ⟨h.os, h.tape, h.output, h.size, fun k hk _ => h.block k hk⟩
theorem Frm.below {F : Nat → Prop} {a b : World} {B : Nat} (h : Frm F a b) (hB : B ≤ a.heap.size) (hF : ∀ k, F k → B ≤ k) : Below B a b :=
  ⟨h.os, h.tape, h.output, h.size, fun k hk => h.block k (by omega) (fun hf => by have := hF k hf; omega)⟩
theorem Frm.setRow {F : Nat → Prop} {a b : World} (h : Frm F a b) {g : Nat} (hg : F g ∨ a.heap.size ≤ g) (cs : Array Value) : Frm F a (b.setRow g cs) :=
  ⟨h.os, h.tape, h.output, by rw [setRow_size]; exact h.size, fun k hk hn => by
    rw [setRow_other _ _ _ _ (fun e => by subst e; rcases hg with hg | hg; exact hn hg; omega)]
    exact h.block k hk hn⟩
theorem Frm.grown {F : Nat → Prop} {a b c : World} {row : Option Nat} (h : Frm F a b) (hg : b.grownBy c row) (hr : ∀ k, row = some k → F k ∨ a.heap.size ≤ k) : Frm F a c :=
  ⟨hg.os.trans h.os, hg.tape.trans h.tape, hg.output.trans h.output, Nat.le_trans h.size hg.size, fun k hk hn => by
    rw [hg.block k (Nat.lt_of_lt_of_le hk h.size) (fun e => by rcases hr k e.symm with h | h; exact hn h; omega)]
    exact h.block k hk hn⟩
theorem Frm.drew {F : Nat → Prop} {a w : World} (h : Frm F a w) : Frm F a w.drew := ⟨h.os, h.tape, h.output, h.size, h.block⟩

/-- The blocks of a disk. -/
def foot (g : Nat) (lv : Value) (k : Nat) : Prop := k = g ∨ lv.ownBlock = some k
/-- What a call leaves of a disk, and of all else. -/
structure Left (w : World) (g : Nat) (lv : Value) (S : St) (w' : World) (lv' : Value) : Prop where
  at_ : DAt w' g lv' S
  frm : Frm (foot g lv) w w'
  foot : ∀ k, lv'.ownBlock = some k → lv.ownBlock = some k ∨ w.heap.size ≤ k
theorem Left.refl {w : World} {g : Nat} {lv : Value} {S : St} (h : DAt w g lv S) : Left w g lv S w lv := ⟨h, Frm.refl _ _, fun _ h => Or.inl h⟩
theorem Left.trans {w w1 w2 : World} {g : Nat} {lv lv1 lv2 : Value} {S T : St} (h : Left w g lv S w1 lv1) (k : Left w1 g lv1 T w2 lv2) : Left w g lv T w2 lv2 :=
  ⟨k.at_, h.frm.trans k.frm (fun i hi => by
    rcases hi with hi | hi
    · exact Or.inl (Or.inl hi)
    · rcases h.foot i hi with h1 | h1
      · exact Or.inl (Or.inr h1)
      · exact Or.inr h1), fun i hi => by
    rcases k.foot i hi with h1 | h1
    · exact h.foot i h1
    · exact Or.inr (Nat.le_trans h.frm.size h1)⟩
/-- A disk stays what it is where nothing of its own is touched. -/
theorem DAt.kept {F : Nat → Prop} {w w' : World} {g : Nat} {lv : Value} {S : St} (h : DAt w g lv S) (hf : Frm F w w') (hg : ¬ F g) (hl : ∀ k, lv.ownBlock = some k → ¬ F k) : DAt w' g lv S :=
  ⟨(hf.block g h.lt hg).trans h.heap, h.now, h.sure, by
    have ho := h.own
    rcases ho.2 with ⟨rfl, h0⟩ | ⟨b, cap, cur, rfl, hb, hc, h1, h2, h3, h4⟩
    · exact ⟨ho.1, Or.inl ⟨rfl, h0⟩⟩
    · exact ⟨ho.1, Or.inr ⟨b, cap, cur, rfl, hb, (hf.block b (Array.getElem?_eq_some_iff.1 hc).1 (hl b rfl)).trans hc, h1, h2, h3, h4⟩⟩⟩
end Go.Proofs.YtepcfmigkhacgaaDoor.Dk

namespace Go.Proofs.YtepcfmigkhacgaaDoor.Dk
open Go.RowKit Go.Proofs.YtepcfmigkhacgaaDoor.Gr

theorem code_isFile_yes (f : Nat) (hf : f < 64) (w : World) : Calls Tryd.prog 70 #[.int .i64 f] w fun e w' => e = .returned (.bool true) ∧ w = w' := by
  have h0 : (0 : Int) ≤ (f : Int) := by omega
  have h1 : (f : Int) < 64 := by omega
  go_enter Tryd.func70, Tryd.ntmps70
  go_wp2
  go_ret
  exact ⟨rfl, rfl⟩
theorem code_isFile_no (f : Int) (h : f < 0 ∨ 64 ≤ f) (w : World) : Calls Tryd.prog 70 #[.int .i64 f] w fun e w' => e = .returned (.bool false) ∧ w = w' := by
  rcases h with h | h
  · have h0 : ¬ (0 : Int) ≤ f := by omega
    go_enter Tryd.func70, Tryd.ntmps70
    go_wp2
    go_ret
    exact ⟨rfl, rfl⟩
  · have h0 : (0 : Int) ≤ f := by omega
    have h1 : ¬ f < 64 := by omega
    go_enter Tryd.func70, Tryd.ntmps70
    go_wp2
    go_ret
    exact ⟨rfl, rfl⟩
theorem code_hasPower_nil (w : World) : Calls Tryd.prog 56 #[.pointer none] w fun e w' => e = .returned (.int .i64 1) ∧ w = w' := by
  go_enter Tryd.func56, Tryd.ntmps56
  go_wp2
  go_ret
  exact ⟨rfl, rfl⟩
theorem code_hasPower (g : Nat) (b : Bool) (w : World) (hc : w.cell? ⟨g, 129, none⟩ = some (.bool b)) : Calls Tryd.prog 56 #[.pointer (some ⟨g, 0, none⟩)] w fun e w' => e = .returned (.int .i64 (if b then 0 else 100)) ∧ w = w' := by
  cases b
  all_goals
    go_enter Tryd.func56, Tryd.ntmps56
    go_wp2
    go_ret
    exact ⟨rfl, rfl⟩
/-- What is wrong with a file. -/
def errF (on : Bool) (f : Int) : Int := if on then (if f < 0 ∨ 64 ≤ f then 2 else 0) else 100
theorem code_serves_nil (f : Int) (w : World) : Calls Tryd.prog 57 #[.pointer none, .int .i64 f] w fun e w' => e = .returned (.int .i64 1) ∧ w = w' := by
  go_enter Tryd.func57, Tryd.ntmps57
  go_wp2_with (refine (code_hasPower_nil _).mono ?_; rintro e w' ⟨rfl, rfl⟩)
  go_ret
  exact ⟨rfl, rfl⟩
theorem code_serves_off (g : Nat) (f : Int) (w : World) (hc : w.cell? ⟨g, 129, none⟩ = some (.bool false)) : Calls Tryd.prog 57 #[.pointer (some ⟨g, 0, none⟩), .int .i64 f] w fun e w' => e = .returned (.int .i64 100) ∧ w = w' := by
  have HC := Lib.hid hc
  clear hc
  go_enter Tryd.func57, Tryd.ntmps57
  go_wp2_with (refine (code_hasPower _ _ _ HC.out).mono ?_; rintro e w' ⟨rfl, rfl⟩)
  go_ret
  exact ⟨rfl, rfl⟩
theorem code_serves_no (g : Nat) (f : Int) (w : World) (hc : w.cell? ⟨g, 129, none⟩ = some (.bool true)) (h : f < 0 ∨ 64 ≤ f) : Calls Tryd.prog 57 #[.pointer (some ⟨g, 0, none⟩), .int .i64 f] w fun e w' => e = .returned (.int .i64 2) ∧ w = w' := by
  have HC := Lib.hid hc
  have HH := Lib.hid h
  clear hc h
  go_enter Tryd.func57, Tryd.ntmps57
  go_wp2_with fail
  refine (code_hasPower _ _ _ HC.out).mono ?_
  rintro e w' ⟨rfl, rfl⟩
  go_wp2_with fail
  refine (code_isFile_no _ HH.out _).mono ?_
  rintro e w' ⟨rfl, rfl⟩
  go_wp2_with fail
  go_ret
  exact ⟨rfl, rfl⟩
theorem code_serves_yes (g f : Nat) (w : World) (hc : w.cell? ⟨g, 129, none⟩ = some (.bool true)) (h : f < 64) : Calls Tryd.prog 57 #[.pointer (some ⟨g, 0, none⟩), .int .i64 f] w fun e w' => e = .returned (.int .i64 0) ∧ w = w' := by
  have HC := Lib.hid hc
  have HH := Lib.hid h
  clear hc h
  go_enter Tryd.func57, Tryd.ntmps57
  go_wp2_with fail
  refine (code_hasPower _ _ _ HC.out).mono ?_
  rintro e w' ⟨rfl, rfl⟩
  go_wp2_with fail
  refine (code_isFile_yes _ HH.out _).mono ?_
  rintro e w' ⟨rfl, rfl⟩
  go_wp2_with fail
  go_ret
  exact ⟨rfl, rfl⟩

theorem code_Ops (g : Nat) (lv : Value) (S : St) (w : World) (h : DAt w g lv S) : Calls Tryd.prog 17 #[.pointer (some ⟨g, 0, none⟩)] w fun e w' => e = .returned (.int .i64 S.ops) ∧ w = w' := by
  have hc := h.cOps
  clear h
  go_enter Tryd.func17, Tryd.ntmps17
  go_wp2
  go_ret
  exact ⟨rfl, rfl⟩
theorem code_On (g : Nat) (lv : Value) (S : St) (w : World) (h : DAt w g lv S) : Calls Tryd.prog 34 #[.pointer (some ⟨g, 0, none⟩)] w fun e w' => e = .returned (.bool S.on) ∧ w = w' := by
  have hc := h.cOn
  clear h
  generalize S.on = b at hc ⊢
  cases b
  all_goals
    go_enter Tryd.func34, Tryd.ntmps34
    go_wp2
    go_ret
    exact ⟨rfl, rfl⟩
theorem code_Loose (g : Nat) (lv : Value) (S : St) (w : World) (h : DAt w g lv S) : Calls Tryd.prog 29 #[.pointer (some ⟨g, 0, none⟩)] w fun e w' => e = .returned (.int .i64 (S.loose.length : Nat)) ∧ w = w' := by
  obtain ⟨b, n, cap, hv, hn⟩ : ∃ b n cap, lv = .slice b n cap ∧ n = S.loose.length := by
    rcases h.own.form with ⟨hv, hl⟩ | ⟨b, cap, hv, _⟩
    · exact ⟨_, _, _, hv, by rw [hl]; rfl⟩
    · exact ⟨_, _, _, hv, rfl⟩
  subst hv
  have hc := h.cLoose
  rw [← hn]
  clear h hn
  go_enter Tryd.func29, Tryd.ntmps29
  go_wp2
  go_ret
  exact ⟨rfl, rfl⟩
def sizeF (S : St) (f : Int) : Nat := if f < 0 ∨ 64 ≤ f then 0 else (S.now.getD f.toNat ⟨#[]⟩).size
theorem code_Size (g : Nat) (lv : Value) (S : St) (f : Int) (w : World) (h : DAt w g lv S) : Calls Tryd.prog 38 #[.pointer (some ⟨g, 0, none⟩), .int .i64 f] w fun e w' => e = .returned (.int .i64 (sizeF S f)) ∧ w = w' := by
  by_cases hf : f < 0 ∨ 64 ≤ f
  · rw [sizeF, if_pos hf]
    have HF := Lib.hid hf
    clear hf h
    go_enter Tryd.func38, Tryd.ntmps38
    go_wp2_with fail
    refine (code_isFile_no _ HF.out _).mono ?_
    rintro e w' ⟨rfl, rfl⟩
    go_wp2_with fail
    go_ret
    exact ⟨rfl, rfl⟩
  · obtain ⟨n, rfl⟩ : ∃ n : Nat, f = n := ⟨f.toNat, by omega⟩
    rw [sizeF, if_neg hf, Int.toNat_natCast]
    have hn : n < 64 := by omega
    have hc := h.cNow (h.file hn)
    generalize S.now.getD n ⟨#[]⟩ = s at hc ⊢
    have HN := Lib.hid hn
    have hi : (n : Int) < 64 := by omega
    clear h hf
    go_enter Tryd.func38, Tryd.ntmps38
    go_wp2_with fail
    refine (code_isFile_yes _ HN.out _).mono ?_
    rintro e w' ⟨rfl, rfl⟩
    go_wp2_with fail
    go_ret
    exact ⟨rfl, rfl⟩
theorem code_Size_nil (f : Int) (w : World) : Calls Tryd.prog 38 #[.pointer none, .int .i64 f] w fun e w' => e = .returned (.int .i64 0) ∧ w = w' := by
  go_enter Tryd.func38, Tryd.ntmps38
  go_wp2
  go_ret
  exact ⟨rfl, rfl⟩

theorem vals_set {S T : St} {lv lu : Value} {i : Nat} {v : Value} (h : (S.vals lv).set i v = T.vals lu) {w : World} {g : Nat} {t : TypeId} {fr : Nat × Nat} (hg : w.heap[g]? = some (.cells (S.vals lv).toArray t fr)) : w.setCell ⟨g, i, none⟩ v = w.setRow g (T.vals lu).toArray := by
  rw [setCell_eq_setRow w g i _ t fr v hg, ← h, List.setIfInBounds_toArray]
theorem set_rest {S : St} (lv : Value) (h1 : S.now.length = 64) (h2 : S.sure.length = 64) (j : Nat) (v : Value) : (S.vals lv).set (128 + j) v = S.now.map .string ++ (S.sure.map .string ++ [lv, .bool S.on, .int .i64 S.lasts, .int .i64 S.ops].set j v) := by
  unfold St.vals
  rw [List.set_append_right (128 + j) v (by rw [List.length_map]; omega), List.length_map, h1, List.set_append_right (128 + j - 64) v (by rw [List.length_map]; omega), List.length_map, h2, show 128 + j - 64 - 64 = j by omega]
theorem set_now {S : St} (lv : Value) (h1 : S.now.length = 64) (f : Nat) (hf : f < 64) (s : ByteArray) : (S.vals lv).set f (.string s) = ({ S with now := S.now.set f s } : St).vals lv := by
  unfold St.vals
  rw [List.set_append_left _ _ (by rw [List.length_map]; omega), List.map_set]
theorem set_sure {S : St} (lv : Value) (h1 : S.now.length = 64) (h2 : S.sure.length = 64) (f : Nat) (hf : f < 64) (s : ByteArray) : (S.vals lv).set (64 + f) (.string s) = ({ S with sure := S.sure.set f s } : St).vals lv := by
  unfold St.vals
  rw [List.set_append_right _ _ (by rw [List.length_map]; omega), List.length_map, h1, Nat.add_sub_cancel_left, List.set_append_left _ _ (by rw [List.length_map]; omega), List.map_set]

/-- One cell of a disk is written. -/
theorem DAt.put {w : World} {g : Nat} {lv : Value} {S T : St} (h : DAt w g lv S) {i : Nat} {v : Value} (hv : (S.vals lv).set i v = T.vals lv) (h1 : T.now.length = 64) (h2 : T.sure.length = 64) (hl : T.loose = S.loose) : DAt (w.setCell ⟨g, i, none⟩ v) g lv T := by
  rw [vals_set hv h.heap]
  refine ⟨setRow_heap _ _ _ _ _ _ h.heap, h1, h2, ?_⟩
  rw [hl]
  have ho := h.own
  rcases ho.2 with ⟨rfl, h0⟩ | ⟨b, cap, cur, rfl, hb, hc, h1, h2, h3, h4⟩
  · exact ⟨ho.1, Or.inl ⟨rfl, h0⟩⟩
  · exact ⟨ho.1, Or.inr ⟨b, cap, cur, rfl, hb, (setRow_other _ _ _ _ (fun e => h.ne (by rw [e]; rfl))).trans hc, h1, h2, h3, h4⟩⟩
theorem Frm.setCell {F : Nat → Prop} {a b : World} (h : Frm F a b) {p : Addr} (hg : F p.block ∨ a.heap.size ≤ p.block) (v : Value) : Frm F a (b.setCell p v) :=
  ⟨h.os, h.tape, h.output, by simp [World.setCell]; exact h.size, fun k hk hn => by
    rw [Below.heap_setCell _ _ _ _ (fun e => by subst e; rcases hg with hg | hg; exact hn hg; omega)]
    exact h.block k hk hn⟩
theorem Left.put {w w' : World} {g : Nat} {lv lv' : Value} {S T : St} (h : Left w g lv S w' lv') {i : Nat} {v : Value} (hv : (S.vals lv').set i v = T.vals lv') (h1 : T.now.length = 64) (h2 : T.sure.length = 64) (hl : T.loose = S.loose) : Left w g lv T (w'.setCell ⟨g, i, none⟩ v) lv' :=
  ⟨h.at_.put hv h1 h2 hl, h.frm.setCell (Or.inl (Or.inl rfl)) v, h.foot⟩
theorem Left.put_rest {w w' : World} {g : Nat} {lv lv' : Value} {S T : St} (h : Left w g lv S w' lv') (j : Nat) {v : Value} (hv : [lv', .bool S.on, .int .i64 S.lasts, .int .i64 S.ops].set j v = [lv', .bool T.on, .int .i64 T.lasts, .int .i64 T.ops]) (h1 : T.now = S.now) (h2 : T.sure = S.sure) (hl : T.loose = S.loose) : Left w g lv T (w'.setCell ⟨g, 128 + j, none⟩ v) lv' :=
  h.put (by rw [set_rest lv' h.at_.now h.at_.sure, hv]; unfold St.vals; rw [h1, h2]) (by rw [h1]; exact h.at_.now) (by rw [h2]; exact h.at_.sure) hl

theorem wrap_in (i : Int) (h0 : -1000000000000000 ≤ i) (h1 : i ≤ 1000000000000000) : IntKind.i64.wrap i = i := by
  unfold IntKind.wrap
  simp [IntKind.bits, IntKind.signed]
  omega

set_option maxHeartbeats 800000 in
theorem code_operation (g : Nat) (lv : Value) (S : St) (w : World) (h : DAt w g lv S) (ho : S.ops ≤ 100000000000) (hl : -1 ≤ S.lasts) (hl2 : S.lasts ≤ 1099511627776) :
    Calls Tryd.prog 58 #[.pointer (some ⟨g, 0, none⟩)] w fun e w' => e = .returned (.int .i64 (opS S).1) ∧ Left w g lv (opS S).2 w' lv := by
  have hc1 := h.cOps
  have hc2 := h.cLasts
  have hfz := h.fz
  have hc3 := h.cOn
  have H := Lib.hid (Left.refl h)
  have ho1 : (0 : Int) ≤ (S.ops : Int) := by omega
  have ho2 : (S.ops : Int) ≤ 100000000000 := by omega
  obtain ⟨n, hn⟩ : ∃ n : Int, (S.ops : Int) = n := ⟨_, rfl⟩
  obtain ⟨l, hln⟩ : ∃ n : Int, S.lasts = n := ⟨_, rfl⟩
  have H1 := Lib.hid (H.out.put_rest (T := { S with ops := S.ops + 1 }) 3 (v := .int .i64 ((S.ops : Int) + 1)) (by simp) rfl rfl rfl)
  rw [hn] at hc1 ho1 ho2 H1
  rw [hln] at hc2 hl hl2
  by_cases hz : l = 0
  · have hr : opS S = (100, { S with ops := S.ops + 1, on := false }) := by unfold opS; rw [hln, if_pos hz]
    rw [hr]
    subst hz
    have H2 := Lib.hid (H1.out.put_rest (T := { S with ops := S.ops + 1, on := false }) 1 (v := .bool false) (by simp) rfl rfl rfl)
    clear h hr ho hn hln H H1
    go_enter Tryd.func58, Tryd.ntmps58
    go_wp2
    go_ret
    exact ⟨rfl, H2.out⟩
  · by_cases hp : 0 < l
    · have hr : opS S = (0, { S with ops := S.ops + 1, lasts := S.lasts - 1 }) := by unfold opS; rw [hln, if_neg hz, if_pos hp]
      rw [hr]
      have H2 := Lib.hid (H1.out.put_rest (T := { S with ops := S.ops + 1, lasts := S.lasts - 1 }) 2 (v := .int .i64 (l - 1)) (by simp [hln]) rfl rfl rfl)
      clear h hr ho hn hln H H1
      go_enter Tryd.func58, Tryd.ntmps58
      go_wp2
      go_ret
      exact ⟨rfl, H2.out⟩
    · have hr : opS S = (0, { S with ops := S.ops + 1 }) := by unfold opS; rw [hln, if_neg hz, if_neg hp]
      rw [hr]
      clear h hr ho hn hln H
      go_enter Tryd.func58, Tryd.ntmps58
      go_wp2
      go_ret
      exact ⟨rfl, H1.out⟩
end Go.Proofs.YtepcfmigkhacgaaDoor.Dk

namespace Go.Proofs.YtepcfmigkhacgaaDoor.Dk
open Go.RowKit Go.Proofs.YtepcfmigkhacgaaDoor.Gr

theorem errF_off (f : Int) : errF false f = 100 := rfl
theorem errF_no {f : Int} (h : f < 0 ∨ 64 ≤ f) : errF true f = 2 := by unfold errF; rw [if_pos rfl, if_pos h]
theorem errF_yes {f : Int} (h : ¬ (f < 0 ∨ 64 ≤ f)) : errF true f = 0 := by unfold errF; rw [if_pos rfl, if_neg h]

theorem errF_zero {b : Bool} {f : Int} (h : errF b f = 0) : b = true ∧ ¬ (f < 0 ∨ 64 ≤ f) := by
  cases b
  · rw [errF_off] at h; simp at h
  · by_cases hf : f < 0 ∨ 64 ≤ f
    · rw [errF_no hf] at h; simp at h
    · exact ⟨rfl, hf⟩
theorem code_serves (g : Nat) (b : Bool) (f : Int) (w : World) (hc : w.cell? ⟨g, 129, none⟩ = some (.bool b)) : Calls Tryd.prog 57 #[.pointer (some ⟨g, 0, none⟩), .int .i64 f] w fun e w' => e = .returned (.int .i64 (errF b f)) ∧ w = w' := by
  cases b
  · exact code_serves_off g f w hc
  · by_cases h : f < 0 ∨ 64 ≤ f
    · rw [errF_no h]
      exact code_serves_no g f w hc h
    · rw [errF_yes h]
      obtain ⟨n, rfl⟩ : ∃ n : Nat, f = n := ⟨f.toNat, by omega⟩
      exact code_serves_yes g n w hc (by omega)

/-- What Read answers. -/
def readV (S : St) (f a n : Int) : ByteArray × Int :=
  if errF S.on f ≠ 0 then (⟨#[]⟩, errF S.on f)
  else if a < 0 ∨ n < 0 ∨ ((S.now.getD f.toNat ⟨#[]⟩).size : Int) < a ∨ (S.now.getD f.toNat ⟨#[]⟩).size - a < n then (⟨#[]⟩, 5)
  else ((S.now.getD f.toNat ⟨#[]⟩).extract a.toNat (a.toNat + n.toNat), 0)

set_option maxRecDepth 100000 in
set_option maxHeartbeats 800000 in
theorem code_Read (g : Nat) (lv : Value) (S : St) (f a n : Int) (w : World) (h : DAt w g lv S) (hs : ∀ s ∈ S.now, s.size ≤ 1048576) :
    Calls Tryd.prog 39 #[.pointer (some ⟨g, 0, none⟩), .int .i64 f, .int .i64 a, .int .i64 n] w fun e w' => e = .returned (.tuple #[.string (readV S f a n).1, .int .i64 (readV S f a n).2]) ∧ w = w' := by
  have HS := Lib.hid (code_serves g S.on f w h.cOn)
  by_cases he : errF S.on f = 0
  · obtain ⟨hon, hf⟩ := errF_zero he
    obtain ⟨k, rfl⟩ : ∃ k : Nat, f = k := ⟨f.toNat, by omega⟩
    have hk : k < 64 := by omega
    have hc := h.cNow (h.file hk)
    have hsz := hs _ (List.mem_of_getElem? (h.file hk))
    unfold readV
    rw [if_neg (by simpa using he), Int.toNat_natCast]
    rw [he] at HS
    have hi : (k : Int) < 64 := by omega
    generalize S.now.getD k ⟨#[]⟩ = s at hc hsz ⊢
    clear h hs hf hon he hk
    by_cases ha : a < 0
    · rw [if_pos (Or.inl ha)]
      go_enter Tryd.func39, Tryd.ntmps39
      go_wp2_with fail
      refine HS.out.mono ?_
      rintro e w' ⟨rfl, rfl⟩
      go_wp2_with fail
      go_ret2
      exact ⟨rfl, rfl⟩
    obtain ⟨i, rfl⟩ : ∃ i : Nat, a = i := ⟨a.toNat, by omega⟩
    have ha : (0 : Int) ≤ (i : Int) := by omega
    by_cases hn : n < 0
    · rw [if_pos (Or.inr (Or.inl hn))]
      go_enter Tryd.func39, Tryd.ntmps39
      go_wp2_with fail
      refine HS.out.mono ?_
      rintro e w' ⟨rfl, rfl⟩
      go_wp2_with fail
      go_ret2
      exact ⟨rfl, rfl⟩
    obtain ⟨m, rfl⟩ : ∃ m : Nat, n = m := ⟨n.toNat, by omega⟩
    have hn : (0 : Int) ≤ (m : Int) := by omega
    by_cases h1 : s.size < i
    · rw [if_pos (Or.inr (Or.inr (Or.inl (by omega))))]
      go_enter Tryd.func39, Tryd.ntmps39
      go_wp2_with fail
      refine HS.out.mono ?_
      rintro e w' ⟨rfl, rfl⟩
      go_wp2_with fail
      go_ret2
      exact ⟨rfl, rfl⟩
    by_cases h2 : (s.size : Int) - i < m
    · rw [if_pos (Or.inr (Or.inr (Or.inr (by omega))))]
      go_enter Tryd.func39, Tryd.ntmps39
      go_wp2_with fail
      refine HS.out.mono ?_
      rintro e w' ⟨rfl, rfl⟩
      go_wp2_with fail
      go_ret2
      exact ⟨rfl, rfl⟩
    · rw [if_neg (by omega)]
      have h3 : (i : Int) + m ≤ s.size := by omega
      have h4 : (i : Int) ≤ 1048576 := by omega
      have h5 : (m : Int) ≤ 1048576 := by omega
      have hsl : (Instr.slice 9 (.string s) (some (.int .i64 i)) (some (.int .i64 ((i : Int) + m))) none).run Tryd.prog w = .ok (.string (s.extract i (i + m))) w := by
        rw [run_slice_string _ _ _ _ _ _ _ Tryd.underlying9 (by omega) (by omega) (by omega)]
        rw [Int.toNat_natCast, show ((i : Int) + m).toNat = i + m by omega]
      go_enter Tryd.func39, Tryd.ntmps39
      go_wp2_with fail
      refine HS.out.mono ?_
      rintro e w' ⟨rfl, rfl⟩
      go_wp2_with fail
      go_ret2
      exact ⟨rfl, rfl⟩
  · unfold readV
    rw [if_pos he]
    generalize errF S.on f = x at HS he ⊢
    have he2 : (x == 0) = false := by simpa using he
    have he3 : (x != 0) = true := by simpa using he
    clear h hs
    go_enter Tryd.func39, Tryd.ntmps39
    go_wp2_with fail
    refine HS.out.mono ?_
    rintro e w' ⟨rfl, rfl⟩
    go_wp2_with fail
    go_ret2
    exact ⟨rfl, rfl⟩
theorem code_Read_nil (f a n : Int) (w : World) : Calls Tryd.prog 39 #[.pointer none, .int .i64 f, .int .i64 a, .int .i64 n] w fun e w' => e = .returned (.tuple #[.string ⟨#[]⟩, .int .i64 1]) ∧ w = w' := by
  go_enter Tryd.func39, Tryd.ntmps39
  go_wp2_with fail
  refine (code_serves_nil _ _).mono ?_
  rintro e w' ⟨rfl, rfl⟩
  go_wp2_with fail
  go_ret2
  exact ⟨rfl, rfl⟩

def allS (S : St) (f : Int) : ByteArray := if errF S.on f ≠ 0 then ⟨#[]⟩ else S.now.getD f.toNat ⟨#[]⟩
theorem read_all (S : St) (f : Int) : (readV S f 0 (sizeF S f)).1 = allS S f := by
  unfold readV allS
  by_cases he : errF S.on f = 0
  · obtain ⟨_, hf⟩ := errF_zero he
    have hn : ¬ errF S.on f ≠ 0 := fun h => h he
    unfold sizeF
    rw [if_neg hn, if_neg hn, if_neg hf, if_neg (by omega)]
    simp
  · rw [if_pos he, if_pos he]

def powerS (S : St) (n : Int) : Int × St := if S.on then (if n < 0 ∨ 1099511627776 < n then (2, S) else (0, { S with lasts := n })) else (100, S)
set_option maxRecDepth 100000 in
set_option maxHeartbeats 800000 in
theorem code_Power (g : Nat) (lv : Value) (S : St) (n : Int) (w : World) (h : DAt w g lv S) :
    Calls Tryd.prog 25 #[.pointer (some ⟨g, 0, none⟩), .int .i64 n] w fun e w' => e = .returned (.int .i64 (powerS S n).1) ∧ Left w g lv (powerS S n).2 w' lv := by
  have HS := Lib.hid (code_hasPower g S.on w h.cOn)
  have H0 := Lib.hid (Left.refl h)
  have hfz := h.fz
  have hc2 := h.cLasts
  unfold powerS
  by_cases hb : S.on = true
  case neg =>
    rw [if_neg hb]
    simp only [Bool.not_eq_true] at hb
    rw [hb] at HS
    clear hb h hfz hc2
    go_enter Tryd.func25, Tryd.ntmps25
    go_wp2_with fail
    refine HS.out.mono ?_
    rintro e w' ⟨rfl, rfl⟩
    go_wp2_with fail
    go_ret
    exact ⟨rfl, H0.out⟩
  case pos =>
    rw [if_pos hb]
    rw [hb] at HS
    by_cases h1 : n < 0
    · rw [if_pos (Or.inl h1)]
      clear hb h hfz hc2
      go_enter Tryd.func25, Tryd.ntmps25
      go_wp2_with fail
      refine HS.out.mono ?_
      rintro e w' ⟨rfl, rfl⟩
      go_wp2_with fail
      go_ret
      exact ⟨rfl, H0.out⟩
    by_cases h2 : 1099511627776 < n
    · rw [if_pos (Or.inr h2)]
      clear hb h hfz hc2
      go_enter Tryd.func25, Tryd.ntmps25
      go_wp2_with fail
      refine HS.out.mono ?_
      rintro e w' ⟨rfl, rfl⟩
      go_wp2_with fail
      go_ret
      exact ⟨rfl, H0.out⟩
    · rw [if_neg (by omega)]
      have H1 := Lib.hid (H0.out.put_rest (T := { S with lasts := n }) 2 (v := .int .i64 n) (by simp) rfl rfl rfl)
      clear hb h
      go_enter Tryd.func25, Tryd.ntmps25
      go_wp2_with fail
      refine HS.out.mono ?_
      rintro e w' ⟨rfl, rfl⟩
      go_wp2_with fail
      go_ret
      exact ⟨rfl, H1.out⟩
theorem code_Power_nil (n : Int) (w : World) : Calls Tryd.prog 25 #[.pointer none, .int .i64 n] w fun e w' => e = .returned (.int .i64 1) ∧ w = w' := by
  go_enter Tryd.func25, Tryd.ntmps25
  go_wp2_with fail
  refine (code_hasPower_nil _).mono ?_
  rintro e w' ⟨rfl, rfl⟩
  go_wp2_with fail
  go_ret
  exact ⟨rfl, rfl⟩

def newS : St := ⟨List.replicate 64 ⟨#[]⟩, List.replicate 64 ⟨#[]⟩, [], true, -1, 0⟩
theorem built_new (a : Act) : Tryd.prog.built 67 ((#[(3, .const (.bool true)), (4, .const (.int .i64 (-1)))] : Array (Nat × Operand)).map fun (i, x) => (i, a.eval x)).toList = some (newS.vals (.slice none 0 0)).toArray := by kernel_rfl
theorem new_at (w : World) : DAt (w.alloc (.cells (newS.vals (.slice none 0 0)).toArray 67)) w.heap.size (.slice none 0 0) newS :=
  ⟨heap_alloc_new _ _, rfl, rfl, Kind.Own.nil _ _⟩
theorem wpList_build_as {P : Program} {ops : Array Oper} {rest : List Oper} {o : Oper} {a : Act} {w : World} {Q : Exit → Act → World → Prop} (hg : o.guard = none) (t : TypeId) (parts : Array (Nat × Operand)) (ho : o.op = .build t parts) (C : Array Value)
    (hf : P.built t (parts.map fun (i, x) => (i, a.eval x)).toList = some C) (h : wpList P ops Q rest (a.put o.dst (.agg C)) w) : wpList P ops Q (o :: rest) a w := by
  refine wpList_build hg t parts ho (by rw [hf]; rfl) ?_
  rw [hf]
  exact h
theorem code_New (w : World) : Calls Tryd.prog 8 #[] w fun e w' => e = .returned (.pointer (some ⟨w.heap.size, 0, none⟩)) ∧ DAt w' w.heap.size (.slice none 0 0) newS ∧ Below w.heap.size w w' := by
  have HA := Lib.hid (new_at w)
  have HB := Lib.hid built_new
  generalize (newS.vals (.slice none 0 0)).toArray = C at HA HB
  go_enter Tryd.func8, Tryd.ntmps8
  go_wp2_with (refine wpList_build_as rfl 67 #[(3, .const (.bool true)), (4, .const (.int .i64 (-1)))] rfl C (HB.out _) ?_)
  go_ret
  exact ⟨rfl, HA.out, (Below.refl _ _).alloc (Nat.le_refl _) _⟩
end Go.Proofs.YtepcfmigkhacgaaDoor.Dk

namespace Go.Proofs.YtepcfmigkhacgaaDoor.Dk
open Go.RowKit Go.Proofs.YtepcfmigkhacgaaDoor.Gr

theorem Left.drew {w w' : World} {g : Nat} {lv lv' : Value} {S : St} (h : Left w g lv S w' lv') : Left w g lv S w'.drew lv' :=
  ⟨⟨h.at_.heap, h.at_.now, h.at_.sure, h.at_.own⟩, h.frm.drew, h.foot⟩
theorem Left.now {w w' : World} {g : Nat} {lv lv' : Value} {S : St} (h : Left w g lv S w' lv') (f : Nat) (hf : f < 64) (s : ByteArray) : Left w g lv { S with now := S.now.set f s } (w'.setCell ⟨g, f, none⟩ (.string s)) lv' :=
  h.put (set_now lv' h.at_.now f hf s) (by simp [h.at_.now]) h.at_.sure rfl
/-- append of things that a slice reads as, onto a row of one's own: what has grown. -/
theorem wpList_append_grow {P : Program} {α : Type} {K : Kind P α} {w : World} {v : Value} {L : List α} {ops : Array Oper} {rest : List Oper} {o : Oper} {a : Act} {Q : Exit → Act → World → Prop} (hgd : o.guard = none) (s x : Operand) (t : TypeId)
    (ho : o.op = .call { callee := .builtin .append, args := #[s, x], argTypes := #[t, t] }) (ht : P.underlying t = some (.slice K.T))
    (B : Nat) (hs : a.eval s = v) (hown : K.Own B v L w) (u : Value) (M : List α) (hx : a.eval x = u) (hat : K.At w u M) (h0 : 0 < M.length) (m : Nat) (hm : L.length + M.length = m)
    (hn : (L.length + M.length) * (K.bytes + 1) ≤ 1099511627776) (hB : B ≤ w.heap.size)
    (h : ∀ g cap w', K.Own B (.slice (some ⟨g, 0, none⟩) m cap) (L ++ M) w' → w.grownBy w' v.ownBlock → (v.ownBlock = some g ∨ g = w.heap.size) → g < w'.heap.size → wpList P ops Q rest (a.put o.dst (.slice (some ⟨g, 0, none⟩) m cap)) w') : wpList P ops Q (o :: rest) a w := by
  subst hm
  obtain ⟨ie, hie, hq⟩ := Option.map_eq_some_iff.1 K.info
  simp only [Prod.mk.injEq] at hq
  obtain ⟨hz, hsz, hby⟩ := hq
  have hm1 : L.length + M.length ≤ (L.length + M.length) * (K.bytes + 1) := Nat.le_mul_of_pos_right _ (by omega)
  have hm2 : (L.length + M.length) * K.bytes ≤ (L.length + M.length) * (K.bytes + 1) := Nat.mul_le_mul_left _ (by omega)
  obtain ⟨g1, o1, cap, rfl, _, hr⟩ := hat.some h0
  refine wpList_append_lies w hgd s x t ho B K.T ie K.zero K.size K.bytes ht hie hz hsz hby K.zsize K.pos v L.length (K.flat L) hs hown ⟨g1, o1, none⟩ M.length cap (K.flat M) hx (K.flat_len M) (fun j u hj => ?_) (K.flat_one M) (by omega) (by unfold maxLen; omega) (by omega) hB _ rfl ?_
  · rw [Addr.add_mid]
    exact hr j u hj
  · intro g cap w' hown' hgrow hg hlt
    refine h g cap w' ?_ hgrow hg hlt
    unfold Kind.Own
    rw [K.flat_append, List.length_append]
    exact hown'

/-- One change in a slice of one. -/
theorem at_one (w : World) (x : Ch) : KC.At (w.alloc (.cells #[.int .i64 x.file, .int .i64 x.at_, .bool x.cut, .string x.s] 84)) (.slice (some ⟨w.heap.size, 0, none⟩) 1 1) [x] :=
  Or.inr ⟨w.heap.size, 0, 1, rfl, by simp, Nat.le_refl _, fun j u hj => by
    rw [Nat.zero_add, Lib.cell_of_heap (heap_alloc_new w _)]
    simp only [Kind.flat, KC, List.flatMap_cons, List.flatMap_nil, List.append_nil] at hj
    rw [← hj]
    simp⟩
/-- The row of loose changes has grown, and is laid. -/
theorem Left.grow {w w' w2 : World} {g : Nat} {lv lv' : Value} {S : St} (h : Left w g lv S w' lv') {x : Ch} {o : Obj} {k cap m : Nat} (hown : KC.Own 0 (.slice (some ⟨k, 0, none⟩) m cap) (S.loose ++ [x]) w2) (hg : (w'.alloc o).grownBy w2 lv'.ownBlock) (hk : lv'.ownBlock = some k ∨ k = (w'.alloc o).heap.size) :
    Left w g lv { S with loose := S.loose ++ [x] } (w2.setCell ⟨g, 128, none⟩ (.slice (some ⟨k, 0, none⟩) m cap)) (.slice (some ⟨k, 0, none⟩) m cap) ∧ w2.cell? ⟨g, 128, none⟩ = some lv' ∧ w2.frozen? ⟨g, 128, none⟩ = false := by
  have hlt := h.at_.lt
  have hh : w2.heap[g]? = some (.cells (S.vals lv').toArray 67 (0, 0)) := by
    rw [hg.block g (by simp; omega) (fun e => h.at_.ne e.symm), heap_alloc_old _ _ hlt]
    exact h.at_.heap
  have hgk : g ≠ k := by
    rcases hk with hk | hk
    · exact fun e => h.at_.ne (by rw [hk, e])
    · simp at hk; omega
  refine ⟨⟨⟨?_, h.at_.now, h.at_.sure, ?_⟩, ?_, ?_⟩, cell_row hh (vals_rest S lv' h.at_.now h.at_.sure 0), by simp [World.frozen?, hh]⟩
  · rw [vals_set (T := { S with loose := S.loose ++ [x] }) (lu := .slice (some ⟨k, 0, none⟩) m cap) _ hh]
    · exact setRow_heap _ _ _ _ _ _ hh
    · rw [set_rest lv' h.at_.now h.at_.sure 0]
      rfl
  · rcases hown.2 with ⟨e, _⟩ | ⟨b, cp, cur, e, hb, hc, r⟩
    · simp at e
    · refine ⟨hown.1, Or.inr ⟨b, cp, cur, e, hb, ?_, r⟩⟩
      simp only [Value.slice.injEq, Option.some.injEq, Addr.mk.injEq] at e
      rw [Below.heap_setCell _ _ _ _ (fun e2 => hgk (by rw [e.1.1, e2]))]
      exact hc
  · refine Frm.setCell (Frm.grown (b := w'.alloc o) ?_ hg ?_) (Or.inl (Or.inl rfl)) _
    · exact ⟨h.frm.os, h.frm.tape, h.frm.output, by simp; have := h.frm.size; omega, fun i hi hn => by rw [heap_alloc_old _ _ (Nat.lt_of_lt_of_le hi h.frm.size)]; exact h.frm.block i hi hn⟩
    · intro i hi
      rcases h.foot i hi with h1 | h1
      · exact Or.inl (Or.inr h1)
      · exact Or.inr h1
  · intro i hi
    simp [Value.ownBlock] at hi
    subst hi
    rcases hk with hk | hk
    · exact h.foot _ hk
    · right
      have := h.frm.size
      simp at hk
      omega

def putS (S : St) (f : Nat) (s : ByteArray) : St := { S with now := S.now.set f (S.now.getD f ⟨#[]⟩ ++ s), loose := S.loose ++ [⟨f, (S.now.getD f ⟨#[]⟩).size, false, s⟩] }
def appendS (S : St) (f : Int) (s : ByteArray) : Int × St :=
  if errF S.on f ≠ 0 then (errF S.on f, S)
  else if 1048576 - ((S.now.getD f.toNat ⟨#[]⟩).size : Int) < s.size then (3, S)
  else if (opS S).1 ≠ 0 then opS S
  else (0, putS (opS S).2 f.toNat s)
theorem opS_two (S : St) : (opS S).1 = 0 ∨ (opS S).1 = 100 := by
  unfold opS
  split
  · exact Or.inr rfl
  · split
    · exact Or.inl rfl
    · exact Or.inl rfl
theorem opS_now (S : St) : (opS S).2.now = S.now := by unfold opS; split; rfl; split <;> rfl
theorem opS_sure (S : St) : (opS S).2.sure = S.sure := by unfold opS; split; rfl; split <;> rfl
theorem opS_loose (S : St) : (opS S).2.loose = S.loose := by unfold opS; split; rfl; split <;> rfl
/-- What the calls ask of a disk's size. -/
structure Fits (S : St) : Prop where
  ops : S.ops ≤ 10000000000
  loose : S.loose.length ≤ 1000000000
  lasts : -1 ≤ S.lasts ∧ S.lasts ≤ 1099511627776
  now : ∀ s ∈ S.now, s.size ≤ 1048576

set_option maxRecDepth 100000 in
set_option maxHeartbeats 1600000 in
theorem code_Append (g : Nat) (lv : Value) (S : St) (f : Int) (s : ByteArray) (w : World) (h : DAt w g lv S) (hS : Fits S) :
    Calls Tryd.prog 27 #[.pointer (some ⟨g, 0, none⟩), .int .i64 f, .string s] w fun e w' => e = .returned (.int .i64 (appendS S f s).1) ∧ ∃ lv', Left w g lv (appendS S f s).2 w' lv' := by
  have HS := Lib.hid (code_serves g S.on f w h.cOn)
  have HL := Lib.hid (Left.refl h)
  by_cases he : errF S.on f = 0
  · obtain ⟨hon, hf⟩ := errF_zero he
    obtain ⟨k, rfl⟩ : ∃ k : Nat, f = k := ⟨f.toNat, by omega⟩
    have hk : k < 64 := by omega
    have hc := h.cNow (h.file hk)
    have hsz := hS.now _ (List.mem_of_getElem? (h.file hk))
    unfold appendS
    rw [if_neg (fun x => x he), Int.toNat_natCast]
    rw [he] at HS
    obtain ⟨t, ht⟩ : ∃ t, S.now.getD k ⟨#[]⟩ = t := ⟨_, rfl⟩
    rw [ht] at hc hsz ⊢
    have hi : (k : Int) < 64 := by omega
    by_cases hl : 1048576 - (t.size : Int) < s.size
    · rw [if_pos hl]
      clear h hS hf hon he hk ht
      go_enter Tryd.func27, Tryd.ntmps27
      go_wp2_with fail
      refine HS.out.mono ?_
      rintro e w' ⟨rfl, rfl⟩
      go_wp2_with fail
      go_ret
      exact ⟨rfl, _, HL.out⟩
    rw [if_neg hl]
    have HO := Lib.hid (code_operation g lv S w h (by have := hS.ops; omega) hS.lasts.1 hS.lasts.2)
    rcases opS_two S with ho | ho
    · have hn1 := opS_now S
      have hl1 := opS_loose S
      have HF := Lib.hid hS.loose
      rw [if_neg (fun x => x ho)]
      rw [ho] at HO
      generalize (opS S).2 = S1 at HO hn1 hl1 ⊢
      rw [← hl1] at HF
      rw [← hn1] at ht
      unfold putS
      rw [ht]
      have HT := Lib.hid ht
      have HK := Lib.hid hk
      have hl2 : (s.size : Int) ≤ 1048576 - t.size := by omega
      clear h hS hf hon he hl ho hk hn1 hl1 ht
      go_enter Tryd.func27, Tryd.ntmps27
      go_wp2_with fail
      refine HS.out.mono ?_
      rintro e w' ⟨rfl, rfl⟩
      go_wp2_with fail
      refine HO.out.mono ?_
      rintro e w1 ⟨rfl, hl1⟩
      have HL1 := Lib.hid hl1
      clear hc hl1
      go_wp2_with fail
      refine wp_region_still_tail 10 (by kernel_rfl) (by kernel_rfl) ?_
      simp only [List.take_succ_cons, List.take_zero, List.drop_succ_cons, List.drop_zero]
      have hl2 := HL1.out.drew
      show wpStill _ _ w1.drew (fun a' => wpList _ _ _ _ a' w1.drew) _ _
      generalize w1.drew = w2 at hl2 ⊢
      have hc1 := hl2.at_.cNow (hl2.at_.file HK.out)
      rw [HT.out] at hc1
      have hfz1 := hl2.at_.fz
      have HL2 := Lib.hid (hl2.now k HK.out (t ++ s))
      clear hl2 HL1
      have hns : ¬ 9223372036854775807 < t.size + s.size := by omega
      repeat still_step
      refine wpStill_nil ?_
      go_upto_region 11 with (fail)
      generalize w2.setCell ⟨g, k, none⟩ (.string (t ++ s)) = w3 at HL2 ⊢
      clear hc1 hfz1
      have hc1 := HL2.out.at_.cLoose
      have hown := HL2.out.at_.own
      have hbl : ((S1.loose.length) + 1) * (KC.bytes + 1) ≤ 1099511627776 := by have := HF.out; simp [KC]; omega
      have HO2 := Lib.hid (hown.kept ((Below.refl _ _).alloc (Nat.le_refl _) (.cells #[.int .i64 k, .int .i64 t.size, .bool false, .string s] 84)))
      have HAT := Lib.hid (at_one w3 ⟨k, t.size, false, s⟩)
      have HBL := Lib.hid hbl
      clear hown hbl
      go_wp2_with (refine wpList_append_grow (K := KC) rfl (.tmp 48) (.tmp 53) 65 rfl Tryd.underlying65 0 rfl HO2.out _ [⟨k, t.size, false, s⟩] rfl HAT.out (by simp) (S1.loose.length + 1) rfl HBL.out (Nat.zero_le _) ?_; intro g5 cap5 w5 hown5 hgr5 hk5 hlt5; obtain ⟨hL5, hc5, hf5⟩ := HL2.out.grow hown5 hgr5 hk5; have HL5 := Lib.hid hL5; clear hown5 hgr5 hk5 hlt5 hL5)
      go_ret
      exact ⟨rfl, _, HL5.out⟩
    · have hr : (opS S).1 ≠ 0 := by rw [ho]; decide
      rw [if_pos hr]
      rw [ho] at HO ⊢
      generalize (opS S).2 = S1 at HO ⊢
      have hl2 : (s.size : Int) ≤ 1048576 - t.size := by omega
      clear h hS hf hon he hl ho hk hr ht
      go_enter Tryd.func27, Tryd.ntmps27
      go_wp2_with fail
      refine HS.out.mono ?_
      rintro e w' ⟨rfl, rfl⟩
      go_wp2_with fail
      refine HO.out.mono ?_
      rintro e w1 ⟨rfl, hl1⟩
      have HL1 := Lib.hid hl1
      clear hl1
      go_wp2_with fail
      go_ret
      exact ⟨rfl, _, HL1.out⟩
  · unfold appendS
    rw [if_pos he]
    generalize errF S.on f = x at HS he ⊢
    have he2 : (x == 0) = false := by simpa using he
    have he3 : (x != 0) = true := by simpa using he
    clear h hS
    go_enter Tryd.func27, Tryd.ntmps27
    go_wp2_with fail
    refine HS.out.mono ?_
    rintro e w' ⟨rfl, rfl⟩
    go_wp2_with fail
    go_ret
    exact ⟨rfl, _, HL.out⟩

def cutS (S : St) (f n : Nat) : St := { S with now := S.now.set f ((S.now.getD f ⟨#[]⟩).extract 0 n), loose := S.loose ++ [⟨f, n, true, ⟨#[]⟩⟩] }
def cutterS (S : St) (f n : Int) : Int × St :=
  if errF S.on f ≠ 0 then (errF S.on f, S)
  else if n < 0 ∨ ((S.now.getD f.toNat ⟨#[]⟩).size : Int) < n then (5, S)
  else if (opS S).1 ≠ 0 then opS S
  else (0, cutS (opS S).2 f.toNat n.toNat)

set_option maxRecDepth 100000 in
set_option maxHeartbeats 1600000 in
theorem code_Cut (g : Nat) (lv : Value) (S : St) (f n : Int) (w : World) (h : DAt w g lv S) (hS : Fits S) :
    Calls Tryd.prog 66 #[.pointer (some ⟨g, 0, none⟩), .int .i64 f, .int .i64 n] w fun e w' => e = .returned (.int .i64 (cutterS S f n).1) ∧ ∃ lv', Left w g lv (cutterS S f n).2 w' lv' := by
  have HS := Lib.hid (code_serves g S.on f w h.cOn)
  have HL := Lib.hid (Left.refl h)
  by_cases he : errF S.on f = 0
  · obtain ⟨hon, hf⟩ := errF_zero he
    obtain ⟨k, rfl⟩ : ∃ k : Nat, f = k := ⟨f.toNat, by omega⟩
    have hk : k < 64 := by omega
    have hc := h.cNow (h.file hk)
    have hsz := hS.now _ (List.mem_of_getElem? (h.file hk))
    unfold cutterS
    rw [if_neg (fun x => x he), Int.toNat_natCast]
    rw [he] at HS
    obtain ⟨t, ht⟩ : ∃ t, S.now.getD k ⟨#[]⟩ = t := ⟨_, rfl⟩
    rw [ht] at hc hsz ⊢
    have hi : (k : Int) < 64 := by omega
    by_cases hl : n < 0
    · rw [if_pos (Or.inl hl)]
      clear h hS hf hon he hk ht
      go_enter Tryd.func66, Tryd.ntmps66
      go_wp2_with fail
      refine HS.out.mono ?_
      rintro e w' ⟨rfl, rfl⟩
      go_wp2_with fail
      go_ret
      exact ⟨rfl, _, HL.out⟩
    obtain ⟨m, rfl⟩ : ∃ m : Nat, n = m := ⟨n.toNat, by omega⟩
    have hm0 : (0 : Int) ≤ (m : Int) := by omega
    by_cases hl : t.size < m
    · rw [if_pos (Or.inr (by omega))]
      clear h hS hf hon he hk ht
      go_enter Tryd.func66, Tryd.ntmps66
      go_wp2_with fail
      refine HS.out.mono ?_
      rintro e w' ⟨rfl, rfl⟩
      go_wp2_with fail
      go_ret
      exact ⟨rfl, _, HL.out⟩
    rw [if_neg (by omega), Int.toNat_natCast]
    have HO := Lib.hid (code_operation g lv S w h (by have := hS.ops; omega) hS.lasts.1 hS.lasts.2)
    rcases opS_two S with ho | ho
    · have hn1 := opS_now S
      have hl1 := opS_loose S
      have HF := Lib.hid hS.loose
      rw [if_neg (fun x => x ho)]
      rw [ho] at HO
      generalize (opS S).2 = S1 at HO hn1 hl1 ⊢
      rw [← hl1] at HF
      rw [← hn1] at ht
      unfold cutS
      rw [ht]
      have HT := Lib.hid ht
      have HK := Lib.hid hk
      have hl2 : (m : Int) ≤ t.size := by omega
      clear h hS hf hon he hl ho hk hn1 hl1 ht
      go_enter Tryd.func66, Tryd.ntmps66
      go_wp2_with fail
      refine HS.out.mono ?_
      rintro e w' ⟨rfl, rfl⟩
      go_wp2_with fail
      refine HO.out.mono ?_
      rintro e w1 ⟨rfl, hl1⟩
      have HL1 := Lib.hid hl1
      clear hc hl1
      go_wp2_with fail
      refine wp_region_still_tail 12 (by kernel_rfl) (by kernel_rfl) ?_
      simp only [List.take_succ_cons, List.take_zero, List.drop_succ_cons, List.drop_zero]
      have hl2 := HL1.out.drew
      show wpStill _ _ w1.drew (fun a' => wpList _ _ _ _ a' w1.drew) _ _
      generalize w1.drew = w2 at hl2 ⊢
      have hc1 := hl2.at_.cNow (hl2.at_.file HK.out)
      rw [HT.out] at hc1
      have hfz1 := hl2.at_.fz
      have HL2 := Lib.hid (hl2.now k HK.out (t.extract 0 m))
      clear hl2 HL1
      repeat still_step
      refine wpStill_nil ?_
      go_upto_region 10 with (fail)
      generalize w2.setCell ⟨g, k, none⟩ (.string (t.extract 0 m)) = w3 at HL2 ⊢
      clear hc1 hfz1
      have hc1 := HL2.out.at_.cLoose
      have hown := HL2.out.at_.own
      have hbl : ((S1.loose.length) + 1) * (KC.bytes + 1) ≤ 1099511627776 := by have := HF.out; simp [KC]; omega
      have HO2 := Lib.hid (hown.kept ((Below.refl _ _).alloc (Nat.le_refl _) (.cells #[.int .i64 k, .int .i64 m, .bool true, .string ⟨#[]⟩] 84)))
      have HAT := Lib.hid (at_one w3 ⟨k, m, true, ⟨#[]⟩⟩)
      have HBL := Lib.hid hbl
      clear hown hbl
      go_wp2_with (refine wpList_append_grow (K := KC) rfl (.tmp 50) (.tmp 54) 65 rfl Tryd.underlying65 0 rfl HO2.out _ [⟨k, m, true, ⟨#[]⟩⟩] rfl HAT.out (by simp) (S1.loose.length + 1) rfl HBL.out (Nat.zero_le _) ?_; intro g5 cap5 w5 hown5 hgr5 hk5 hlt5; obtain ⟨hL5, hc5, hf5⟩ := HL2.out.grow hown5 hgr5 hk5; have HL5 := Lib.hid hL5; clear hown5 hgr5 hk5 hlt5 hL5)
      go_ret
      exact ⟨rfl, _, HL5.out⟩
    · have hr : (opS S).1 ≠ 0 := by rw [ho]; decide
      rw [if_pos hr]
      rw [ho] at HO ⊢
      generalize (opS S).2 = S1 at HO ⊢
      have hl2 : (m : Int) ≤ t.size := by omega
      clear h hS hf hon he hl ho hk hr ht
      go_enter Tryd.func66, Tryd.ntmps66
      go_wp2_with fail
      refine HS.out.mono ?_
      rintro e w' ⟨rfl, rfl⟩
      go_wp2_with fail
      refine HO.out.mono ?_
      rintro e w1 ⟨rfl, hl1⟩
      have HL1 := Lib.hid hl1
      clear hl1
      go_wp2_with fail
      go_ret
      exact ⟨rfl, _, HL1.out⟩
  · unfold cutterS
    rw [if_pos he]
    generalize errF S.on f = x at HS he ⊢
    have he2 : (x == 0) = false := by simpa using he
    have he3 : (x != 0) = true := by simpa using he
    clear h hS
    go_enter Tryd.func66, Tryd.ntmps66
    go_wp2_with fail
    refine HS.out.mono ?_
    rintro e w' ⟨rfl, rfl⟩
    go_wp2_with fail
    go_ret
    exact ⟨rfl, _, HL.out⟩
theorem code_Append_nil (f : Int) (s : ByteArray) (w : World) : Calls Tryd.prog 27 #[.pointer none, .int .i64 f, .string s] w fun e w' => e = .returned (.int .i64 1) ∧ w = w' := by
  go_enter Tryd.func27, Tryd.ntmps27
  go_wp2_with fail
  refine (code_serves_nil _ _).mono ?_
  rintro e w' ⟨rfl, rfl⟩
  go_wp2_with fail
  go_ret
  exact ⟨rfl, rfl⟩
theorem code_Cut_nil (f n : Int) (w : World) : Calls Tryd.prog 66 #[.pointer none, .int .i64 f, .int .i64 n] w fun e w' => e = .returned (.int .i64 1) ∧ w = w' := by
  go_enter Tryd.func66, Tryd.ntmps66
  go_wp2_with fail
  refine (code_serves_nil _ _).mono ?_
  rintro e w' ⟨rfl, rfl⟩
  go_wp2_with fail
  go_ret
  exact ⟨rfl, rfl⟩
end Go.Proofs.YtepcfmigkhacgaaDoor.Dk
