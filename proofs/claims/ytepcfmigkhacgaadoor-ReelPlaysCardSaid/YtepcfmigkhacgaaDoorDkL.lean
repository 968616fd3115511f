/- disk: calls with known answers; the statements' small check. -/
import Derived.Test.YtepcfmigkhacgaaDoorDkK
namespace Go.Proofs.YtepcfmigkhacgaaDoor.Dk
open Go.RowKit Go.Proofs.YtepcfmigkhacgaaDoor.Gr

section
variable {B n g : Nat} {w : World} {lv : Value} {S T : St} {r : Int}
theorem Mine.appendTo (h : Mine B n w g lv S) (hn : n ≤ 1000000) (hB : B ≤ w.heap.size) {f : Int} {s : ByteArray} (hS : appendS S f s = (r, T)) : Calls Tryd.prog 27 #[.pointer (some ⟨g, 0, none⟩), .int .i64 f, .string s] w (Step B (n + 1) w g r T) := by
  have := h.append hn hB f s
  rw [hS] at this
  exact this
theorem Mine.cutTo (h : Mine B n w g lv S) (hn : n ≤ 1000000) (hB : B ≤ w.heap.size) {f m : Int} (hS : cutterS S f m = (r, T)) : Calls Tryd.prog 66 #[.pointer (some ⟨g, 0, none⟩), .int .i64 f, .int .i64 m] w (Step B (n + 1) w g r T) := by
  have := h.cut hn hB f m
  rw [hS] at this
  exact this
theorem Mine.syncTo (h : Mine B n w g lv S) (hn : n ≤ 1000000) (hB : B ≤ w.heap.size) {f : Int} (hS : syncerS S f = (r, T)) : Calls Tryd.prog 33 #[.pointer (some ⟨g, 0, none⟩), .int .i64 f] w (Step B (n + 1) w g r T) := by
  have := h.sync hn hB f
  rw [hS] at this
  exact this
theorem Mine.powerTo (h : Mine B n w g lv S) (hB : B ≤ w.heap.size) {m : Int} (hS : powerS S m = (r, T)) : Calls Tryd.prog 25 #[.pointer (some ⟨g, 0, none⟩), .int .i64 m] w (Step B n w g r T) := by
  have := h.power hB m
  rw [hS] at this
  exact this
theorem Mine.crashTo (h : Mine B n w g lv S) (hn : n ≤ 1000000) (hB : B ≤ w.heap.size) {kv : Value} {keep : List Int} (hK : KI.At w kv keep) (hS : crashS S keep = T) : Calls Tryd.prog 16 #[.pointer (some ⟨g, 0, none⟩), kv] w (Step B n w g 0 T) := by
  have := h.crash hn hB kv keep hK
  rw [hS] at this
  exact this
theorem Mine.sizeTo (h : Mine B n w g lv S) {f : Int} {m : Nat} (hS : sizeF S f = m) : Calls Tryd.prog 38 #[.pointer (some ⟨g, 0, none⟩), .int .i64 f] w fun e w' => e = .returned (.int .i64 m) ∧ w = w' := by
  rw [← hS]
  exact code_Size g lv S f w h.at_
theorem Mine.readTo (h : Mine B n w g lv S) {f a m : Int} {s : ByteArray} (hS : readV S f a m = (s, r)) : Calls Tryd.prog 39 #[.pointer (some ⟨g, 0, none⟩), .int .i64 f, .int .i64 a, .int .i64 m] w fun e w' => e = .returned (.tuple #[.string s, .int .i64 r]) ∧ w = w' := by
  have := code_Read g lv S f a m w h.at_ h.good.now
  rw [hS] at this
  exact this
theorem Mine.opsTo (h : Mine B n w g lv S) {m : Nat} (hS : S.ops = m) : Calls Tryd.prog 17 #[.pointer (some ⟨g, 0, none⟩)] w fun e w' => e = .returned (.int .i64 m) ∧ w = w' := by
  rw [← hS]
  exact code_Ops g lv S w h.at_
theorem Mine.looseTo (h : Mine B n w g lv S) {m : Nat} (hS : S.loose.length = m) : Calls Tryd.prog 29 #[.pointer (some ⟨g, 0, none⟩)] w fun e w' => e = .returned (.int .i64 m) ∧ w = w' := by
  rw [← hS]
  exact code_Loose g lv S w h.at_
theorem Mine.onTo (h : Mine B n w g lv S) {b : Bool} (hS : S.on = b) : Calls Tryd.prog 34 #[.pointer (some ⟨g, 0, none⟩)] w fun e w' => e = .returned (.bool b) ∧ w = w' := by
  rw [← hS]
  exact code_On g lv S w h.at_
end

abbrev abc : ByteArray := ⟨#[97, 98, 99]⟩
def row3 : List ByteArray := (List.replicate 64 ⟨#[]⟩).set 3 abc
def wS1 : St := ⟨row3, List.replicate 64 ⟨#[]⟩, [⟨3, 0, false, abc⟩], true, -1, 1⟩
def wS2 : St := ⟨row3, row3, [], true, -1, 2⟩
theorem w1_eq : appendS newS 3 abc = (0, wS1) := by rfl
theorem w2_eq : syncerS wS1 3 = (0, wS2) := by rfl
theorem w3_eq : crashS wS2 [] = wS2 := by rfl
theorem w1_size : sizeF wS1 3 = 3 := by rfl
theorem w1_all : allS wS1 3 = abc := by rfl
theorem w2_all : allS wS2 3 = abc := by rfl

end Go.Proofs.YtepcfmigkhacgaaDoor.Dk
