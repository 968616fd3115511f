/- disk: calls with known answers; the statements' small check. -/
import Derived.Test.YtoacnhiophgfcaaDkK
namespace Go.Proofs.Ytoacnhiophgfcaa.Dk
open Go.RowKit Go.Proofs.Ytoacnhiophgfcaa.Gr

section
variable {B n g : Nat} {w : World} {lv : Value} {S T : St} {r : Int}
theorem Mine.appendTo (h : Mine B n w g lv S) (hn : n ≤ 1000000) (hB : B ≤ w.heap.size) {f : Int} {s : ByteArray} (hS : appendS S f s = (r, T)) : Calls Try.prog 10 #[.pointer (some ⟨g, 0, none⟩), .int .i64 f, .string s] w (Step B (n + 1) w g r T) := by
  have := h.append hn hB f s
  rw [hS] at this
  exact this
theorem Mine.cutTo (h : Mine B n w g lv S) (hn : n ≤ 1000000) (hB : B ≤ w.heap.size) {f m : Int} (hS : cutterS S f m = (r, T)) : Calls Try.prog 18 #[.pointer (some ⟨g, 0, none⟩), .int .i64 f, .int .i64 m] w (Step B (n + 1) w g r T) := by
  have := h.cut hn hB f m
  rw [hS] at this
  exact this
theorem Mine.syncTo (h : Mine B n w g lv S) (hn : n ≤ 1000000) (hB : B ≤ w.heap.size) {f : Int} (hS : syncerS S f = (r, T)) : Calls Try.prog 15 #[.pointer (some ⟨g, 0, none⟩), .int .i64 f] w (Step B (n + 1) w g r T) := by
  have := h.sync hn hB f
  rw [hS] at this
  exact this
theorem Mine.powerTo (h : Mine B n w g lv S) (hB : B ≤ w.heap.size) {m : Int} (hS : powerS S m = (r, T)) : Calls Try.prog 19 #[.pointer (some ⟨g, 0, none⟩), .int .i64 m] w (Step B n w g r T) := by
  have := h.power hB m
  rw [hS] at this
  exact this
theorem Mine.crashTo (h : Mine B n w g lv S) (hn : n ≤ 1000000) (hB : B ≤ w.heap.size) {kv : Value} {keep : List Int} (hK : KI.At w kv keep) (hS : crashS S keep = T) : Calls Try.prog 16 #[.pointer (some ⟨g, 0, none⟩), kv] w (Step B n w g 0 T) := by
  have := h.crash hn hB kv keep hK
  rw [hS] at this
  exact this
theorem Mine.allTo (h : Mine B n w g lv S) {f : Int} {s : ByteArray} (hS : allS S f = s) : Calls Try.prog 17 #[.pointer (some ⟨g, 0, none⟩), .int .i64 f] w fun e w' => e = .returned (.string s) ∧ w = w' := by
  rw [← hS]
  exact h.all f
theorem Mine.sizeTo (h : Mine B n w g lv S) {f : Int} {m : Nat} (hS : sizeF S f = m) : Calls Try.prog 11 #[.pointer (some ⟨g, 0, none⟩), .int .i64 f] w fun e w' => e = .returned (.int .i64 m) ∧ w = w' := by
  rw [← hS]
  exact code_Size g lv S f w h.at_
theorem Mine.readTo (h : Mine B n w g lv S) {f a m : Int} {s : ByteArray} (hS : readV S f a m = (s, r)) : Calls Try.prog 14 #[.pointer (some ⟨g, 0, none⟩), .int .i64 f, .int .i64 a, .int .i64 m] w fun e w' => e = .returned (.tuple #[.string s, .int .i64 r]) ∧ w = w' := by
  have := code_Read g lv S f a m w h.at_ h.good.now
  rw [hS] at this
  exact this
theorem Mine.opsTo (h : Mine B n w g lv S) {m : Nat} (hS : S.ops = m) : Calls Try.prog 13 #[.pointer (some ⟨g, 0, none⟩)] w fun e w' => e = .returned (.int .i64 m) ∧ w = w' := by
  rw [← hS]
  exact code_Ops g lv S w h.at_
theorem Mine.looseTo (h : Mine B n w g lv S) {m : Nat} (hS : S.loose.length = m) : Calls Try.prog 12 #[.pointer (some ⟨g, 0, none⟩)] w fun e w' => e = .returned (.int .i64 m) ∧ w = w' := by
  rw [← hS]
  exact code_Loose g lv S w h.at_
theorem Mine.onTo (h : Mine B n w g lv S) {b : Bool} (hS : S.on = b) : Calls Try.prog 20 #[.pointer (some ⟨g, 0, none⟩)] w fun e w' => e = .returned (.bool b) ∧ w = w' := by
  rw [← hS]
  exact code_On g lv S w h.at_
end

abbrev abc : ByteArray := ⟨#[97, 98, 99]⟩
def row3 : List ByteArray := (List.replicate 64 ⟨#[]⟩).set 3 abc
def wS1 : St := ⟨row3, List.replicate 64 ⟨#[]⟩, [⟨3, 0, false, abc⟩], true, -1, 1⟩
def wS2 : St := ⟨row3, row3, [], true, -1, 2⟩
theorem w1_eq : appendS newS 3 abc = (0, wS1) := by rfl
theorem w2_eq : syncerS wS1 3 = (0, wS2) := by rfl
theorem w3_eq : crashS wS2 [] = wS2 := by rfl
theorem w1_size : sizeF wS1 3 = 3 := by rfl
theorem w1_all : allS wS1 3 = abc := by rfl
theorem w2_all : allS wS2 3 = abc := by rfl

set_option maxRecDepth 100000 in
set_option maxHeartbeats 3200000 in
theorem works_any (w : World) : Calls Try.prog 9 #[] w fun e w' => e = .returned (.bool true) ∧ Below w.heap.size w w' := by
  go_enter Try.func9, Try.ntmps9
  go_wp2_with fail
  refine (code_New _).mono ?_
  rintro e w0 ⟨rfl, hd0, hb0⟩
  obtain ⟨B, hB⟩ : ∃ B, w.heap.size = B := ⟨_, rfl⟩
  rw [hB] at hd0 hb0 ⊢
  have HM0 := Lib.hid (mine_new hd0 good_new (Nat.le_refl B))
  have HS0 := Lib.hid (show B ≤ w0.heap.size by rw [← hB]; exact hb0.size)
  have HB0 := Lib.hid hb0
  clear hd0 hb0
  have HBB := Lib.hid hB
  clear hB
  go_wp2_with fail
  refine (HM0.out.appendTo (by decide) HS0.out w1_eq).mono ?_
  rintro e w1 ⟨rfl, hb, lv1, hm⟩
  have HM1 := Lib.hid hm
  have HS1 := Lib.hid (Nat.le_trans HS0.out hb.size)
  have HB1 := Lib.hid (HB0.out.trans hb)
  clear hm hb HM0 HS0 HB0
  go_wp2_with fail
  refine (HM1.out.sizeTo w1_size).mono ?_
  rintro e w' ⟨rfl, rfl⟩
  go_wp2_with fail
  refine (HM1.out.allTo w1_all).mono ?_
  rintro e w' ⟨rfl, rfl⟩
  go_wp2_with fail
  refine (HM1.out.opsTo rfl).mono ?_
  rintro e w' ⟨rfl, rfl⟩
  go_wp2_with fail
  refine (HM1.out.looseTo rfl).mono ?_
  rintro e w' ⟨rfl, rfl⟩
  go_wp2_with fail
  refine (HM1.out.syncTo (by decide) HS1.out w2_eq).mono ?_
  rintro e w2 ⟨rfl, hb, lv2, hm⟩
  have HM2 := Lib.hid hm
  have HS2 := Lib.hid (Nat.le_trans HS1.out hb.size)
  have HB2 := Lib.hid (HB1.out.trans hb)
  clear hm hb HM1 HS1 HB1
  go_wp2_with fail
  refine (HM2.out.crashTo (by decide) HS2.out (Kind.At.nil _ _) w3_eq).mono ?_
  rintro e w3 ⟨rfl, hb, lv3, hm⟩
  have HM3 := Lib.hid hm
  have HS3 := Lib.hid (Nat.le_trans HS2.out hb.size)
  have HB3 := Lib.hid (HB2.out.trans hb)
  clear hm hb HM2 HS2 HB2
  go_wp2_with fail
  refine (HM3.out.allTo w2_all).mono ?_
  rintro e w' ⟨rfl, rfl⟩
  go_wp2_with fail
  refine (HM3.out.onTo rfl).mono ?_
  rintro e w' ⟨rfl, rfl⟩
  go_wp2_with fail
  go_ret
  exact ⟨rfl, by rw [HBB.out]; exact HB3.out⟩
end Go.Proofs.Ytoacnhiophgfcaa.Dk
