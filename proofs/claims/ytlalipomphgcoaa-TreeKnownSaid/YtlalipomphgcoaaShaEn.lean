/- The code's own: what stands behind a text's whole blocks; the tables. -/
import Derived.Test.YtlalipomphgcoaaShaGp
import Derived.Test.YtlalipomphgcoaaDigitF
namespace Go.Proofs.Ytlalipomphgcoaa.Sha
open Go.RowKit

theorem eightL_nats (n : Nat) : (Digit.eightL n).map UInt8.toNat = eightN n := by
  simp only [Digit.eightL, Digit.eightF, eightN, List.nil_append, List.cons_append, List.map_cons, List.map_nil, UInt8.toNat_ofNat', Nat.div_div_eq_div_mul]

theorem repeat_nought (n : Nat) : Lib.repeatL [0] n = List.replicate n 0 := by
  induction n with
  | zero => rfl
  | succ n ih => rw [Lib.repeatL, ih, List.replicate_succ]; rfl

/-- What stands behind a text's whole blocks, of a text of so many bytes. -/
def endL (l : List UInt8) (size : Nat) : List UInt8 := l ++ [128] ++ List.replicate ((64 - (l.length + 9) % 64) % 64) 0 ++ Digit.eightL (8 * size)

set_option maxRecDepth 100000 in
set_option maxHeartbeats 800000 in
theorem code_ending (s : ByteArray) (size : Nat) (hs : s.size ≤ 64) (hz : size ≤ 140737488355328) (w : World) :
    Calls Try.prog 33 #[.string s, .int .i64 size] w fun e w' => e = .returned (.string ⟨(endL s.data.toList size).toArray⟩) ∧ Below w.heap.size w w' := by
  obtain ⟨c, hc⟩ : ∃ c : Nat, (64 - (s.size + 9) % 64) % 64 = c := ⟨_, rfl⟩
  obtain ⟨o, ho⟩ : ∃ o : Nat, (s.size + 9) % 64 = o := ⟨_, rfl⟩
  have h1 : ((s.size : Int) + 9) % 64 = (o : Int) := by omega
  have h2 : (64 - (o : Int)) % 64 = (c : Int) := by omega
  have ho0 : (0 : Int) ≤ (o : Int) := by omega
  have ho64 : (o : Int) ≤ 63 := by omega
  have hcc : c ≤ 63 := by omega
  have HR := Lib.hid (fun w => Try.strings_Repeat ⟨#[0]⟩ c w (by omega) (by show 1 * c ≤ _; omega))
  have HE := Lib.hid (fun w => Digit.eight_any (8 * size) w (by omega))
  have HC := Lib.hid hc
  have HEL := Lib.hid (Digit.eightL_len (8 * size))
  obtain ⟨E, hE⟩ : ∃ E, Digit.eightL (8 * size) = E := ⟨_, rfl⟩
  rw [hE] at HE HEL
  have HEE := Lib.hid hE
  have hEl : E.length ≤ 8 := Nat.le_of_eq HEL.out
  clear hc ho hE
  go_enter Try.func33, Try.ntmps33
  go_wp2_with fail
  refine (HR.out _).mono ?_
  rintro e w1 ⟨rfl, hb1⟩
  obtain ⟨R, hR⟩ : ∃ R : List UInt8, Lib.repeatL [0] c = R := ⟨_, rfl⟩
  rw [hR]
  have hRl : R.length ≤ 63 := by rw [← hR, repeat_nought, List.length_replicate]; exact hcc
  have HRR := Lib.hid hR
  clear hR
  go_wp2_with fail
  rw [show (8 : Int) * (size : Int) = ((8 * size : Nat) : Int) by omega]
  refine (HE.out _).mono ?_
  rintro e w2 ⟨rfl, hb2⟩
  go_wp2_with fail
  go_ret
  refine ⟨Digit.ret_str (Digit.bytes_eq ?_), hb1.trans (hb2.mono hb1.size)⟩
  have hl : s.data.toList.length = s.size := by rw [Array.length_toList]; rfl
  simp only [endL, hl, HC.out, ByteArray.data_append, Array.toList_append, ← repeat_nought, HRR.out, HEE.out]

theorem wpList_build_as {P : Program} {ops : Array Oper} {rest : List Oper} {o : Oper} {a : Act} {w : World} {Q : Exit → Act → World → Prop} (hg : o.guard = none) (t : TypeId) (parts : Array (Nat × Operand)) (ho : o.op = .build t parts) (C : Array Value)
    (hf : P.built t (parts.map fun (i, x) => (i, a.eval x)).toList = some C) (h : wpList P ops Q rest (a.put o.dst (.agg C)) w) : wpList P ops Q (o :: rest) a w := by
  refine wpList_build hg t parts ho (by rw [hf]; rfl) ?_
  rw [hf]
  exact h

set_option maxRecDepth 100000 in
set_option maxHeartbeats 1600000 in
theorem code_cube (w : World) : Calls Try.prog 31 #[] w fun e w' => e = .returned (.agg (vals32 kL).toArray) ∧ Below w.heap.size w w' := by
  go_enter Try.func31, Try.ntmps31
  have hone : (vals32 kL).toArray.all (·.oneCell') = true := by simp only [vals32, List.all_toArray, List.all_map]; decide
  have HINF := Lib.hid (show (Try.prog.info? 48).map (·.size) = some (vals32 kL).toArray.size from info_a64)
  have hsz : 64 = (vals32 kL).toArray.size := rfl
  obtain ⟨C, hC⟩ : ∃ C, (vals32 kL).toArray = C := ⟨_, rfl⟩
  have HCC := Lib.hid hC
  rw [hC] at hone HINF hsz
  rw [hC]
  clear hC
  go_wp2_with (first | (refine wpList_build_as rfl 48 _ rfl C (by rw [← HCC.out]; kernel_rfl) ?_) | (refine wpList_store_row rfl 48 (.tmp 0) (.tmp 1) rfl w.heap.size C rfl rfl 48 _ (heap_alloc_new _ _) HINF.out hsz hone ?_; rw [World.setRow_alloc_new]))
  refine bodyPost_ret (results_cell_row (p := 0) (ty := 48) Try.results31 _ _ w.heap.size 48 C (0, 0) _ rfl (heap_alloc_new _ _) Try.underlying48 rfl HINF.out) rfl ⟨rfl, (Below.refl _ _).alloc (Nat.le_refl _) _⟩

end Go.Proofs.Ytlalipomphgcoaa.Sha
