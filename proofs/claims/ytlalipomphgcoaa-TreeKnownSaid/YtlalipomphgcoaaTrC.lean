/- The tree: rows that go up; the code's up. -/
import Derived.Test.YtlalipomphgcoaaTrB
import Derived.Test.YtlalipomphgcoaaQTail
namespace Go.Proofs.Ytlalipomphgcoaa.Tree
open Go.RowKit Go.Proofs.Ytlalipomphgcoaa.Sha

/-- A row goes up. -/
def upF : List (List UInt8) → List (List UInt8)
  | a :: b :: r => pairF a b :: upF r
  | [a] => [a]
  | [] => []
theorem upF_len : ∀ L : List (List UInt8), (upF L).length = L.length / 2 + L.length % 2
  | [] => rfl
  | [_] => by simp [upF]
  | a :: b :: r => by
    rw [upF, List.length_cons, upF_len r]
    simp only [List.length_cons]
    omega
theorem upF_two : ∀ (L : List (List UInt8)) (j : Nat) (a b : List UInt8), L[2 * j]? = some a → L[2 * j + 1]? = some b → (upF L)[j]? = some (pairF a b)
  | [], j, a, b, h, _ => by simp at h
  | [x], j, a, b, _, h => by simp at h
  | x :: y :: r, 0, a, b, h1, h2 => by
    simp at h1 h2
    subst h1 h2
    rfl
  | x :: y :: r, j + 1, a, b, h1, h2 => by
    rw [upF, List.getElem?_cons_succ]
    exact upF_two r j a b (by simpa [Nat.mul_add] using h1) (by simpa [Nat.mul_add, Nat.add_right_comm] using h2)
theorem upF_last : ∀ (L : List (List UInt8)) (j : Nat) (a : List UInt8), L[2 * j]? = some a → L.length = 2 * j + 1 → (upF L)[j]? = some a
  | [], j, a, h, _ => by simp at h
  | [x], 0, a, h, _ => by simpa [upF] using h
  | [x], j + 1, a, _, h => by simp at h
  | x :: y :: r, 0, a, _, h => by simp at h
  | x :: y :: r, j + 1, a, h1, h2 => by
    rw [upF, List.getElem?_cons_succ]
    exact upF_last r j a (by simpa [Nat.mul_add] using h1) (by simp only [List.length_cons] at h2; omega)
theorem upF_32 : ∀ (L : List (List UInt8)), H32 L → H32 (upF L)
  | [], _ => fun h hh => by simp [upF] at hh
  | [a], h => h
  | a :: b :: r, h => fun x hx => by
    rw [upF] at hx
    rcases List.mem_cons.1 hx with rfl | hx
    · rfl
    · exact upF_32 r (fun y hy => h y (by simp [hy])) x hx

/-- The place that makes a pair with i. -/
def oth (i : Nat) : Nat := i ^^^ 1
theorem oth_eq (i : Nat) : oth i = if i % 2 = 0 then i + 1 else i - 1 := by
  have h1 : (i ^^^ 1) / 2 = i / 2 := by rw [Nat.xor_div_two]; simp
  have h2 : (i ^^^ 1) % 2 = (i + 1) % 2 := by
    have h := Nat.xor_mod_two_pow (a := i) (b := 1) (n := 1)
    simp only [Nat.pow_one] at h
    rw [h]
    have : i % 2 = 0 ∨ i % 2 = 1 := by omega
    rcases this with h0 | h0 <;> rw [h0] <;> simp <;> omega
  unfold oth
  split <;> omega
theorem ofInt_i64 (a : Nat) (ha : a < 18446744073709551616) : (BitVec.ofInt 64 (a : Int)).toNat = a := by
  rw [BitVec.ofInt_natCast, BitVec.toNat_ofNat]; exact Nat.mod_eq_of_lt (by omega)
theorem i64_xor_one (a : Nat) (ha : a < 9223372036854775808) : bits .xor .i64 (a : Int) 1 = ((oth a : Nat) : Int) := by
  have hx : a ^^^ 1 < 2 ^ 63 := Nat.xor_lt_two_pow (by omega) (by omega)
  show IntKind.i64.wrap ((BitVec.ofInt 64 (a : Int) ^^^ BitVec.ofInt 64 ((1 : Nat) : Int)).toNat : Int) = _
  rw [BitVec.toNat_xor, ofInt_i64 a (by omega), ofInt_i64 1 (by omega), IntKind.wrap_i64]
  unfold oth
  omega

theorem code_other (i : Nat) (hi : i < 9223372036854775808) (w : World) : Calls Try.prog 41 #[.int .i64 i] w fun e w' => e = .returned (.int .i64 (oth i)) ∧ w' = w := by
  have hx := i64_xor_one i hi
  go_enter Try.func41, Try.ntmps41
  go_wp2
  go_ret
  exact ⟨rfl, rfl⟩
theorem code_above (n : Nat) (hn : n < 9223372036854775808) (w : World) : Calls Try.prog 50 #[.int .i64 n] w fun e w' => e = .returned (.int .i64 ((n / 2 + n % 2 : Nat) : Int)) ∧ w' = w := by
  go_enter Try.func50, Try.ntmps50
  go_wp2
  go_ret
  exact ⟨by simp, rfl⟩

/-- An array in the middle of a row, read in a region that draws and whose callees make memory. -/
theorem quiet_load_mid {P : Program} {op : Oper} {a : Act} {W : World} {K : Act → Prop} (ty : TypeId) (x : Operand) (ho : op.op = .load ty x) (b o : Nat) (hx : a.eval x = .pointer (some ⟨b, o, none⟩)) (cs : List Value) (d : TypeDesc)
    (hW : W.rangeAt b o cs) (hu : P.underlying ty = some d) (hd : d.isRow = true) (hi : (P.info? ty).map (·.size) = some cs.length)
    (h : K (a.put op.dst (.agg cs.toArray))) : op.quiet P a (fun w' => ∃ p : Regrown, w' = Sort.grow (redrawn W p.d) p.os) K := by
  refine ⟨.agg cs.toArray, ?_, h⟩
  rintro w' ⟨p, rfl⟩
  unfold Oper.quietAt execOp
  have hr : (Sort.grow (redrawn W p.d) p.os).rangeAt b o cs := fun j v hv => cell_regrown (hW j v hv) p.d p.os
  simp only [ho, hx, Instr.loadAt, Instr.sureAddr, Sem.run_bind, Sem.run_pure, Result.andThen_ok, run_loadVar_mid _ b o ty cs d hr hu hd hi]
  exact ⟨rfl, rfl⟩

theorem regrown_same {P : Program} {f : FuncId} {args : Array Value} {w : World} {d : Nat} {os : Array Obj} {v : Value}
    (h : Calls P f args (Sort.grow (redrawn w d) os) fun e w' => e = .returned v ∧ w' = Sort.grow (redrawn w d) os) : Calls P f args (Sort.grow (redrawn w d) os) fun e w'' => e = .returned v ∧ ∃ p : Regrown, w'' = Sort.grow (redrawn w p.d) p.os :=
  h.mono fun _ _ ⟨he, hw⟩ => ⟨he, ⟨⟨d, os⟩, hw⟩⟩

theorem info_len (h : List UInt8) (hl : h.length = 32) : (Try.prog.info? 23).map (·.size) = some (valsB h).length := by rw [valsB_len, hl]; exact info_hash

set_option maxRecDepth 100000 in
set_option maxHeartbeats 1600000 in
/-- What a row's last hash, which has no other one, becomes. -/
theorem code_up1_last (bx g n cap f : Nat) (a : List UInt8) (ha : a.length = 32) (hf : f % 2 = 0) (hn : n = f + 1) (hn63 : n < 9223372036854775808) (w : World) (hb : w.cell? ⟨bx, 0, none⟩ = some (.slice (some ⟨g, 0, none⟩) n cap)) (hr : w.rangeAt g (f * 32) (valsB a)) :
    Calls Try.prog 67 #[.int .i64 f, .pointer (some ⟨bx, 0, none⟩)] w fun e w' => e = .returned (.agg (valsB a).toArray) ∧ Below w.heap.size w w' := by
  have HO := Lib.hid (fun w => code_other f (by omega) w)
  have ho : oth f = n := by rw [oth_eq, if_pos hf]; omega
  rw [ho] at HO
  have HR := Lib.hid (row32 a ha)
  have HIL := Lib.hid (info_len a ha)
  have hfn : (f : Int) < (n : Int) := by omega
  have hf0 : (0 : Int) ≤ (f : Int) := by omega
  have heq : ((n : Int) == (n : Int)) = true := by simp
  clear hn ho hf
  go_enter Try.func67, Try.ntmps67
  go_upto_region 1 with (fail)
  rw [zero32]
  obtain ⟨Z, hZ⟩ : ∃ Z, (List.replicate 32 (Value.int .u8 0)).toArray = Z := ⟨_, rfl⟩
  have HZS := Lib.hid (show Z.size = 32 by rw [← hZ]; rfl)
  rw [hZ]
  clear hZ
  have hba : Below w.heap.size w (w.alloc (.cells Z 23)) := (Below.refl _ _).alloc (Nat.le_refl _) _
  have HG := Lib.hid (heap_alloc_new w (.cells Z 23))
  have hcb := (hba.cell (World.block_lt_of_cell? _ _ hb)).trans hb
  have HRG := Lib.hid (range_kept hba hr)
  have HBA := Lib.hid hba
  clear hb hr hba
  generalize w.alloc (.cells Z 23) = W at hcb HG HRG HBA ⊢
  go_quiet ((go_at_call 41; with_reducible exact Calls.quiet_of_same (HO.out _)))
  obtain ⟨C, hC⟩ : ∃ C, (valsB a).toArray = C := ⟨_, rfl⟩
  rw [hC] at HR
  have HCC := Lib.hid hC
  have HZC := Lib.hid (show Z.size = C.size by rw [HZS.out, HR.out.size])
  clear hC
  have HRG2 := Lib.hid (show (W.drewN nq).rangeAt g (f * 32) (valsB a) from HRG.out)
  have HG2 := Lib.hid (show (W.drewN nq).heap[w.heap.size]? = some (.cells Z 23 (0, 0)) from HG.out)
  go_wp2_with (first | (refine wpList_load_mid rfl 23 (.tmp 11) rfl g (f * 32) (by simp [Act.eval]) (valsB a) _ HRG2.out Try.underlying23 rfl HIL.out ?_; rw [HCC.out]) | (refine wpList_store_row rfl 23 (.tmp 3) (.tmp 12) rfl w.heap.size C rfl rfl 23 Z HG2.out HR.out.info HZC.out HR.out.one ?_))
  refine bodyPost_ret (results_cell_row (p := 3) (ty := 23) Try.results67 _ _ w.heap.size 23 C (0, 0) _ rfl (setRow_heap _ _ _ _ _ _ HG2.out) Try.underlying23 rfl HR.out.info) rfl ⟨by rw [HCC.out], below_setRow (bdrewN HBA.out nq) (Nat.le_refl _) _⟩

set_option maxRecDepth 100000 in
set_option maxHeartbeats 3200000 in
/-- What two hashes of a row become. -/
theorem code_up1_two (bx g n cap f : Nat) (a b : List UInt8) (ha : a.length = 32) (hb : b.length = 32) (hf : f % 2 = 0) (hn : f + 1 < n) (hn63 : n < 9223372036854775808) (w : World) (hbx : w.cell? ⟨bx, 0, none⟩ = some (.slice (some ⟨g, 0, none⟩) n cap)) (hr : w.rangeAt g (f * 32) (valsB a)) (hr2 : w.rangeAt g ((f + 1) * 32) (valsB b)) :
    Calls Try.prog 67 #[.int .i64 f, .pointer (some ⟨bx, 0, none⟩)] w fun e w' => e = .returned (.agg (valsB (pairF a b)).toArray) ∧ Below w.heap.size w w' := by
  have HO := Lib.hid (fun w => code_other f (by omega) w)
  obtain ⟨q, hq⟩ : ∃ q, f + 1 = q := ⟨_, rfl⟩
  have ho : oth f = q := by rw [oth_eq, if_pos hf]; omega
  rw [ho] at HO
  rw [hq] at hr2 hn
  have HRA := Lib.hid (row32 a ha)
  have HRB := Lib.hid (row32 b hb)
  have HRD := Lib.hid (row32 (pairF a b) rfl)
  have HIA := Lib.hid (info_len a ha)
  have HIB := Lib.hid (info_len b hb)
  have HP := Lib.hid (fun w => code_pair a b ha hb w)
  have hfn : (f : Int) < (n : Int) := by omega
  have hf0 : (0 : Int) ≤ (f : Int) := by omega
  have hqn : (q : Int) < (n : Int) := by omega
  have hq0 : (0 : Int) ≤ (q : Int) := by omega
  have heq : ((q : Int) == (n : Int)) = false := by simp; omega
  clear ho hf hq hn
  go_enter Try.func67, Try.ntmps67
  go_upto_region 1 with (fail)
  rw [zero32]
  obtain ⟨Z, hZ⟩ : ∃ Z, (List.replicate 32 (Value.int .u8 0)).toArray = Z := ⟨_, rfl⟩
  have HZS := Lib.hid (show Z.size = 32 by rw [← hZ]; rfl)
  rw [hZ]
  clear hZ
  have hba : Below w.heap.size w (w.alloc (.cells Z 23)) := (Below.refl _ _).alloc (Nat.le_refl _) _
  have HG := Lib.hid (heap_alloc_new w (.cells Z 23))
  have hlt : w.heap.size < (w.alloc (.cells Z 23)).heap.size := by simp
  have hcb := (hba.cell (World.block_lt_of_cell? _ _ hbx)).trans hbx
  have HRG := Lib.hid (range_kept hba hr)
  have HRG2 := Lib.hid (range_kept hba hr2)
  have HBA := Lib.hid hba
  clear hbx hr hr2 hba
  generalize w.alloc (.cells Z 23) = W0 at hcb HG HRG HRG2 HBA hlt ⊢
  go_quiet ((go_at_call 41; with_reducible exact Calls.quiet_of_same (HO.out _)))
  have hcb2 : (W0.drewN nq).cell? ⟨bx, 0, none⟩ = some (.slice (some ⟨g, 0, none⟩) n cap) := hcb
  have HG2 := Lib.hid (show (W0.drewN nq).heap[w.heap.size]? = some (.cells Z 23 (0, 0)) from HG.out)
  have HRGA := Lib.hid (show (W0.drewN nq).rangeAt g (f * 32) (valsB a) from HRG.out)
  have HRGB := Lib.hid (show (W0.drewN nq).rangeAt g (q * 32) (valsB b) from HRG2.out)
  have HB0 := Lib.hid (bdrewN HBA.out nq)
  have hlt2 : w.heap.size < (W0.drewN nq).heap.size := hlt
  clear hcb HG HRG HRG2 HBA hlt
  go_wp2_with fail
  generalize W0.drewN nq = W at hcb2 HG2 HRGA HRGB HB0 hlt2 ⊢
  have hcr := fun d os => cell_regrown hcb2 d os
  have HCA := Lib.hid (show (valsB a).toArray = (valsB a).toArray from rfl)
  obtain ⟨D, hD⟩ : ∃ D, (valsB (pairF a b)).toArray = D := ⟨_, rfl⟩
  rw [hD] at HP HRD
  have HDD := Lib.hid hD
  clear hD
  refine QT.wp_region_below_tail 10 (by kernel_rfl) (by kernel_rfl) ?_
  simp only [List.take_succ_cons, List.take_zero, List.drop_succ_cons, List.drop_zero]
  repeat (first
    | (refine wpQuiet_step (fun K hK => ?_); rw [if_pos (by rfl)]; refine quiet_load_mid 23 (.tmp 15) rfl g (f * 32) (by simp [Act.eval]) (valsB a) _ HRGA.out Try.underlying23 rfl HIA.out ?_; refine hK _ ?_; clear hK K)
    | (refine wpQuiet_step (fun K hK => ?_); rw [if_pos (by rfl)]; refine quiet_load_mid 23 (.tmp 20) rfl g (q * 32) (by simp [Act.eval]) (valsB b) _ HRGB.out Try.underlying23 rfl HIB.out ?_; refine hK _ ?_; clear hK K)
    | (quiet_step (first | (with_reducible exact regrown_same (HO.out _)) | (with_reducible exact Calls.regrown_of (HP.out _)))))
  refine wpQuiet_nil ?_
  intro _ hw'
  obtain ⟨⟨dq, osq⟩, hw''⟩ := hw'
  subst hw''
  have hbq := below_regrown W dq osq
  dsimp only
  generalize Sort.grow (redrawn W dq) osq = w3 at hbq ⊢
  have HZ3 := Lib.hid ((hbq.block _ hlt2).trans HG2.out)
  have HB3 := Lib.hid (HB0.out.trans (hbq.mono (Nat.le_of_lt hlt2)))
  have HZD := Lib.hid (show Z.size = D.size by rw [HZS.out, HRD.out.size])
  clear hbq
  go_wp2_with (refine wpList_store_row rfl 23 (.tmp 3) (.tmp 22) rfl w.heap.size D rfl rfl 23 Z HZ3.out HRD.out.info HZD.out HRD.out.one ?_)
  refine bodyPost_ret (results_cell_row (p := 3) (ty := 23) Try.results67 _ _ w.heap.size 23 D (0, 0) _ rfl (setRow_heap _ _ _ _ _ _ HZ3.out) Try.underlying23 rfl HRD.out.info) rfl ⟨by rw [HDD.out], below_setRow HB3.out (Nat.le_refl _) _⟩

end Go.Proofs.Ytlalipomphgcoaa.Tree
