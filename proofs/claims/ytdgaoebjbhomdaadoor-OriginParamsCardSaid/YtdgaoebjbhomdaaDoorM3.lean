/- The code's own: what stands behind a text's whole blocks; the tables. -/
import Derived.Test.YtdgaoebjbhomdaaDoorM1
import Derived.Test.YtdgaoebjbhomdaaDoorM2
import Derived.Lib.QuietBelow
import Derived.Stop.BytesEq
import Derived.Deep.AppendLies
import Derived.OwnWalk
import Derived.Lib.SmallJoins
import Derived.Deep.RegionHeld3
import Derived.Laws.BytesArg
namespace Go.Proofs.YtdgaoebjbhomdaaDoor.Sha
open Go.RowKit

theorem eightL_nats (n : Nat) : (Digit.eightL n).map UInt8.toNat = eightN n := by
  simp only [Digit.eightL, Digit.eightF, eightN, List.nil_append, List.cons_append, List.map_cons, List.map_nil, UInt8.toNat_ofNat', Nat.div_div_eq_div_mul]

theorem repeat_nought (n : Nat) : Lib.repeatL [0] n = List.replicate n 0 := by
  induction n with
  | zero => rfl
  | succ n ih => rw [Lib.repeatL, ih, List.replicate_succ]; rfl

/-- What stands behind a text's whole blocks, of a text of so many bytes. -/
def endL (l : List UInt8) (size : Nat) : List UInt8 := l ++ [128] ++ List.replicate ((64 - (l.length + 9) % 64) % 64) 0 ++ Digit.eightL (8 * size)

set_option maxRecDepth 100000 in
set_option maxHeartbeats 800000 in
theorem code_ending (s : ByteArray) (size : Nat) (hs : s.size ≤ 64) (hz : size ≤ 140737488355328) (w : World) :
    Calls Tryd.prog 87 #[.string s, .int .i64 size] w fun e w' => e = .returned (.string ⟨(endL s.data.toList size).toArray⟩) ∧ Below w.heap.size w w' := by
  obtain ⟨c, hc⟩ : ∃ c : Nat, (64 - (s.size + 9) % 64) % 64 = c := ⟨_, rfl⟩
  obtain ⟨o, ho⟩ : ∃ o : Nat, (s.size + 9) % 64 = o := ⟨_, rfl⟩
  have h1 : ((s.size : Int) + 9) % 64 = (o : Int) := by omega
  have h2 : (64 - (o : Int)) % 64 = (c : Int) := by omega
  have ho0 : (0 : Int) ≤ (o : Int) := by omega
  have ho64 : (o : Int) ≤ 63 := by omega
  have hcc : c ≤ 63 := by omega
  have HR := Lib.hid (fun w => Tryd.strings_Repeat ⟨#[0]⟩ c w (by omega) (by show 1 * c ≤ _; omega))
  have HE := Lib.hid (fun w => Digit.eight_any (8 * size) w (by omega))
  have HC := Lib.hid hc
  have HEL := Lib.hid (Digit.eightL_len (8 * size))
  obtain ⟨E, hE⟩ : ∃ E, Digit.eightL (8 * size) = E := ⟨_, rfl⟩
  rw [hE] at HE HEL
  have HEE := Lib.hid hE
  have hEl : E.length ≤ 8 := Nat.le_of_eq HEL.out
  clear hc ho hE
  go_enter Tryd.func87, Tryd.ntmps87
  go_wp2_with fail
  refine (HR.out _).mono ?_
  rintro e w1 ⟨rfl, hb1⟩
  obtain ⟨R, hR⟩ : ∃ R : List UInt8, Lib.repeatL [0] c = R := ⟨_, rfl⟩
  rw [hR]
  have hRl : R.length ≤ 63 := by rw [← hR, repeat_nought, List.length_replicate]; exact hcc
  have HRR := Lib.hid hR
  clear hR
  go_wp2_with fail
  rw [show (8 : Int) * (size : Int) = ((8 * size : Nat) : Int) by omega]
  refine (HE.out _).mono ?_
  rintro e w2 ⟨rfl, hb2⟩
  go_wp2_with fail
  go_ret
  refine ⟨Digit.ret_str (Digit.bytes_eq ?_), hb1.trans (hb2.mono hb1.size)⟩
  have hl : s.data.toList.length = s.size := by rw [Array.length_toList]; rfl
  simp only [endL, hl, HC.out, ByteArray.data_append, Array.toList_append, ← repeat_nought, HRR.out, HEE.out]

theorem wpList_build_as {P : Program} {ops : Array Oper} {rest : List Oper} {o : Oper} {a : Act} {w : World} {Q : Exit → Act → World → Prop} (hg : o.guard = none) (t : TypeId) (parts : Array (Nat × Operand)) (ho : o.op = .build t parts) (C : Array Value)
    (hf : P.built t (parts.map fun (i, x) => (i, a.eval x)).toList = some C) (h : wpList P ops Q rest (a.put o.dst (.agg C)) w) : wpList P ops Q (o :: rest) a w := by
  refine wpList_build hg t parts ho (by rw [hf]; rfl) ?_
  rw [hf]
  exact h

set_option maxRecDepth 100000 in
set_option maxHeartbeats 1600000 in
theorem code_cube (w : World) : Calls Tryd.prog 85 #[] w fun e w' => e = .returned (.agg (vals32 kL).toArray) ∧ Below w.heap.size w w' := by
  go_enter Tryd.func85, Tryd.ntmps85
  have hone : (vals32 kL).toArray.all (·.oneCell') = true := by simp only [vals32, List.all_toArray, List.all_map]; decide
  have HINF := Lib.hid (show (Tryd.prog.info? 138).map (·.size) = some (vals32 kL).toArray.size from info_a64)
  have hsz : 64 = (vals32 kL).toArray.size := rfl
  obtain ⟨C, hC⟩ : ∃ C, (vals32 kL).toArray = C := ⟨_, rfl⟩
  have HCC := Lib.hid hC
  rw [hC] at hone HINF hsz
  rw [hC]
  clear hC
  go_wp2_with (first | (refine wpList_build_as rfl 138 _ rfl C (by rw [← HCC.out]; kernel_rfl) ?_) | (refine wpList_store_row rfl 138 (.tmp 0) (.tmp 1) rfl w.heap.size C rfl rfl 138 _ (heap_alloc_new _ _) HINF.out hsz hone ?_; rw [World.setRow_alloc_new]))
  refine bodyPost_ret (results_cell_row (p := 0) (ty := 138) Tryd.results85 _ _ w.heap.size 138 C (0, 0) _ rfl (heap_alloc_new _ _) Tryd.underlying138 rfl HINF.out) rfl ⟨rfl, (Below.refl _ _).alloc (Nat.le_refl _) _⟩

end Go.Proofs.YtdgaoebjbhomdaaDoor.Sha

namespace Go.Proofs.YtdgaoebjbhomdaaDoor.Sha
open Go.RowKit

def h0 : EightW := ⟨1779033703, 3144134277, 1013904242, 2773480762, 1359893119, 2600822924, 528734635, 1541459225⟩
theorem h0_low : LowE h0 := ⟨by decide, by decide, by decide, by decide, by decide, by decide, by decide, by decide⟩
/-- A text's sum, as bytes. -/
def shaS (s : ByteArray) : List UInt8 := (shaL (natsOf s)).map UInt8.ofNat
theorem shaS_eq (s : ByteArray) : shaS s = hashB (blocks ((padL (natsOf s)).length / 64) h0 (padL (natsOf s))) := rfl
theorem shaS_length (s : ByteArray) : (shaS s).length = 32 := rfl

theorem blocks_append (m n : Nat) : ∀ (v : EightW) (a b : List Nat), a.length = 64 * m → blocks (m + n) v (a ++ b) = blocks n (blocks m v a) b := by
  induction m with
  | zero =>
    intro v a b h
    obtain rfl : a = [] := List.eq_nil_of_length_eq_zero (by omega)
    rw [Nat.zero_add]
    rfl
  | succ m ih =>
    intro v a b h
    rw [show m + 1 + n = (m + n) + 1 by omega, blocks, blocks, List.take_append_of_le_length (by omega), List.drop_append_of_le_length (by omega)]
    exact ih _ _ _ (by rw [List.length_drop]; omega)

theorem natsOf_mk (l : List UInt8) : natsOf ⟨l.toArray⟩ = l.map UInt8.toNat := by simp [natsOf]

theorem end_nats (s : ByteArray) (a : Nat) (ha : a = s.size - s.size % 64) :
    (natsOf s).take a ++ natsOf ⟨(endL (s.extract a s.size).data.toList s.size).toArray⟩ = padL (natsOf s) := by
  have hl := natsOf_length s
  have hx : natsOf (s.extract a s.size) = (natsOf s).drop a := by
    rw [natsOf_extract, List.take_of_length_le (by rw [List.length_drop, hl]; exact Nat.le_refl _)]
  have hxl : (s.extract a s.size).data.toList.length = s.size % 64 := by
    rw [Array.length_toList]
    show (s.extract a s.size).size = _
    simp
    omega
  rw [natsOf_mk (endL _ _), endL, hxl, padL, hl]
  simp only [List.map_append, List.map_replicate, eightL_nats, List.map_cons, List.map_nil]
  rw [show (s.extract a s.size).data.toList.map UInt8.toNat = natsOf (s.extract a s.size) from rfl, hx]
  rw [show (64 - (s.size % 64 + 9) % 64) % 64 = (119 - s.size % 64) % 64 by omega, Nat.mul_comm 8]
  simp only [← List.append_assoc, List.take_append_drop]
  rfl

theorem blocks_low (n : Nat) : ∀ (v : EightW) (l : List Nat), LowE v → LowE (blocks n v l) := by
  induction n with
  | zero => intro v l h; exact h
  | succ n ih => intro v l _; exact ih _ _ (addE_low _ _)

set_option maxRecDepth 100000 in
set_option maxHeartbeats 1600000 in
theorem code_sum (s : ByteArray) (hs : s.size ≤ 140737488355232) (w : World) :
    Calls Tryd.prog 67 #[.string s] w fun e w' => e = .returned (.agg (valsB (shaS s)).toArray) ∧ Below w.heap.size w w' := by
  obtain ⟨r, hr⟩ : ∃ r : Nat, s.size % 64 = r := ⟨_, rfl⟩
  obtain ⟨a, ha⟩ : ∃ a : Nat, s.size - r = a := ⟨_, rfl⟩
  have hrs : r ≤ s.size := by omega
  have hr64 : r ≤ 63 := by omega
  have has : a ≤ s.size := by omega
  have h1 : (s.size : Int) % 64 = (r : Int) := by omega
  have h2 : (s.size : Int) - (r : Int) = (a : Int) := by omega
  have HEND := Lib.hid (end_nats s a (by omega))
  have HR := Lib.hid hr
  have HA := Lib.hid ha
  clear hr ha
  go_enter Tryd.func67, Tryd.ntmps67
  go_wp2_with fail
  refine (code_square _).mono ?_
  rintro e w1 ⟨rfl, hb1⟩
  go_wp2_with fail
  refine (code_cube _).mono ?_
  rintro e w2 ⟨rfl, hb2⟩
  obtain ⟨Z, hZ⟩ : ∃ Z, (List.replicate 32 (Value.int .u8 0)).toArray = Z := ⟨_, rfl⟩
  have HZS := Lib.hid (show Z.size = 32 by rw [← hZ]; rfl)
  have hb1' : Below (w.alloc (.cells Z 29)).heap.size (w.alloc (.cells Z 29)) w1 := by rw [← hZ]; exact hb1
  have hs1 : w.heap.size + 1 ≤ w1.heap.size := by
    have := hb1'.size
    simp at this
    exact this
  have hs2 : w.heap.size + 1 ≤ w2.heap.size := Nat.le_trans hs1 hb2.size
  have HB := Lib.hid (((Below.refl w.heap.size w).alloc (Nat.le_refl _) (.cells Z 29)).trans ((hb1'.mono (by simp)).trans (hb2.mono (Nat.le_trans (Nat.le_succ _) hs1))))
  have HZ := Lib.hid ((hb2.block w.heap.size hs1).trans ((hb1'.block w.heap.size (by simp)).trans (heap_alloc_new w (.cells Z 29))))
  clear hb1 hb1' hb2 hs1 hZ
  go_upto_region 2 with (first | (refine wpList_store_row rfl 136 (.tmp 3) (.tmp 6) rfl w2.heap.size (vals32 hL).toArray rfl rfl 136 _ (heap_alloc2_old _ _ _) info_a8 rfl (rowE_one h0) ?_) | (refine wpList_store_row rfl 138 (.tmp 4) (.tmp 7) rfl (w2.heap.size + 1) (vals32 kL).toArray rfl rfl 138 _ ((setRow_other _ _ _ _ (by omega)).trans (heap_alloc2_new _ _ _)) info_a64 rfl (by simp only [vals32, List.all_toArray, List.all_map]; decide) ?_))
  generalize hW : (World.setRow (World.setRow _ _ _) _ _) = W
  have HG1 := Lib.hid (show W.heap[w2.heap.size]? = some (.cells (rowE h0) 136 (0, 0)) by
    rw [← hW]
    exact (setRow_other _ _ _ _ (by omega)).trans (setRow_heap _ _ _ _ _ _ (heap_alloc2_old _ _ _)))
  have HG2 := Lib.hid (show W.heap[w2.heap.size + 1]? = some (.cells (vals32 kL).toArray 138 (0, 0)) by
    rw [← hW]
    exact setRow_heap _ _ _ _ _ _ ((setRow_other _ _ _ _ (by omega)).trans (heap_alloc2_new _ _ _)))
  have HGZ := Lib.hid (show W.heap[w.heap.size]? = some (.cells Z 29 (0, 0)) by
    rw [← hW]
    exact (setRow_other _ _ _ _ (by omega)).trans ((setRow_other _ _ _ _ (by omega)).trans ((Below.heap_alloc _ _ _ (by simp; omega)).trans ((Below.heap_alloc _ _ _ (by omega)).trans HZ.out))))
  have HBW := Lib.hid (show Below w.heap.size w W by
    rw [← hW]
    exact below_setRow (below_setRow ((HB.out.alloc (by omega) _).alloc (by simp; omega) _) (by omega) _) (by omega) _)
  clear hW
  have hlx : (s.extract 0 a).size = a := by simp; omega
  have hlt : ((s.extract a s.size)).size = r := by simp; have := HA.out; omega
  have ham : a = 64 * (a / 64) := by have := HA.out; have := HR.out; omega
  have HGO := Lib.hid (code_goOn (s.extract 0 a) (a / 64) (by rw [hlx]; exact ham) (by rw [hlx]; omega) w2.heap.size (w2.heap.size + 1) h0 h0_low W (by omega) HG1.out HG2.out)
  have HEN := Lib.hid (fun w => code_ending (s.extract a s.size) s.size (by rw [hlt]; omega) (by omega) w)
  have HLT := Lib.hid hlt
  have HLX := Lib.hid hlx
  have HAM := Lib.hid ham
  clear hlx hlt ham
  go_wp2_with fail
  refine HGO.out.mono ?_
  rintro e w3 ⟨rfl, hg3, hbut3⟩
  have HG3 := Lib.hid hg3
  have HBUT3 := Lib.hid hbut3
  clear hg3 hbut3
  go_wp2_with fail
  refine (HEN.out _).mono ?_
  rintro e w4 ⟨rfl, hb4⟩
  have HB4 := Lib.hid hb4
  clear hb4
  have HND := HEND.out
  obtain ⟨T, hT⟩ : ∃ T : ByteArray, (⟨(endL (s.extract a s.size).data.toList s.size).toArray⟩ : ByteArray) = T := ⟨_, rfl⟩
  rw [hT] at HND
  rw [hT]
  clear hT
  have hpw := pad_whole (natsOf s)
  have hpl : a + T.size = (padL (natsOf s)).length := by
    rw [← HND, List.length_append, natsOf_length, List.length_take, natsOf_length]
    omega
  have hpm : (padL (natsOf s)).length ≤ s.size + 136 := by
    simp only [padL, List.length_append, List.length_replicate, natsOf_length, List.length_cons, List.length_nil, show ∀ n, (eightN n).length = 8 from fun _ => rfl]
    omega
  have ham := HAM.out
  obtain ⟨m, hm⟩ : ∃ m, (padL (natsOf s)).length / 64 = a / 64 + m := ⟨(padL (natsOf s)).length / 64 - a / 64, by omega⟩
  have hTm : T.size = 64 * m := by omega
  have hA : natsOf (s.extract 0 a) = (natsOf s).take a := by rw [natsOf_extract]; rfl
  have HV := Lib.hid (show blocks m (blocks (a / 64) h0 (natsOf (s.extract 0 a))) (natsOf T) = blocks ((padL (natsOf s)).length / 64) h0 (padL (natsOf s)) by
    rw [hm, ← HND, blocks_append _ _ _ _ _ (by rw [List.length_take, natsOf_length]; omega), hA])
  have hl1 : w2.heap.size < w3.heap.size := (Array.getElem?_eq_some_iff.1 HG3.out).1
  have hl2 : w2.heap.size + 1 < W.heap.size := (Array.getElem?_eq_some_iff.1 HG2.out).1
  have hl3 : w2.heap.size + 1 < w3.heap.size := Nat.lt_of_lt_of_le hl2 HBUT3.out.size
  have HGO2 := Lib.hid (code_goOn T m hTm (by omega) w2.heap.size (w2.heap.size + 1) _ (blocks_low (a / 64) h0 (natsOf (s.extract 0 a)) h0_low) w4 (by omega) ((HB4.out.block _ hl1).trans HG3.out) ((HB4.out.block _ hl3).trans ((HBUT3.out.block _ hl2 (by omega)).trans HG2.out)))
  clear hpw hpl hpm ham hm hTm hA HND hl1 hl2 hl3
  go_wp2_with fail
  refine HGO2.out.mono ?_
  rintro e w5 ⟨rfl, hg5, hbut5⟩
  rw [HV.out] at hg5
  obtain ⟨V, hV⟩ : ∃ V, blocks ((padL (natsOf s)).length / 64) h0 (padL (natsOf s)) = V := ⟨_, rfl⟩
  have HVL := Lib.hid (show LowE V by rw [← hV]; exact blocks_low _ _ _ h0_low)
  have HVS := Lib.hid (show shaS s = hashB V by rw [← hV]; rfl)
  rw [hV] at hg5
  have HG5 := Lib.hid hg5
  have HBUT5 := Lib.hid hbut5
  clear hg5 hbut5 hV
  go_wp2_with (refine wpList_load_row rfl 136 (.tmp 3) rfl w2.heap.size rfl 136 (rowE V) (0, 0) _ HG5.out Tryd.underlying136 rfl info_a8 ?_)
  refine (code_hashOf V HVL.out _).mono ?_
  rintro e w6 ⟨rfl, hb6⟩
  have HB6 := Lib.hid hb6
  clear hb6
  have hsz : (valsB (hashB V)).toArray.size = 32 := rfl
  have hone : (valsB (hashB V)).toArray.all (·.oneCell') = true := by simp [valsB, Value.oneCell']
  obtain ⟨C, hC⟩ : ∃ C, (valsB (hashB V)).toArray = C := ⟨_, rfl⟩
  have HCC := Lib.hid hC
  rw [hC] at hsz hone
  rw [hC]
  clear hC
  have HINF := Lib.hid (show (Tryd.prog.info? 29).map (·.size) = some C.size by rw [hsz]; exact info_hash)
  have HF := Lib.hid (show w6.heap[w.heap.size]? = some (.cells Z 29 (0, 0)) ∧ Below w.heap.size w w6 by
    have z0 : w.heap.size < w2.heap.size := (Array.getElem?_eq_some_iff.1 HZ.out).1
    have zW : w.heap.size < W.heap.size := (Array.getElem?_eq_some_iff.1 HGZ.out).1
    have z3 : w.heap.size < w3.heap.size := Nat.lt_of_lt_of_le zW HBUT3.out.size
    have z4 : w.heap.size < w4.heap.size := Nat.lt_of_lt_of_le z3 HB4.out.size
    have z5 : w.heap.size < w5.heap.size := Nat.lt_of_lt_of_le z4 HBUT5.out.size
    have b3 : Below w.heap.size W w3 := ⟨HBUT3.out.os, HBUT3.out.tape, HBUT3.out.output, HBUT3.out.size, fun k hk => HBUT3.out.block k (by omega) (by omega)⟩
    have b5 : Below w.heap.size w4 w5 := ⟨HBUT5.out.os, HBUT5.out.tape, HBUT5.out.output, HBUT5.out.size, fun k hk => HBUT5.out.block k (by omega) (by omega)⟩
    exact ⟨(HB6.out.block _ z5).trans ((HBUT5.out.block _ z4 (by omega)).trans ((HB4.out.block _ z3).trans ((HBUT3.out.block _ zW (by omega)).trans HGZ.out))),
      (((HBW.out.trans b3).trans (HB4.out.mono (Nat.le_of_lt z3))).trans b5).trans (HB6.out.mono (Nat.le_of_lt z5))⟩)
  have hzs : Z.size = C.size := by rw [HZS.out, hsz]
  go_wp2_with (refine wpList_store_row rfl 29 (.tmp 2) (.tmp 26) rfl w.heap.size C rfl rfl 29 Z HF.out.1 HINF.out hzs hone ?_)
  refine bodyPost_ret (results_cell_row (p := 2) (ty := 29) Tryd.results67 _ _ w.heap.size 29 C (0, 0) _ rfl (setRow_heap _ _ _ _ _ _ HF.out.1) Tryd.underlying29 rfl HINF.out) rfl ⟨by rw [← HCC.out, HVS.out], below_setRow HF.out.2 (Nat.le_refl _) _⟩

end Go.Proofs.YtdgaoebjbhomdaaDoor.Sha

namespace Go.Proofs.YtdgaoebjbhomdaaDoor.Sha
open Go.RowKit

def hexS : List UInt8 := [48, 49, 50, 51, 52, 53, 54, 55, 56, 57, 97, 98, 99, 100, 101, 102]
/-- A digit's value; of what is no digit -1. -/
def valD (c : UInt8) : Int := Lib.indexByte hexS c
theorem valD_all : ∀ n : Fin 256, -1 ≤ valD (UInt8.ofNat n.val) ∧ valD (UInt8.ofNat n.val) ≤ 15 ∧ (0 ≤ valD (UInt8.ofNat n.val) → hexD (valD (UInt8.ofNat n.val)).toNat = UInt8.ofNat n.val) ∧
    ((0 ≤ valD (UInt8.ofNat n.val)) ↔ ((48 ≤ n.val ∧ n.val ≤ 57) ∨ (97 ≤ n.val ∧ n.val ≤ 102))) := by decide +kernel
theorem valD_of (c : UInt8) : -1 ≤ valD c ∧ valD c ≤ 15 ∧ (0 ≤ valD c → hexD (valD c).toNat = c) ∧ ((0 ≤ valD c) ↔ ((48 ≤ c.toNat ∧ c.toNat ≤ 57) ∨ (97 ≤ c.toNat ∧ c.toNat ≤ 102))) := by
  have h := valD_all ⟨c.toNat, c.toNat_lt⟩
  simpa using h
theorem valD_hexD : ∀ n : Fin 16, valD (hexD n.val) = n.val := by decide +kernel

/-- What digits tell: bytes; a last one that stands alone is a byte of its own. -/
def unhex : List UInt8 → List UInt8
  | a :: b :: r => UInt8.ofNat ((valD a).toNat * 16 + (valD b).toNat) :: unhex r
  | [a] => [UInt8.ofNat (valD a).toNat]
  | [] => []
theorem unhex_even (n : Nat) : ∀ (l : List UInt8) (c : UInt8), l.length = 2 * n → unhex (l ++ [c]) = unhex l ++ [UInt8.ofNat (valD c).toNat] ∧ (unhex l).length = n := by
  induction n with
  | zero =>
    intro l c h
    obtain rfl : l = [] := List.eq_nil_of_length_eq_zero (by omega)
    exact ⟨rfl, rfl⟩
  | succ n ih =>
    intro l c h
    match l, h with
    | a :: b :: r, h =>
      have h' := ih r c (by simp at h; omega)
      simp only [List.cons_append, unhex, h'.1, List.length_cons, h'.2, and_self]
theorem unhex_odd (n : Nat) (l : List UInt8) (a c : UInt8) (h : l.length = 2 * n) : unhex (l ++ [a] ++ [c]) = unhex l ++ [UInt8.ofNat ((valD a).toNat * 16 + (valD c).toNat)] := by
  induction n generalizing l with
  | zero =>
    obtain rfl : l = [] := List.eq_nil_of_length_eq_zero (by omega)
    rfl
  | succ n ih =>
    match l, h with
    | x :: y :: r, h =>
      have h' := ih r (by simp at h; omega)
      simp only [List.append_assoc, List.cons_append, List.nil_append] at h' ⊢
      simp only [unhex, h', List.cons_append]

def isHex (c : UInt8) : Bool := decide (0 ≤ valD c)
/-- What Read tells: a hash and an error. -/
def readF (l : List UInt8) : List UInt8 × Nat := if l.length = 64 ∧ l.all isHex = true then (unhex l, 0) else (List.replicate 32 0, 2)
theorem readF_long (l : List UInt8) (h : l.length ≠ 64) : readF l = (List.replicate 32 0, 2) := by
  unfold readF
  rw [if_neg (fun k => h k.1)]
theorem readF_not (l : List UInt8) (i : Nat) (c : UInt8) (h : l[i]? = some c) (hd : valD c < 0) : readF l = (List.replicate 32 0, 2) := by
  unfold readF
  rw [if_neg]
  rintro ⟨_, k⟩
  have := List.all_eq_true.1 k c (List.mem_of_getElem? h)
  simp [isHex] at this
  omega

theorem or_nibble (x d : Nat) (hx : x < 16) (hd : d < 16) : bits .or .u8 ((x : Int) * 16) (d : Int) = ((x * 16 + d : Nat) : Int) := by
  have h := u8_or_nat (x * 16) d (by omega) (by omega)
  rw [nat_join 4 (x * 16) d (by omega) (by omega)] at h
  rw [← h, Int.natCast_mul]
  rfl

theorem results_cell_tmp {P : Program} {fn : Func} {p t : Tmp} {ty : TypeId} (h : fn.results = #[.cell p ty, .tmp t]) (tmps : Array Value) (w : World) (g : Nat) (e : TypeId) (cs : Array Value) (fr : Nat × Nat) (d : TypeDesc) (v : Value)
    (hp : tmps.getD p undef = .pointer (some ⟨g, 0, none⟩)) (hv : tmps.getD t undef = v) (hg : w.heap[g]? = some (.cells cs e fr))
    (hu : P.underlying ty = some d) (hd : (match d with | .struct _ | .array _ _ => true | _ => false) = true) (hi : (P.info? ty).map (·.size) = some cs.size) :
    (results fn tmps).run P w = .ok (.tuple #[.agg cs, v]) w := by
  have hp' : tmps[p]?.getD undef = .pointer (some ⟨g, 0, none⟩) := by simpa using hp
  have hv' : tmps[t]?.getD undef = v := by simpa using hv
  simp [results, h, hp', hv', asAddr, run_loadVar_row w g e ty cs fr d hg hu hd hi]

def zeroB : Array Value := (valsB (List.replicate 32 0)).toArray
theorem zeroB_one : zeroB.all (·.oneCell') = true := by simp only [zeroB, valsB, List.all_toArray, List.all_map]; decide
theorem zeroB_info : (Tryd.prog.info? 29).map (·.size) = some zeroB.size := info_hash

theorem valD_hex (c : UInt8) : ∃ d : Int, valD c = d ∧ -1 ≤ d ∧ d ≤ 15 := ⟨_, rfl, (valD_of c).1, (valD_of c).2.1⟩

theorem row8_reset (xs : List UInt8) (n : Nat) (x : UInt8) (z : UInt8) : (row8 (xs ++ [x]) n).setIfInBounds xs.length (.int .u8 (z.toNat : Int)) = row8 (xs ++ [z]) n := by
  apply Array.toList_inj.1
  rw [Array.toList_setIfInBounds]
  simp only [row8, valsB, List.length_append, List.length_cons, List.length_nil, List.map_append, List.append_assoc, List.map_cons, List.map_nil, List.cons_append, List.nil_append]
  rw [List.set_append_right _ _ (by simp)]
  simp

theorem cell_of_digit (l : List UInt8) (c : UInt8) (k : Nat) (hl : l.length = k) (hk : k < 64) (hhex : l.all isHex = true) (hc : 0 ≤ valD c) :
    ∃ x : Nat, (row8 (unhex l) 32)[k / 2]? = some (.int .u8 x) ∧ x < 16 ∧ (row8 (unhex l) 32).setIfInBounds (k / 2) (.int .u8 ((x : Int) * 16 + ((valD c).toNat : Int))) = row8 (unhex (l ++ [c])) 32 := by
  have hb := (valD_of c).2.1
  obtain ⟨m, hm⟩ : ∃ m, k / 2 = m := ⟨_, rfl⟩
  rw [hm]
  have hr : k % 2 = 0 ∨ k % 2 = 1 := by omega
  rcases hr with hr | hr
  · have he := unhex_even m l c (by omega)
    refine ⟨0, ?_, by omega, ?_⟩
    · simp only [row8, List.getElem?_toArray]
      rw [List.getElem?_append_right (by simp [valsB, he.2])]
      simp only [valsB, List.length_map, he.2, Nat.sub_self, List.getElem?_replicate]
      rw [if_pos (by omega)]
      rfl
    · rw [he.1, ← row8_set (unhex l) 32 m _ he.2 (by omega)]
      congr 2
      rw [UInt8.toNat_ofNat', Nat.mod_eq_of_lt (by omega)]
      omega
  · obtain ⟨l', a, rfl⟩ : ∃ l' a, l = l' ++ [a] := by
      refine ⟨l.dropLast, l.getLast (by intro h; rw [h] at hl; simp at hl; omega), ?_⟩
      exact (List.dropLast_concat_getLast _).symm
    have hl' : l'.length = 2 * m := by simp at hl; omega
    have he := unhex_even m l' a hl'
    have ho := unhex_odd m l' a c hl'
    have ha : 0 ≤ valD a := by
      have := List.all_eq_true.1 hhex a (by simp)
      simpa [isHex] using this
    have hab := (valD_of a).2.1
    refine ⟨(valD a).toNat, ?_, by omega, ?_⟩
    · rw [he.1]
      simp only [row8, List.getElem?_toArray]
      rw [List.getElem?_append_left (by simp [valsB, he.2])]
      simp only [valsB, List.map_append, List.map_cons, List.map_nil]
      rw [List.getElem?_append_right (by simp [he.2])]
      simp only [List.length_map, he.2, Nat.sub_self, List.getElem?_cons_zero, UInt8.toNat_ofNat']
      rw [Nat.mod_eq_of_lt (by omega)]
    · have e : (((valD a).toNat : Nat) : Int) * 16 + ((valD c).toNat : Int) = ((UInt8.ofNat ((valD a).toNat * 16 + (valD c).toNat)).toNat : Int) := by
        rw [UInt8.toNat_ofNat', Nat.mod_eq_of_lt (by omega)]
        omega
      have hset := row8_reset (unhex l') 32 (UInt8.ofNat (valD a).toNat) (UInt8.ofNat ((valD a).toNat * 16 + (valD c).toNat))
      rw [he.2] at hset
      rw [he.1, ho, e, hset]

end Go.Proofs.YtdgaoebjbhomdaaDoor.Sha

namespace Go.Proofs.YtdgaoebjbhomdaaDoor.Sha
open Go.RowKit

theorem valsB_cell (h : List UInt8) : valsB h = h.map Extern.Stop.cell := rfl

theorem eqIn_hash (a b : List UInt8) (ha : a.length = 32) (hb : b.length = 32) (w : World) :
    (Op.equalIn 10000 29 (.agg (valsB a).toArray) (.agg (valsB b).toArray)).run Tryd.prog w = .ok (a == b) w := by
  rw [valsB_cell, valsB_cell]
  exact run_equalIn_bytes w 9998 29 5 32 Tryd.underlying29 Tryd.underlying5 Tryd.sizeOf5 a b ha hb

theorem loadFrom_row (w : World) (g n : Nat) (t : TypeId) (cs : Array Value) (fr : Nat × Nat) (hg : w.heap[g]? = some (.cells cs t fr)) (hn : cs.size = n) :
    (loadCellsFrom ⟨g, 0, none⟩ 0 n #[]).run Tryd.prog w = .ok cs w := by
  subst hn
  have := run_loadCells_list (P := Tryd.prog) w ⟨g, 0, none⟩ cs.toList (fun j v hv => by
    have hadd : (⟨g, 0, none⟩ : Addr).add j = ⟨g, j, none⟩ := by unfold Addr.add; split <;> simp_all
    rw [hadd, cell_of_row w g j cs t fr hg]
    simpa using hv)
  simpa [loadCells] using this

theorem heap_regrown {W : World} {g : Nat} {o : Obj} (h : W.heap[g]? = some o) (d : Nat) (os : Array Obj) : (Sort.grow (redrawn W d) os).heap[g]? = some o := by
  rw [(below_regrown W d os).block g (Array.getElem?_eq_some_iff.1 h).1]
  exact h

/-- A whole array's load, in a region that draws and whose callees make memory. -/
theorem quiet_load_row {P : Program} {o : Oper} {a : Act} {W : World} {K : Act → Prop} (ty : TypeId) (x : Operand) (ho : o.op = .load ty x) (g : Nat) (hx : a.eval x = .pointer (some ⟨g, 0, none⟩)) (t : TypeId) (cs : Array Value) (fr : Nat × Nat) (d : TypeDesc)
    (hW : W.heap[g]? = some (.cells cs t fr)) (hu : P.underlying ty = some d) (hd : (match d with | .struct _ | .array _ _ => true | _ => false) = true) (hi : (P.info? ty).map (·.size) = some cs.size)
    (h : K (a.put o.dst (.agg cs))) : o.quiet P a (fun w' => ∃ p : Regrown, w' = Sort.grow (redrawn W p.d) p.os) K := by
  refine ⟨.agg cs, ?_, h⟩
  rintro w' ⟨p, rfl⟩
  unfold Oper.quietAt execOp
  simp only [ho, hx, Instr.loadAt, Instr.sureAddr, Sem.run_bind, Sem.run_pure, Result.andThen_ok, run_loadVar_row _ g t ty cs fr d (heap_regrown hW p.d p.os) hu hd hi]
  exact ⟨rfl, rfl⟩

/-- A whole array's load under a guard that holds, in a region that draws nothing. -/
theorem wpList_load_row_g {P : Program} {ops : Array Oper} {rest : List Oper} {o : Oper} {a : Act} {w : World} {Q : Exit → Act → World → Prop} (hw : Region.wanted o (yielded ops a.tmps) = true) (ty : TypeId) (x : Operand) (ho : o.op = .load ty x)
    (g : Nat) (hx : a.eval x = .pointer (some ⟨g, 0, none⟩)) (t : TypeId) (cs : Array Value) (fr : Nat × Nat) (d : TypeDesc) (hg : w.heap[g]? = some (.cells cs t fr))
    (hu : P.underlying ty = some d) (hd : (match d with | .struct _ | .array _ _ => true | _ => false) = true) (hi : (P.info? ty).map (·.size) = some cs.size)
    (h : wpList P ops Q rest (a.put o.dst (.agg cs)) w) : wpList P ops Q (o :: rest) a w :=
  wpList_step fun K hK => by
    rw [if_pos hw]
    exact wp_load_row ty x ho g hx t cs fr d hg hu hd hi (hK _ _ h)
/-- .. and an array that is built of constants. -/
theorem wpList_build_g {P : Program} {ops : Array Oper} {rest : List Oper} {o : Oper} {a : Act} {w : World} {Q : Exit → Act → World → Prop} (hw : Region.wanted o (yielded ops a.tmps) = true) (t : TypeId) (parts : Array (Nat × Operand)) (ho : o.op = .build t parts) (C : Array Value)
    (hf : P.built t (parts.map fun (i, x) => (i, a.eval x)).toList = some C) (h : wpList P ops Q rest (a.put o.dst (.agg C)) w) : wpList P ops Q (o :: rest) a w :=
  wpList_step fun K hK => by
    rw [if_pos hw]
    refine wp_build t parts ho (by rw [hf]; rfl) ?_
    rw [hf]
    exact hK _ _ h

theorem unhex_hex (h : List UInt8) : unhex (hexL h) = h := by
  induction h with
  | nil => rfl
  | cons b h ih =>
    rw [hexL, unhex, ih]
    have h1 := valD_hexD ⟨b.toNat / 16, by have := b.toNat_lt; omega⟩
    have h2 := valD_hexD ⟨b.toNat % 16, by omega⟩
    simp only at h1 h2
    rw [h1, h2]
    congr 1
    apply UInt8.toNat_inj.1
    rw [UInt8.toNat_ofNat']
    have := b.toNat_lt
    omega
theorem hex_all (h : List UInt8) : (hexL h).all isHex = true := by
  induction h with
  | nil => rfl
  | cons b h ih =>
    have h1 := valD_hexD ⟨b.toNat / 16, by have := b.toNat_lt; omega⟩
    have h2 := valD_hexD ⟨b.toNat % 16, by omega⟩
    simp only at h1 h2
    simp [hexL, isHex, h1, h2, ih]
    omega
theorem read_hex (h : List UInt8) (hl : h.length = 32) : readF (hexL h) = (h, 0) := by
  unfold readF
  rw [if_pos ⟨by rw [hexL_length, hl], hex_all h⟩, unhex_hex]
theorem hexL_inj {a b : List UInt8} (h : hexL a = hexL b) : a = b := by rw [← unhex_hex a, h, unhex_hex]

end Go.Proofs.YtdgaoebjbhomdaaDoor.Sha

namespace Go.Proofs.YtdgaoebjbhomdaaDoor.Sha
open Go.RowKit

/-- A slice's cells are these numbers. -/
def Dig (w : World) (g : Nat) (xs : List Nat) : Prop := ∀ i x : Nat, xs[i]? = some x → w.cell? ⟨g, i, none⟩ = some (.int .u64 x)
def vals (xs : List Nat) : List Value := xs.map fun (x : Nat) => Value.int .u64 x
theorem vals_snoc (ys : List Nat) (r : Nat) : vals ys ++ [Value.int .u64 (r : Int)] = vals (ys ++ [r]) := by simp [vals]
theorem info64 : (Tryd.prog.info? 22).map (fun i => (i.zero, i.size, i.bytes)) = some (some (.int .u64 0), 1, 8) := by kernel_rfl
theorem own_cells {w : World} {B : Nat} {n : Nat} {xs : List Nat} {g cap : Nat} (h : w.ownsRow B 22 1 (.slice (some ⟨g, 0, none⟩) n cap) n (vals xs)) : Dig w g xs := by
  intro i x hx
  have := h.cells (g := g) rfl i (.int .u64 x) (by simp [vals, hx])
  have e : (⟨g, 0, none⟩ : Addr).add i = ⟨g, i, none⟩ := by
    unfold Addr.add
    split
    · rename_i h0
      have : i = 0 := by simpa using h0
      subst this
      rfl
    · simp
  rw [e] at this
  exact this
theorem news_one (w : World) (u : Value) (t : TypeId) : ∀ j v, [u][j]? = some v → (w.alloc (.cells #[u] t)).cell? ((⟨w.heap.size, 0, none⟩ : Addr).add j) = some v := by
  intro j v hj
  match j, hj with
  | 0, hj => simp at hj; subst hj; simp [Addr.add]
theorem news_oneCell (r : Nat) : ∀ u ∈ [Value.int .u64 (r : Int)], u.oneCell' = true := by
  intro u hu
  simp at hu
  subst hu
  rfl
theorem own_base {w : World} {B : Nat} {e : TypeId} {v : Value} {n : Nat} {xs : List Value} (h : w.ownsRow B e 1 v n xs) : ∀ k, v.ownBlock = some k → B ≤ k := by
  intro k hk
  rcases h.2 with ⟨rfl, _⟩ | ⟨g, cap, cur, rfl, hb, _⟩
  · simp [Value.ownBlock] at hk
  · simp [Value.ownBlock] at hk
    omega

/-- What digits of 16 bits tell, the lowest first. -/
def val16 : List Nat → Nat
  | [] => 0
  | x :: xs => x + 65536 * val16 xs

theorem val16_snoc (ys : List Nat) (r : Nat) : val16 (ys ++ [r]) = val16 ys + 65536 ^ ys.length * r := by
  induction ys with
  | nil => simp [val16]
  | cons y ys ih =>
    simp only [List.cons_append, val16, ih, List.length_cons, Nat.pow_succ]
    rw [Nat.mul_add, ← Nat.mul_assoc, Nat.mul_comm 65536 (65536 ^ ys.length)]
    omega

theorem val16_drop (xs : List Nat) (k x : Nat) (h : xs[k]? = some x) : val16 (xs.drop k) = x + 65536 * val16 (xs.drop (k + 1)) := by
  obtain ⟨hk, rfl⟩ := List.getElem?_eq_some_iff.1 h
  rw [List.drop_eq_getElem_cons hk, val16]

/-- One digit more: what has been told and what is to come is the product still. -/
theorem step16 (P n V ov r q X : Nat) (h : P * (ov + n * X) = V) (hX : ov + n * X = r + 65536 * q) : P * r + P * 65536 * q = V := by
  rw [← h, hX, Nat.mul_add, Nat.mul_assoc]

end Go.Proofs.YtdgaoebjbhomdaaDoor.Sha

namespace Go.Proofs.YtdgaoebjbhomdaaDoor.Sha
open Go.RowKit

/-- What the first k digits tell. -/
def lowV (xs : List Nat) : Nat → Nat
  | 0 => 0
  | k + 1 => lowV xs k + 65536 ^ k * xs.getD k 0

theorem lowV_cons (x : Nat) (xs : List Nat) (k : Nat) : lowV (x :: xs) (k + 1) = x + 65536 * lowV xs k := by
  induction k with
  | zero => simp [lowV]
  | succ k ih =>
    rw [lowV, ih, lowV, List.getD_cons_succ, Nat.pow_succ, Nat.mul_add, Nat.mul_comm (65536 ^ k) 65536, Nat.mul_assoc]
    omega

theorem lowV_all (xs : List Nat) (k : Nat) (h : xs.length ≤ k) : lowV xs k = val16 xs := by
  induction xs generalizing k with
  | nil =>
    have : ∀ k, lowV [] k = 0 := by
      intro k
      induction k with
      | zero => rfl
      | succ k ih => simp [lowV, ih]
    rw [this]
    rfl
  | cons x xs ih =>
    cases k with
    | zero => simp at h
    | succ k => rw [lowV_cons, ih k (by simpa using h), val16]

theorem lowV_lt (xs : List Nat) (hx : ∀ x ∈ xs, x < 65536) (k : Nat) : lowV xs k < 65536 ^ k := by
  induction k with
  | zero => simp [lowV]
  | succ k ih =>
    have hd : xs.getD k 0 ≤ 65535 := by
      rw [List.getD_eq_getElem?_getD]
      cases hq : xs[k]? with
      | none => simp
      | some v =>
        have := hx v (List.mem_of_getElem? hq)
        simp
        omega
    have h2 : 65536 ^ k * xs.getD k 0 ≤ 65536 ^ k * 65535 := Nat.mul_le_mul_left _ hd
    rw [lowV, Nat.pow_succ]
    omega

theorem lowV_less (a b : List Nat) (ha : ∀ x ∈ a, x < 65536) (k x y : Nat) (hx : a.getD k 0 = x) (hy : b.getD k 0 = y) (h : x < y) : lowV a (k + 1) < lowV b (k + 1) := by
  have h1 := lowV_lt a ha k
  have h2 : 65536 ^ k * (x + 1) ≤ 65536 ^ k * y := Nat.mul_le_mul_left _ h
  rw [lowV, lowV, hx, hy]
  rw [Nat.mul_add, Nat.mul_one] at h2
  omega

/-- A digit, or nought behind the last one. -/
theorem digit_of (xs : List Nat) (k : Nat) : (k < xs.length ∧ ∃ x, xs[k]? = some x ∧ xs.getD k 0 = x) ∨ (¬ k < xs.length ∧ xs.getD k 0 = 0) := by
  by_cases h : k < xs.length
  · refine .inl ⟨h, xs[k], List.getElem?_eq_getElem h, ?_⟩
    rw [List.getD_eq_getElem?_getD, List.getElem?_eq_getElem h]
    rfl
  · refine .inr ⟨h, ?_⟩
    rw [List.getD_eq_getElem?_getD, List.getElem?_eq_none (by omega)]
    rfl

end Go.Proofs.YtdgaoebjbhomdaaDoor.Sha

namespace Go.Proofs.YtdgaoebjbhomdaaDoor.Sha
open Go.RowKit

theorem kept {w w' : World} (h : Below w.heap.size w w') {p : Addr} {v : Value} (hc : w.cell? p = some v) : w'.cell? p = some v := by
  rw [h.cell (World.block_lt_of_cell? w p hc)]
  exact hc
theorem Dig.kept {w w' : World} {g : Nat} {xs : List Nat} (d : Dig w g xs) (h : Below w.heap.size w w') : Dig w' g xs := fun i x hx => Sha.kept h (d i x hx)
theorem below_alloc {w0 w : World} (h : Below w0.heap.size w0 w) (o : Obj) : Below w0.heap.size w0 (w.alloc o) :=
  h.trans (((Below.refl w.heap.size w).alloc (Nat.le_refl _) o).mono h.size)
theorem dig_one (w : World) (x : Nat) (t : TypeId) : Dig (w.alloc (.cells #[.int .u64 x] t)) w.heap.size [x] := by
  intro i v hv
  match i, hv with
  | 0, hv => simp at hv; subst hv; simp
  | i + 1, hv => simp at hv

/-- Digits that are there, and what they tell. -/
structure Tells (w : World) (g l v m : Nat) (D : List Nat) : Prop where
  dig : Dig w g D
  len : D.length = l
  val : val16 D = v
  small : ∀ x ∈ D, x < 65536
  most : l ≤ m
  pos : 0 < l
theorem Tells.kept {w w' : World} {g len v m : Nat} {D : List Nat} (t : Tells w g len v m D) (h : Below w.heap.size w w') : Tells w' g len v m D := ⟨t.dig.kept h, t.len, t.val, t.small, t.most, t.pos⟩

end Go.Proofs.YtdgaoebjbhomdaaDoor.Sha

namespace Go.Proofs.YtdgaoebjbhomdaaDoor.Sha
open Go.RowKit

/-- The root's words, bit by bit. -/
def rootF (n p : Nat) : Nat → Nat → Nat
  | 0, x => x
  | b + 1, x => rootF n p b (if (x + 2 ^ b) ^ p ≤ n * 4294967296 ^ p then x + 2 ^ b else x)

/-- The document's words of the first primes' roots are those of the table: reckoned by the kernel. -/
def primes64 : List Nat := [2, 3, 5, 7, 11, 13, 17, 19, 23, 29, 31, 37, 41, 43, 47, 53, 59, 61, 67, 71, 73, 79, 83, 89, 97, 101, 103, 107, 109, 113, 127, 131, 137, 139, 149, 151, 157, 163, 167, 173, 179, 181, 191, 193, 197, 199, 211, 223, 227, 229, 233, 239, 241, 251, 257, 263, 269, 271, 277, 281, 283, 293, 307, 311]
theorem cubes_told : primes64.map (fun n => rootF n 3 40 0 % 4294967296) = kL := by decide +kernel
theorem squares_told : (primes64.take 8).map (fun n => rootF n 2 40 0 % 4294967296) = hL := by decide +kernel

end Go.Proofs.YtdgaoebjbhomdaaDoor.Sha

namespace Go.Proofs.YtdgaoebjbhomdaaDoor.Sha
open Go.RowKit

/-- The primes below m, of the table's. -/
def pb (m : Nat) : List Nat := primes64.filter fun q => decide (q < m)
theorem pb_yes : ∀ m, m < 312 → decide (m ∈ primes64) = true → pb (m + 1) = pb m ++ [m] := by decide +kernel
theorem pb_no : ∀ m, m < 312 → decide (m ∈ primes64) = false → pb (m + 1) = pb m := by decide +kernel
theorem pb_take : ∀ m, m < 313 → pb m = primes64.take (pb m).length := by decide +kernel
theorem pb_is : ∀ m, m < 312 → 2 ≤ m → ((pb m).all fun q => m % q != 0) = decide (m ∈ primes64) := by decide +kernel
theorem pb_pos : ∀ q ∈ primes64, 0 < q := by decide +kernel
theorem pb_end : (pb 312).length = 64 := by decide +kernel
theorem pb_mem (m q : Nat) (h : q ∈ pb m) : 0 < q := pb_pos q (List.mem_filter.1 h).1

theorem all_next (D : List Nat) (m t q : Nat) (h : D[t]? = some q) : ((D.take (t + 1)).all fun q => m % q != 0) = (((D.take t).all fun q => m % q != 0) && (m % q != 0)) := by
  rw [List.take_add_one, h]
  simp

end Go.Proofs.YtdgaoebjbhomdaaDoor.Sha

namespace Go.Proofs.YtdgaoebjbhomdaaDoor.Sha
open Go.RowKit

theorem Dig32.kept {w w' : World} {g : Nat} {xs : List Nat} (d : Dig32 w g xs) (h : Below w.heap.size w w') : Dig32 w' g xs := fun i x hx => Sha.kept h (d i x hx)
theorem own_kept {w w' : World} {B : Nat} {e : TypeId} {v : Value} {n : Nat} {xs : List Value} (h : w.ownsRow B e 1 v n xs) (hb : Below w.heap.size w w') : w'.ownsRow B e 1 v n xs :=
  h.kept (row := none) ⟨hb.os, hb.tape, hb.output, hb.size, fun k hk _ => hb.block k hk⟩ (by cases hv : v.ownBlock <;> simp)

/-- The roots' words of the first so many primes. -/
def rootsL (many p : Nat) : List Nat := (primes64.take many).map fun n => rootF n p 40 0 % 4294967296

end Go.Proofs.YtdgaoebjbhomdaaDoor.Sha

namespace Go.Proofs.YtdgaoebjbhomdaaDoor.Sha
open Go.RowKit

theorem keep_drew {w : World} {a : Addr} {v : Value} (h : w.cell? a = some v) : w.drew.cell? a = some v := h

theorem dig32_new (w : World) (xs : List Nat) (t : TypeId) : Dig32 (w.alloc (.cells (vals32 xs).toArray t)) w.heap.size xs := by
  intro i x hx
  simp [vals32, hx]

set_option maxRecDepth 100000 in
set_option maxHeartbeats 1600000 in
theorem cubes_any (w : World) :
    Calls Tryd.prog 102 #[] w fun e w' => ∃ g cap, e = .returned (.slice (some ⟨g, 0, none⟩) 64 cap) ∧ Dig32 w' g kL ∧ Below w.heap.size w w' := by
  go_enter Tryd.func102, Tryd.ntmps102
  go_wp2_with fail
  go_ret
  refine ⟨_, _, rfl, ?_, below_alloc (Below.refl _ _) _⟩
  exact dig32_new w kL 135

theorem roots_cubes : rootsL 64 3 = kL := cubes_told
theorem roots_squares : rootsL 8 2 = hL := squares_told

end Go.Proofs.YtdgaoebjbhomdaaDoor.Sha

namespace Go.Proofs.YtdgaoebjbhomdaaDoor.Sha
open Go.RowKit

theorem info8 : (Tryd.prog.info? 5).map (fun i => (i.zero, i.size, i.bytes)) = some (some (.int .u8 0), 1, 1) := by kernel_rfl
theorem news_oneCell8 (b : UInt8) : ∀ u ∈ [Value.int .u8 (b.toNat : Int)], u.oneCell' = true := by
  intro u hu
  simp at hu
  subst hu
  rfl

theorem own_cell8 {w : World} {B : Nat} {n : Nat} {xs : List UInt8} {g cap : Nat} (h : w.ownsRow B 5 1 (.slice (some ⟨g, 0, none⟩) n cap) n (valsB xs)) (i : Nat) (b : UInt8) (hb : xs[i]? = some b) : w.cell? ⟨g, i, none⟩ = some (.int .u8 (b.toNat : Int)) := by
  have := h.cells (g := g) rfl i (.int .u8 (b.toNat : Int)) (by simp [valsB, hb])
  have e : (⟨g, 0, none⟩ : Addr).add i = ⟨g, i, none⟩ := by
    unfold Addr.add
    split
    · rename_i h0
      have : i = 0 := by simpa using h0
      subst this
      rfl
    · simp
  rw [e] at this
  exact this

/-- What a slice of bytes of one's own tells as a text. -/
theorem conv_own (w : World) (B g n cap : Nat) (xs : List UInt8) (hn : xs.length = n) (h : w.ownsRow B 5 1 (.slice (some ⟨g, 0, none⟩) n cap) n (valsB xs)) :
    (convert 109 9 (.slice (some ⟨g, 0, none⟩) n cap)).run Tryd.prog w = .ok (.string ⟨xs.toArray⟩) w := by
  have hr := run_convert_bytes_arg w 109 5 Tryd.underlying109 Tryd.underlying5 g 0 n cap (xs.map fun b => (b.toNat : Int)) (by simpa using hn) (fun i hi => by
    rw [Nat.zero_add]
    have hlt : i < xs.length := by omega
    rw [own_cell8 h i xs[i] (List.getElem?_eq_getElem hlt)]
    simp [List.getD, List.getElem?_eq_getElem hlt]) 9 Tryd.underlying9
  rw [hr]
  have e : strOfNums (xs.map fun b => (b.toNat : Int)) = ⟨xs.toArray⟩ := by
    have e2 : (xs.map fun b => (b.toNat : Int)).map (fun n => UInt8.ofNat n.toNat) = xs := by
      rw [List.map_map]
      conv => rhs; rw [← List.map_id xs]
      apply List.map_congr_left
      intro b _
      simp
    unfold strOfNums
    rw [e2]
  rw [e]

theorem boxed (w : World) (h : List UInt8) (t : TypeId) (i : Nat) (b : UInt8) (hb : h[i]? = some b) : (w.alloc (.cells (valsB h).toArray t)).cell? ⟨w.heap.size, i, none⟩ = some (.int .u8 (b.toNat : Int)) := by
  simp [valsB, hb]

set_option maxRecDepth 100000 in
set_option maxHeartbeats 1600000 in
theorem bytes_any (h : List UInt8) (hl : h.length = 32) (w : World) :
    Calls Tryd.prog 33 #[.agg (valsB h).toArray] w fun e w' => e = .returned (.string ⟨h.toArray⟩) ∧ Below w.heap.size w w' := by
  obtain ⟨i0, hi, hz0, hz1, hz2⟩ := info_parts info8
  obtain ⟨C, hC⟩ : ∃ C, (valsB h).toArray = C := ⟨_, rfl⟩
  have hbox : ∀ (w : World) (t : TypeId) (i : Nat) (b : UInt8), h[i]? = some b → (w.alloc (.cells C t)).cell? ⟨w.heap.size, i, none⟩ = some (.int .u8 (b.toNat : Int)) := by
    intro w t i b hb
    rw [← hC]
    exact boxed w h t i b hb
  rw [hC]
  clear hC
  have HBOX := Lib.hid hbox
  clear hbox
  go_enter Tryd.func33, Tryd.ntmps33
  go_wp2_with fail
  go_loopw [3, 4] (fun v i wr => ∃ k : Nat, k ≤ 32 ∧ i = .int .i64 k ∧ wr.ownsRow (w.heap.size + 1) 5 1 v k (valsB (h.take k)) ∧ (∀ (i : Nat) (b : UInt8), h[i]? = some b → wr.cell? ⟨w.heap.size, i, none⟩ = some (.int .u8 (b.toNat : Int))) ∧ w.heap.size + 1 ≤ wr.heap.size ∧ Below w.heap.size w wr) (fun _ i _ => 32 - (intOf i).toNat)
  case atStart => exact ⟨0, by omega, rfl, World.ownsRow_nil _ _ _ _, fun i b hb => HBOX.out _ _ i b hb, by simp, below_alloc (Below.refl _ _) _⟩
  case round =>
    obtain ⟨k, hk, rfl, hown, hcells, hbase, hbel⟩ := hrel
    have HO := Lib.hid hown
    have HC := Lib.hid hcells
    clear hown hcells
    by_cases hlt : k < 32
    · obtain ⟨b, hb⟩ : ∃ b, h[k]? = some b := ⟨h[k]'(by omega), List.getElem?_eq_getElem _⟩
      have hcb := HC.out k b hb
      have HT := Lib.hid (show h.take (k + 1) = h.take k ++ [b] by rw [List.take_add_one, hb]; rfl)
      have hk0 : (0 : Int) ≤ (k : Int) := by omega
      have hk32 : (k : Int) < 32 := by omega
      clear hb
      go_wp2_with (at_builtin; refine wpList_append_lies _ rfl (.tmp 9) (.tmp 13) 109 rfl (w.heap.size + 1) 5 i0 (.int .u8 0) 1 1 Tryd.underlying109 hi hz0 hz1 hz2 rfl (by decide) _ k (valsB (h.take k)) rfl (HO.out.alloc _) ⟨wr.heap.size, 0, none⟩ 1 1 [.int .u8 (b.toNat : Int)] rfl rfl (news_one _ _ _) (news_oneCell8 b) (by decide) (by unfold maxLen; omega) (by omega) (Nat.le_trans hbase (by simp)) _ rfl ?_; intro g1 cap1 w1 hown1 hgrow1 hat hlt1)
      have hb1 := ((Below.refl (w.heap.size + 1) wr).alloc hbase (.cells #[.int .u8 (b.toNat : Int)] 5)).grown hgrow1 (Nat.le_trans hbase (by simp)) (own_base HO.out)
      rw [valsB_snoc, ← HT.out] at hown1
      have HO1 := Lib.hid hown1
      have HC1 := Lib.hid (fun (i : Nat) (b : UInt8) (hb : h[i]? = some b) => (hb1.cell (p := ⟨w.heap.size, i, none⟩) (show w.heap.size < w.heap.size + 1 by omega)).trans (HC.out i b hb))
      clear hown1 hgrow1 hat
      go_wp2_with fail
      go_roundw
      case rel => exact ⟨k + 1, by omega, by go_num, HO1.out, HC1.out, Nat.le_trans hbase hb1.size, hbel.trans (hb1.mono (Nat.le_succ _))⟩
      case measure => simp [intOf]; omega
    · have hkk : k = 32 := by omega
      subst hkk
      obtain ⟨g, cap, rfl⟩ := Go.Joins.ownsRow_form HO.out (by omega)
      have hconv := conv_own wr (w.heap.size + 1) g 32 cap (h.take 32) (by simp [hl]) HO.out
      rw [List.take_of_length_le (by omega)] at hconv
      go_wp2_with fail
      go_ret
      exact ⟨rfl, hbel⟩

end Go.Proofs.YtdgaoebjbhomdaaDoor.Sha
