/- The code's own: a text's sum. -/
import Derived.Test.YtlalipomphgcoaaShaEn
namespace Go.Proofs.Ytlalipomphgcoaa.Sha
open Go.RowKit

def h0 : EightW := ⟨1779033703, 3144134277, 1013904242, 2773480762, 1359893119, 2600822924, 528734635, 1541459225⟩
theorem h0_low : LowE h0 := ⟨by decide, by decide, by decide, by decide, by decide, by decide, by decide, by decide⟩
/-- A text's sum, as bytes. -/
def shaS (s : ByteArray) : List UInt8 := (shaL (natsOf s)).map UInt8.ofNat
theorem shaS_eq (s : ByteArray) : shaS s = hashB (blocks ((padL (natsOf s)).length / 64) h0 (padL (natsOf s))) := rfl
theorem shaS_length (s : ByteArray) : (shaS s).length = 32 := rfl

theorem blocks_append (m n : Nat) : ∀ (v : EightW) (a b : List Nat), a.length = 64 * m → blocks (m + n) v (a ++ b) = blocks n (blocks m v a) b := by
  induction m with
  | zero =>
    intro v a b h
    obtain rfl : a = [] := List.eq_nil_of_length_eq_zero (by omega)
    rw [Nat.zero_add]
    rfl
  | succ m ih =>
    intro v a b h
    rw [show m + 1 + n = (m + n) + 1 by omega, blocks, blocks, List.take_append_of_le_length (by omega), List.drop_append_of_le_length (by omega)]
    exact ih _ _ _ (by rw [List.length_drop]; omega)

theorem natsOf_mk (l : List UInt8) : natsOf ⟨l.toArray⟩ = l.map UInt8.toNat := by simp [natsOf]

theorem end_nats (s : ByteArray) (a : Nat) (ha : a = s.size - s.size % 64) :
    (natsOf s).take a ++ natsOf ⟨(endL (s.extract a s.size).data.toList s.size).toArray⟩ = padL (natsOf s) := by
  have hl := natsOf_length s
  have hx : natsOf (s.extract a s.size) = (natsOf s).drop a := by
    rw [natsOf_extract, List.take_of_length_le (by rw [List.length_drop, hl]; exact Nat.le_refl _)]
  have hxl : (s.extract a s.size).data.toList.length = s.size % 64 := by
    rw [Array.length_toList]
    show (s.extract a s.size).size = _
    simp
    omega
  rw [natsOf_mk (endL _ _), endL, hxl, padL, hl]
  simp only [List.map_append, List.map_replicate, eightL_nats, List.map_cons, List.map_nil]
  rw [show (s.extract a s.size).data.toList.map UInt8.toNat = natsOf (s.extract a s.size) from rfl, hx]
  rw [show (64 - (s.size % 64 + 9) % 64) % 64 = (119 - s.size % 64) % 64 by omega, Nat.mul_comm 8]
  simp only [← List.append_assoc, List.take_append_drop]
  rfl

theorem blocks_low (n : Nat) : ∀ (v : EightW) (l : List Nat), LowE v → LowE (blocks n v l) := by
  induction n with
  | zero => intro v l h; exact h
  | succ n ih => intro v l _; exact ih _ _ (addE_low _ _)

set_option maxRecDepth 100000 in
set_option maxHeartbeats 1600000 in
theorem code_sum (s : ByteArray) (hs : s.size ≤ 140737488355232) (w : World) :
    Calls Try.prog 11 #[.string s] w fun e w' => e = .returned (.agg (valsB (shaS s)).toArray) ∧ Below w.heap.size w w' := by
  obtain ⟨r, hr⟩ : ∃ r : Nat, s.size % 64 = r := ⟨_, rfl⟩
  obtain ⟨a, ha⟩ : ∃ a : Nat, s.size - r = a := ⟨_, rfl⟩
  have hrs : r ≤ s.size := by omega
  have hr64 : r ≤ 63 := by omega
  have has : a ≤ s.size := by omega
  have h1 : (s.size : Int) % 64 = (r : Int) := by omega
  have h2 : (s.size : Int) - (r : Int) = (a : Int) := by omega
  have HEND := Lib.hid (end_nats s a (by omega))
  have HR := Lib.hid hr
  have HA := Lib.hid ha
  clear hr ha
  go_enter Try.func11, Try.ntmps11
  go_wp2_with fail
  refine (code_square _).mono ?_
  rintro e w1 ⟨rfl, hb1⟩
  go_wp2_with fail
  refine (code_cube _).mono ?_
  rintro e w2 ⟨rfl, hb2⟩
  obtain ⟨Z, hZ⟩ : ∃ Z, (List.replicate 32 (Value.int .u8 0)).toArray = Z := ⟨_, rfl⟩
  have HZS := Lib.hid (show Z.size = 32 by rw [← hZ]; rfl)
  have hb1' : Below (w.alloc (.cells Z 23)).heap.size (w.alloc (.cells Z 23)) w1 := by rw [← hZ]; exact hb1
  have hs1 : w.heap.size + 1 ≤ w1.heap.size := by
    have := hb1'.size
    simp at this
    exact this
  have hs2 : w.heap.size + 1 ≤ w2.heap.size := Nat.le_trans hs1 hb2.size
  have HB := Lib.hid (((Below.refl w.heap.size w).alloc (Nat.le_refl _) (.cells Z 23)).trans ((hb1'.mono (by simp)).trans (hb2.mono (Nat.le_trans (Nat.le_succ _) hs1))))
  have HZ := Lib.hid ((hb2.block w.heap.size hs1).trans ((hb1'.block w.heap.size (by simp)).trans (heap_alloc_new w (.cells Z 23))))
  clear hb1 hb1' hb2 hs1 hZ
  go_upto_region 2 with (first | (refine wpList_store_row rfl 46 (.tmp 3) (.tmp 6) rfl w2.heap.size (vals32 hL).toArray rfl rfl 46 _ (heap_alloc2_old _ _ _) info_a8 rfl (rowE_one h0) ?_) | (refine wpList_store_row rfl 48 (.tmp 4) (.tmp 7) rfl (w2.heap.size + 1) (vals32 kL).toArray rfl rfl 48 _ ((setRow_other _ _ _ _ (by omega)).trans (heap_alloc2_new _ _ _)) info_a64 rfl (by simp only [vals32, List.all_toArray, List.all_map]; decide) ?_))
  generalize hW : (World.setRow (World.setRow _ _ _) _ _) = W
  have HG1 := Lib.hid (show W.heap[w2.heap.size]? = some (.cells (rowE h0) 46 (0, 0)) by
    rw [← hW]
    exact (setRow_other _ _ _ _ (by omega)).trans (setRow_heap _ _ _ _ _ _ (heap_alloc2_old _ _ _)))
  have HG2 := Lib.hid (show W.heap[w2.heap.size + 1]? = some (.cells (vals32 kL).toArray 48 (0, 0)) by
    rw [← hW]
    exact setRow_heap _ _ _ _ _ _ ((setRow_other _ _ _ _ (by omega)).trans (heap_alloc2_new _ _ _)))
  have HGZ := Lib.hid (show W.heap[w.heap.size]? = some (.cells Z 23 (0, 0)) by
    rw [← hW]
    exact (setRow_other _ _ _ _ (by omega)).trans ((setRow_other _ _ _ _ (by omega)).trans ((Below.heap_alloc _ _ _ (by simp; omega)).trans ((Below.heap_alloc _ _ _ (by omega)).trans HZ.out))))
  have HBW := Lib.hid (show Below w.heap.size w W by
    rw [← hW]
    exact below_setRow (below_setRow ((HB.out.alloc (by omega) _).alloc (by simp; omega) _) (by omega) _) (by omega) _)
  clear hW
  have hlx : (s.extract 0 a).size = a := by simp; omega
  have hlt : ((s.extract a s.size)).size = r := by simp; have := HA.out; omega
  have ham : a = 64 * (a / 64) := by have := HA.out; have := HR.out; omega
  have HGO := Lib.hid (code_goOn (s.extract 0 a) (a / 64) (by rw [hlx]; exact ham) (by rw [hlx]; omega) w2.heap.size (w2.heap.size + 1) h0 h0_low W (by omega) HG1.out HG2.out)
  have HEN := Lib.hid (fun w => code_ending (s.extract a s.size) s.size (by rw [hlt]; omega) (by omega) w)
  have HLT := Lib.hid hlt
  have HLX := Lib.hid hlx
  have HAM := Lib.hid ham
  clear hlx hlt ham
  go_wp2_with fail
  refine HGO.out.mono ?_
  rintro e w3 ⟨rfl, hg3, hbut3⟩
  have HG3 := Lib.hid hg3
  have HBUT3 := Lib.hid hbut3
  clear hg3 hbut3
  go_wp2_with fail
  refine (HEN.out _).mono ?_
  rintro e w4 ⟨rfl, hb4⟩
  have HB4 := Lib.hid hb4
  clear hb4
  have HND := HEND.out
  obtain ⟨T, hT⟩ : ∃ T : ByteArray, (⟨(endL (s.extract a s.size).data.toList s.size).toArray⟩ : ByteArray) = T := ⟨_, rfl⟩
  rw [hT] at HND
  rw [hT]
  clear hT
  have hpw := pad_whole (natsOf s)
  have hpl : a + T.size = (padL (natsOf s)).length := by
    rw [← HND, List.length_append, natsOf_length, List.length_take, natsOf_length]
    omega
  have hpm : (padL (natsOf s)).length ≤ s.size + 136 := by
    simp only [padL, List.length_append, List.length_replicate, natsOf_length, List.length_cons, List.length_nil, show ∀ n, (eightN n).length = 8 from fun _ => rfl]
    omega
  have ham := HAM.out
  obtain ⟨m, hm⟩ : ∃ m, (padL (natsOf s)).length / 64 = a / 64 + m := ⟨(padL (natsOf s)).length / 64 - a / 64, by omega⟩
  have hTm : T.size = 64 * m := by omega
  have hA : natsOf (s.extract 0 a) = (natsOf s).take a := by rw [natsOf_extract]; rfl
  have HV := Lib.hid (show blocks m (blocks (a / 64) h0 (natsOf (s.extract 0 a))) (natsOf T) = blocks ((padL (natsOf s)).length / 64) h0 (padL (natsOf s)) by
    rw [hm, ← HND, blocks_append _ _ _ _ _ (by rw [List.length_take, natsOf_length]; omega), hA])
  have hl1 : w2.heap.size < w3.heap.size := (Array.getElem?_eq_some_iff.1 HG3.out).1
  have hl2 : w2.heap.size + 1 < W.heap.size := (Array.getElem?_eq_some_iff.1 HG2.out).1
  have hl3 : w2.heap.size + 1 < w3.heap.size := Nat.lt_of_lt_of_le hl2 HBUT3.out.size
  have HGO2 := Lib.hid (code_goOn T m hTm (by omega) w2.heap.size (w2.heap.size + 1) _ (blocks_low (a / 64) h0 (natsOf (s.extract 0 a)) h0_low) w4 (by omega) ((HB4.out.block _ hl1).trans HG3.out) ((HB4.out.block _ hl3).trans ((HBUT3.out.block _ hl2 (by omega)).trans HG2.out)))
  clear hpw hpl hpm ham hm hTm hA HND hl1 hl2 hl3
  go_wp2_with fail
  refine HGO2.out.mono ?_
  rintro e w5 ⟨rfl, hg5, hbut5⟩
  rw [HV.out] at hg5
  obtain ⟨V, hV⟩ : ∃ V, blocks ((padL (natsOf s)).length / 64) h0 (padL (natsOf s)) = V := ⟨_, rfl⟩
  have HVL := Lib.hid (show LowE V by rw [← hV]; exact blocks_low _ _ _ h0_low)
  have HVS := Lib.hid (show shaS s = hashB V by rw [← hV]; rfl)
  rw [hV] at hg5
  have HG5 := Lib.hid hg5
  have HBUT5 := Lib.hid hbut5
  clear hg5 hbut5 hV
  go_wp2_with (refine wpList_load_row rfl 46 (.tmp 3) rfl w2.heap.size rfl 46 (rowE V) (0, 0) _ HG5.out Try.underlying46 rfl info_a8 ?_)
  refine (code_hashOf V HVL.out _).mono ?_
  rintro e w6 ⟨rfl, hb6⟩
  have HB6 := Lib.hid hb6
  clear hb6
  have hsz : (valsB (hashB V)).toArray.size = 32 := rfl
  have hone : (valsB (hashB V)).toArray.all (·.oneCell') = true := by simp [valsB, Value.oneCell']
  obtain ⟨C, hC⟩ : ∃ C, (valsB (hashB V)).toArray = C := ⟨_, rfl⟩
  have HCC := Lib.hid hC
  rw [hC] at hsz hone
  rw [hC]
  clear hC
  have HINF := Lib.hid (show (Try.prog.info? 23).map (·.size) = some C.size by rw [hsz]; exact info_hash)
  have HF := Lib.hid (show w6.heap[w.heap.size]? = some (.cells Z 23 (0, 0)) ∧ Below w.heap.size w w6 by
    have z0 : w.heap.size < w2.heap.size := (Array.getElem?_eq_some_iff.1 HZ.out).1
    have zW : w.heap.size < W.heap.size := (Array.getElem?_eq_some_iff.1 HGZ.out).1
    have z3 : w.heap.size < w3.heap.size := Nat.lt_of_lt_of_le zW HBUT3.out.size
    have z4 : w.heap.size < w4.heap.size := Nat.lt_of_lt_of_le z3 HB4.out.size
    have z5 : w.heap.size < w5.heap.size := Nat.lt_of_lt_of_le z4 HBUT5.out.size
    have b3 : Below w.heap.size W w3 := ⟨HBUT3.out.os, HBUT3.out.tape, HBUT3.out.output, HBUT3.out.size, fun k hk => HBUT3.out.block k (by omega) (by omega)⟩
    have b5 : Below w.heap.size w4 w5 := ⟨HBUT5.out.os, HBUT5.out.tape, HBUT5.out.output, HBUT5.out.size, fun k hk => HBUT5.out.block k (by omega) (by omega)⟩
    exact ⟨(HB6.out.block _ z5).trans ((HBUT5.out.block _ z4 (by omega)).trans ((HB4.out.block _ z3).trans ((HBUT3.out.block _ zW (by omega)).trans HGZ.out))),
      (((HBW.out.trans b3).trans (HB4.out.mono (Nat.le_of_lt z3))).trans b5).trans (HB6.out.mono (Nat.le_of_lt z5))⟩)
  have hzs : Z.size = C.size := by rw [HZS.out, hsz]
  go_wp2_with (refine wpList_store_row rfl 23 (.tmp 2) (.tmp 26) rfl w.heap.size C rfl rfl 23 Z HF.out.1 HINF.out hzs hone ?_)
  refine bodyPost_ret (results_cell_row (p := 2) (ty := 23) Try.results11 _ _ w.heap.size 23 C (0, 0) _ rfl (setRow_heap _ _ _ _ _ _ HF.out.1) Try.underlying23 rfl HINF.out) rfl ⟨by rw [← HCC.out, HVS.out], below_setRow HF.out.2 (Nat.le_refl _) _⟩

end Go.Proofs.Ytlalipomphgcoaa.Sha
