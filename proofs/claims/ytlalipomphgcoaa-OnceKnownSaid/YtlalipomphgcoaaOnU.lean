/- once: the code's Tells and Check. -/
import Derived.Test.YtlalipomphgcoaaOnT
namespace Go.Proofs.Ytlalipomphgcoaa.Once
open Go.RowKit Go.Proofs.Ytlalipomphgcoaa.Sha Go.Proofs.Ytlalipomphgcoaa.Tree

/-- Three blocks laid one behind the other. -/
theorem three_old (w : World) (a b c : Obj) : (((w.alloc a).alloc b).alloc c).heap[w.heap.size]? = some a := by
  have h := heap_alloc2_old w a b
  have hb : Below ((w.alloc a).alloc b).heap.size ((w.alloc a).alloc b) (((w.alloc a).alloc b).alloc c) := (Below.refl _ _).alloc (Nat.le_refl _) _
  rw [hb.block _ (by simp; omega)]
  exact h
theorem three_mid (w : World) (a b c : Obj) : (((w.alloc a).alloc b).alloc c).heap[w.heap.size + 1]? = some b := by
  have h := heap_alloc2_new w a b
  have hb : Below ((w.alloc a).alloc b).heap.size ((w.alloc a).alloc b) (((w.alloc a).alloc b).alloc c) := (Below.refl _ _).alloc (Nat.le_refl _) _
  rw [hb.block _ (by simp)]
  exact h
theorem three_new (w : World) (a b c : Obj) : (((w.alloc a).alloc b).alloc c).heap[w.heap.size + 2]? = some c := by
  have h := heap_alloc_new ((w.alloc a).alloc b) c
  rw [show ((w.alloc a).alloc b).heap.size = w.heap.size + 2 by simp] at h
  exact h
theorem three_below (w : World) (a b c : Obj) : Below w.heap.size w (((w.alloc a).alloc b).alloc c) := (((Below.refl _ _).alloc (Nat.le_refl _) _).alloc (by simp) _).alloc (by simp; omega) _

set_option maxRecDepth 100000 in
set_option maxHeartbeats 3200000 in
theorem code_Tells_no (m : List UInt8) (sig : ByteArray) (hsz : sig.size ≠ 1024) (w : World) :
    Calls Try.prog 21 #[.agg (valsB m).toArray, .string sig] w fun e w' => e = .returned (.tuple #[.agg zeroB, .int .i64 6]) ∧ Below w.heap.size w w' := by
  obtain ⟨CM, hCM⟩ : ∃ C, (valsB m).toArray = C := ⟨_, rfl⟩
  rw [hCM]
  have hlen : ((sig.size : Int) != 1024) = true := by simp; omega
  clear hCM hsz
  go_enter Try.func21, Try.ntmps21
  go_upto_region 1 with (fail)
  rw [zero32]
  obtain ⟨Z, hZ⟩ : ∃ Z, (List.replicate 32 (Value.int .u8 0)).toArray = Z := ⟨_, rfl⟩
  have HZS := Lib.hid (show Z.size = 32 by rw [← hZ]; rfl)
  rw [hZ]
  clear hZ
  have HS := Lib.hid (three_mid w (.cells CM 23) (.cells #[.string sig] 9) (.cells Z 23))
  have HZ := Lib.hid (three_new w (.cells CM 23) (.cells #[.string sig] 9) (.cells Z 23))
  have HB := Lib.hid (three_below w (.cells CM 23) (.cells #[.string sig] 9) (.cells Z 23))
  generalize ((w.alloc (.cells CM 23)).alloc (.cells #[.string sig] 9)).alloc (.cells Z 23) = W at HS HZ HB ⊢
  have hc : W.cell? ⟨w.heap.size + 1, 0, none⟩ = some (.string sig) := by rw [Lib.cell_of_heap HS.out]; rfl
  have HZD := Lib.hid (show Z.size = zeroB.size by rw [HZS.out]; rfl)
  go_wp2_with (first | (refine wpList_build_as rfl 23 _ rfl zeroB (by kernel_rfl) ?_) | (refine wpList_store_row rfl 23 (.tmp 4) (.tmp 10) rfl (w.heap.size + 2) zeroB rfl rfl 23 Z HZ.out zeroB_info HZD.out zeroB_one ?_))
  refine bodyPost_ret (Sha.results_cell_tmp (p := 4) (t := 5) (ty := 23) Try.results21 _ _ (w.heap.size + 2) 23 zeroB (0, 0) _ _ rfl rfl (setRow_heap _ _ _ _ _ _ HZ.out) Try.underlying23 rfl zeroB_info) rfl ⟨rfl, below_setRow HB.out (by omega) _⟩

set_option maxRecDepth 100000 in
set_option maxHeartbeats 3200000 in
theorem code_Tells (m : List UInt8) (hm : m.length = 32) (sig : ByteArray) (hsz : sig.size = 1024) (w : World) :
    Calls Try.prog 21 #[.agg (valsB m).toArray, .string sig] w fun e w' => e = .returned (.tuple #[.agg (valsB (tellK m sig.data.toList)).toArray, .int .i64 0]) ∧ Below w.heap.size w w' := by
  have hls : sig.data.toList.length = 1024 := by rw [list_size, hsz]
  have HK := Lib.hid (fun (g0 g1 : Nat) (w : World) (h0 : w.heap[g0]? = some (.cells #[.string sig] 9 (0, 0))) (h1 : w.heap[g1]? = some (.cells (valsB m).toArray 23 (0, 0))) => code_keyOf_tell (tellF m sig.data.toList) (fun i hi => tellF_len m _ hls i hi) g0 g1 w fun i W hi hb => code_tell1 m hm sig hsz g0 g1 i hi W ((hb.block g0 ((Array.getElem?_eq_some_iff.1 h0).1)).trans h0) ((hb.block g1 ((Array.getElem?_eq_some_iff.1 h1).1)).trans h1))
  rw [show onceF (keyA (tellF m sig.data.toList) 16) = tellK m sig.data.toList from rfl] at HK
  have HRM := Lib.hid (row32 m hm)
  obtain ⟨CM, hCM⟩ : ∃ C, (valsB m).toArray = C := ⟨_, rfl⟩
  rw [hCM] at HRM
  simp only [hCM] at HK
  rw [hCM]
  have HRD := Lib.hid (row32 (tellK m sig.data.toList) rfl)
  obtain ⟨D, hD⟩ : ∃ D, (valsB (tellK m sig.data.toList)).toArray = D := ⟨_, rfl⟩
  rw [hD] at HRD
  simp only [hD] at HK
  rw [hD]
  have hlen : ((sig.size : Int) != 1024) = false := by simp; omega
  clear hCM hD hm hls hsz
  go_enter Try.func21, Try.ntmps21
  go_upto_region 1 with (fail)
  rw [zero32]
  obtain ⟨Z, hZ⟩ : ∃ Z, (List.replicate 32 (Value.int .u8 0)).toArray = Z := ⟨_, rfl⟩
  have HZS := Lib.hid (show Z.size = 32 by rw [← hZ]; rfl)
  have HZE := Lib.hid hZ
  rw [hZ]
  clear hZ
  have HM := Lib.hid (three_old w (.cells CM 23) (.cells #[.string sig] 9) (.cells Z 23))
  have HS := Lib.hid (three_mid w (.cells CM 23) (.cells #[.string sig] 9) (.cells Z 23))
  have HZ := Lib.hid (three_new w (.cells CM 23) (.cells #[.string sig] 9) (.cells Z 23))
  have HB := Lib.hid (three_below w (.cells CM 23) (.cells #[.string sig] 9) (.cells Z 23))
  generalize ((w.alloc (.cells CM 23)).alloc (.cells #[.string sig] 9)).alloc (.cells Z 23) = W at HM HS HZ HB ⊢
  have hc : W.cell? ⟨w.heap.size + 1, 0, none⟩ = some (.string sig) := by rw [Lib.cell_of_heap HS.out]; rfl
  obtain ⟨g0, hg0⟩ : ∃ g, w.heap.size = g := ⟨_, rfl⟩
  obtain ⟨g1, hg1⟩ : ∃ g, g0 + 1 = g := ⟨_, rfl⟩
  obtain ⟨g2, hg2⟩ : ∃ g, g1 + 1 = g := ⟨_, rfl⟩
  rw [hg0] at HM HS HZ HB hc
  rw [hg1] at HS hc
  rw [show g0 + 2 = g2 by omega] at HZ
  rw [hg0, hg1, hg2]
  have HG := Lib.hid (And.intro hg0 (show g0 ≤ g2 by omega))
  have HKC := Lib.hid (HK.out g1 g0 W HS.out HM.out)
  have HZL := Lib.hid ((Array.getElem?_eq_some_iff.1 HZ.out).1)
  clear hg0 hg1 hg2
  have hmf : ∀ (fn : Fn) (first cap : Array Value) (w : World), (Instr.makeFunc fn first cap).run Try.prog w = .ok (.func fn first cap) w := fun _ _ _ _ => rfl
  go_wp2_with fail
  refine HKC.out.mono ?_
  rintro e w4 ⟨rfl, hb⟩
  have HZ4 := Lib.hid ((hb.block _ HZL.out).trans HZ.out)
  have HB4 := Lib.hid (HB.out.trans (hb.mono (by have := HG.out.2; have := HZL.out; omega)))
  have HL4 := Lib.hid (Nat.lt_of_lt_of_le HZL.out hb.size)
  clear hb
  have HZD := Lib.hid (show Z.size = D.size by rw [HZS.out, HRD.out.size])
  have HZ32 := Lib.hid (show (List.replicate 32 (Value.int .u8 0)).toArray.size = D.size by rw [HRD.out.size]; rfl)
  go_upto_region 4 with (refine wpList_store_row rfl 23 (.tmp 6) (.tmp 12) rfl w4.heap.size D rfl rfl 23 (List.replicate 32 (Value.int .u8 0)).toArray (heap_alloc_new _ _) HRD.out.info HZ32.out HRD.out.one ?_; rw [World.setRow_alloc_new])
  have hb5 : Below w4.heap.size w4 (w4.alloc (.cells D 23)) := (Below.refl _ _).alloc (Nat.le_refl _) _
  have H6 := Lib.hid (heap_alloc_new w4 (.cells D 23))
  have HZ5 := Lib.hid ((hb5.block _ HL4.out).trans HZ4.out)
  have HB5 := Lib.hid (HB4.out.trans (hb5.mono (by have := HG.out.2; have := HL4.out; omega)))
  clear hb5
  generalize w4.alloc (.cells D 23) = w5 at H6 HZ5 HB5 ⊢
  go_wp2_with (first
    | (refine wpList_load_row rfl 23 (.tmp 6) rfl w4.heap.size rfl 23 D (0, 0) _ H6.out Try.underlying23 rfl HRD.out.info ?_)
    | (refine wpList_store_row rfl 23 (.tmp 4) (.tmp 13) rfl g2 D rfl rfl 23 Z HZ5.out HRD.out.info HZD.out HRD.out.one ?_))
  refine bodyPost_ret (Sha.results_cell_tmp (p := 4) (t := 5) (ty := 23) Try.results21 _ _ g2 23 D (0, 0) _ _ rfl rfl (setRow_heap _ _ _ _ _ _ HZ5.out) Try.underlying23 rfl HRD.out.info) rfl ⟨rfl, HG.out.1 ▸ below_setRow HB5.out HG.out.2 _⟩

/-- What is told of any bytes, and its error. -/
def tellsH (m : List UInt8) (sig : ByteArray) : List UInt8 := if sig.size = 1024 then tellK m sig.data.toList else List.replicate 32 0
def tellsE (sig : ByteArray) : Int := if sig.size = 1024 then 0 else 6
theorem tellsH_len (m : List UInt8) (sig : ByteArray) : (tellsH m sig).length = 32 := by
  unfold tellsH
  split <;> rfl
theorem code_TellsA (m : List UInt8) (hm : m.length = 32) (sig : ByteArray) (w : World) :
    Calls Try.prog 21 #[.agg (valsB m).toArray, .string sig] w fun e w' => e = .returned (.tuple #[.agg (valsB (tellsH m sig)).toArray, .int .i64 (tellsE sig)]) ∧ Below w.heap.size w w' := by
  by_cases h : sig.size = 1024
  · rw [show tellsH m sig = tellK m sig.data.toList from if_pos h, show tellsE sig = 0 from if_pos h]
    exact code_Tells m hm sig h w
  · rw [show tellsH m sig = List.replicate 32 0 from if_neg h, show tellsE sig = 6 from if_neg h]
    exact code_Tells_no m sig h w

def checkK (pub m : List UInt8) (sig : ByteArray) : Bool := decide (sig.size = 1024) && (tellsH m sig == pub)

set_option maxRecDepth 100000 in
set_option maxHeartbeats 3200000 in
theorem code_Check (pub m : List UInt8) (hp : pub.length = 32) (hm : m.length = 32) (sig : ByteArray) (w : World) :
    Calls Try.prog 23 #[.agg (valsB pub).toArray, .agg (valsB m).toArray, .string sig] w fun e w' => e = .returned (.bool (checkK pub m sig)) ∧ Below w.heap.size w w' := by
  have HT := Lib.hid (fun w => code_TellsA m hm sig w)
  have HE := fun w => eqIn_hash (tellsH m sig) pub (tellsH_len m sig) hp w
  have HRP := Lib.hid (row32 pub hp)
  have HRM := Lib.hid (row32 m hm)
  have HRD := Lib.hid (row32 (tellsH m sig) (tellsH_len m sig))
  have HCK := Lib.hid (show checkK pub m sig = ((tellsE sig == 0) && (tellsH m sig == pub)) by
    unfold checkK tellsE
    by_cases h : sig.size = 1024 <;> simp [h])
  have hee : tellsE sig = 0 ∨ tellsE sig = 6 := by unfold tellsE; split <;> simp
  obtain ⟨CP, hCP⟩ : ∃ C, (valsB pub).toArray = C := ⟨_, rfl⟩
  obtain ⟨CM, hCM⟩ : ∃ C, (valsB m).toArray = C := ⟨_, rfl⟩
  obtain ⟨D, hD⟩ : ∃ C, (valsB (tellsH m sig)).toArray = C := ⟨_, rfl⟩
  obtain ⟨E, hE⟩ : ∃ C, tellsE sig = C := ⟨_, rfl⟩
  obtain ⟨B, hB⟩ : ∃ C, (tellsH m sig == pub) = C := ⟨_, rfl⟩
  rw [hD, hE] at HT
  rw [hCM] at HT HRM
  rw [hCP] at HRP
  rw [hD, hCP, hB] at HE
  rw [hD] at HRD
  rw [hE, hB] at HCK
  rw [hE] at hee
  rw [hCP, hCM, HCK.out]
  clear hCP hCM hD hE hB HCK hm hp
  go_enter Try.func23, Try.ntmps23
  go_upto_region 1 with (fail)
  have HG0 := Lib.hid (heap_alloc2_old w (.cells CP 23) (.cells CM 23))
  have HG1 := Lib.hid (heap_alloc2_new w (.cells CP 23) (.cells CM 23))
  have HBW := Lib.hid (show Below w.heap.size w ((w.alloc (.cells CP 23)).alloc (.cells CM 23)) from ((Below.refl _ _).alloc (Nat.le_refl _) _).alloc (by simp) _)
  generalize (w.alloc (.cells CP 23)).alloc (.cells CM 23) = W at HG0 HG1 HBW ⊢
  have HL0 := Lib.hid ((Array.getElem?_eq_some_iff.1 HG0.out).1)
  have HZ32 := Lib.hid (show (List.replicate 32 (Value.int .u8 0)).toArray.size = D.size by rw [HRD.out.size]; rfl)
  go_wp2_with (refine wpList_load_row rfl 23 (.tmp 4) rfl (w.heap.size + 1) rfl 23 CM (0, 0) _ HG1.out Try.underlying23 rfl HRM.out.info ?_)
  refine (HT.out _).mono ?_
  rintro e w3 ⟨rfl, hb3⟩
  have HB3 := Lib.hid hb3
  clear hb3
  go_upto_region 2 with (refine wpList_store_row rfl 23 (.tmp 7) (.tmp 13) rfl w3.heap.size D rfl rfl 23 (List.replicate 32 (Value.int .u8 0)).toArray (heap_alloc_new _ _) HRD.out.info HZ32.out HRD.out.one ?_; rw [World.setRow_alloc_new])
  have hb4 : Below w3.heap.size w3 (w3.alloc (.cells D 23)) := (Below.refl _ _).alloc (Nat.le_refl _) _
  have H7 := Lib.hid (heap_alloc_new w3 (.cells D 23))
  have hb5 := HB3.out.trans (hb4.mono HB3.out.size)
  have HP5 := Lib.hid ((hb5.block _ HL0.out).trans HG0.out)
  have HB5 := Lib.hid (HBW.out.trans (hb5.mono (Nat.le_of_lt HL0.out)))
  clear hb4 hb5
  generalize w3.alloc (.cells D 23) = w5 at H7 HP5 HB5 ⊢
  rcases hee with rfl | rfl
  · go_wp2_with (first
      | (refine wpList_load_row_g rfl 23 (.tmp 7) rfl w3.heap.size rfl 23 D (0, 0) _ H7.out Try.underlying23 rfl HRD.out.info ?_)
      | (refine wpList_load_row_g rfl 23 (.tmp 3) rfl w.heap.size rfl 23 CP (0, 0) _ HP5.out Try.underlying23 rfl HRP.out.info ?_))
    go_ret
    exact ⟨rfl, HB5.out⟩
  · go_wp2_with fail
    go_ret
    exact ⟨rfl, HB5.out⟩

end Go.Proofs.Ytlalipomphgcoaa.Once
