/- once: that a message is signed, and checked. -/
import Derived.Test.YtlalipomphgcoaaOnU
namespace Go.Proofs.Ytlalipomphgcoaa.Once
open Go.RowKit Go.Proofs.Ytlalipomphgcoaa.Sha Go.Proofs.Ytlalipomphgcoaa.Tree

theorem check_right (seed m : List UInt8) (sig : ByteArray) (h : sig.data.toList = signK seed m) : checkK (pubK seed) m sig = true := by
  have hs : sig.size = 1024 := by rw [← list_size, h, signK_len]
  unfold checkK tellsH
  rw [if_pos hs, h, tell_right]
  simp [hs]
theorem check_sized (pub m : List UInt8) (sig : ByteArray) (h : sig.size ≠ 1024) : checkK pub m sig = false := by
  unfold checkK
  simp [h]
def seed1 : List UInt8 := 1 :: List.replicate 31 0
def seed2 : List UInt8 := 2 :: List.replicate 31 0
theorem mk_list (l : List UInt8) : (⟨l.toArray⟩ : ByteArray).data.toList = l := rfl
theorem pubK_len (seed : List UInt8) : (pubK seed).length = 32 := rfl
theorem signK_size (seed m : List UInt8) : (⟨(signK seed m).toArray⟩ : ByteArray).size = 1024 := by rw [size_mk, signK_len]

set_option maxRecDepth 100000 in
set_option maxHeartbeats 3200000 in
theorem works5' (seed1 seed2 : List UInt8) (hl1 : seed1.length = 32) (hl2 : seed2.length = 32) (hb1 : ∀ a : Act, Try.prog.built 23 ((#[(0, .const (.int .u8 1))] : Array (Nat × Operand)).map fun (i, x) => (i, a.eval x)).toList = some (valsB seed1).toArray) (hb2 : ∀ a : Act, Try.prog.built 23 ((#[(0, .const (.int .u8 2))] : Array (Nat × Operand)).map fun (i, x) => (i, a.eval x)).toList = some (valsB seed2).toArray) (w : World) : Calls Try.prog 22 #[] w fun e w' => e = .returned (.bool true) ∧ Below w.heap.size w w' := by
  have HSG := Lib.hid (fun w => code_Sign seed1 seed2 hl1 hl2 w)
  have HPB := Lib.hid (fun w => code_Public seed1 hl1 w)
  have HC1 := Lib.hid (fun w => code_Check (pubK seed1) seed2 (pubK_len seed1) hl2 ⟨(signK seed1 seed2).toArray⟩ w)
  have HC0 := Lib.hid (fun w => code_Check (pubK seed1) seed2 (pubK_len seed1) hl2 ⟨#[]⟩ w)
  rw [check_right seed1 seed2 ⟨(signK seed1 seed2).toArray⟩ (mk_list _)] at HC1
  rw [check_sized (pubK seed1) seed2 ⟨#[]⟩ (by decide)] at HC0
  have hsz := signK_size seed1 seed2
  obtain ⟨S, hS⟩ : ∃ S : ByteArray, (⟨(signK seed1 seed2).toArray⟩ : ByteArray) = S := ⟨_, rfl⟩
  obtain ⟨CP, hCP⟩ : ∃ C, (valsB (pubK seed1)).toArray = C := ⟨_, rfl⟩
  obtain ⟨C1, hC1⟩ : ∃ C, (valsB seed1).toArray = C := ⟨_, rfl⟩
  obtain ⟨C2, hC2⟩ : ∃ C, (valsB seed2).toArray = C := ⟨_, rfl⟩
  simp only [hC1] at hb1
  simp only [hC2] at hb2
  rw [hC1, hC2, hS] at HSG
  rw [hC1, hCP] at HPB
  rw [hCP, hC2, hS] at HC1
  rw [hCP, hC2] at HC0
  rw [hS] at hsz
  have HB1 := Lib.hid hb1
  have HB2 := Lib.hid hb2
  have hszi : (S.size : Int) = 1024 := by omega
  clear hC1 hC2 hCP hS hb1 hb2 hl1 hl2
  go_enter Try.func22, Try.ntmps22
  go_wp2_with (first
    | (refine wpList_build_as rfl 23 #[(0, .const (.int .u8 1))] rfl C1 (HB1.out _) ?_)
    | (refine wpList_build_as rfl 23 #[(0, .const (.int .u8 2))] rfl C2 (HB2.out _) ?_))
  refine (HSG.out _).mono ?_
  rintro e w1 ⟨rfl, hb1⟩
  have HW1 := Lib.hid hb1
  clear hb1
  go_wp2_with (first
    | (refine wpList_build_g rfl 23 #[(0, .const (.int .u8 1))] rfl C1 (HB1.out _) ?_)
    | (refine wpList_build_g rfl 23 #[(0, .const (.int .u8 2))] rfl C2 (HB2.out _) ?_))
  refine (HPB.out _).mono ?_
  rintro e w2 ⟨rfl, hb2⟩
  have HW2 := Lib.hid (HW1.out.trans (hb2.mono HW1.out.size))
  clear hb2
  go_wp2_with (first
    | (refine wpList_build_g rfl 23 #[(0, .const (.int .u8 1))] rfl C1 (HB1.out _) ?_)
    | (refine wpList_build_g rfl 23 #[(0, .const (.int .u8 2))] rfl C2 (HB2.out _) ?_))
  refine (HC1.out _).mono ?_
  rintro e w3 ⟨rfl, hb3⟩
  have HW3 := Lib.hid (HW2.out.trans (hb3.mono HW2.out.size))
  clear hb3
  go_wp2_with (first
    | (refine wpList_build_g rfl 23 #[(0, .const (.int .u8 1))] rfl C1 (HB1.out _) ?_)
    | (refine wpList_build_g rfl 23 #[(0, .const (.int .u8 2))] rfl C2 (HB2.out _) ?_))
  refine (HPB.out _).mono ?_
  rintro e w4 ⟨rfl, hb4⟩
  have HW4 := Lib.hid (HW3.out.trans (hb4.mono HW3.out.size))
  clear hb4
  go_wp2_with (first
    | (refine wpList_build_g rfl 23 #[(0, .const (.int .u8 1))] rfl C1 (HB1.out _) ?_)
    | (refine wpList_build_g rfl 23 #[(0, .const (.int .u8 2))] rfl C2 (HB2.out _) ?_))
  refine (HC0.out _).mono ?_
  rintro e w5 ⟨rfl, hb5⟩
  have HW5 := Lib.hid (HW4.out.trans (hb5.mono HW4.out.size))
  clear hb5
  go_wp2_with fail
  go_ret
  exact ⟨rfl, HW5.out⟩

theorem seed1_len : seed1.length = 32 := rfl
theorem seed2_len : seed2.length = 32 := rfl
theorem seed1_built : ∀ a : Act, Try.prog.built 23 ((#[(0, .const (.int .u8 1))] : Array (Nat × Operand)).map fun (i, x) => (i, a.eval x)).toList = some (valsB seed1).toArray := fun a => by kernel_rfl
theorem seed2_built : ∀ a : Act, Try.prog.built 23 ((#[(0, .const (.int .u8 2))] : Array (Nat × Operand)).map fun (i, x) => (i, a.eval x)).toList = some (valsB seed2).toArray := fun a => by kernel_rfl
theorem works5 (w : World) : Calls Try.prog 22 #[] w fun e w' => e = .returned (.bool true) ∧ Below w.heap.size w w' :=
  works5' seed1 seed2 seed1_len seed2_len seed1_built seed2_built w

theorem zero_built : ∀ a : Act, Try.prog.built 23 ((#[] : Array (Nat × Operand)).map fun (i, x) => (i, a.eval x)).toList = some zeroB := fun a => by kernel_rfl

set_option maxRecDepth 100000 in
set_option maxHeartbeats 3200000 in
theorem law_OnceKnown (w : World) : Calls Try.prog 5 #[] w fun e w' => e = .returned (.bool true) ∧ Below w.heap.size w w' := by
  obtain ⟨zl, hzl⟩ : ∃ l : List UInt8, List.replicate 32 0 = l := ⟨_, rfl⟩
  have hzlen : zl.length = 32 := by rw [← hzl]; rfl
  have hzb : zeroB = (valsB zl).toArray := by rw [← hzl]; rfl
  have HTN := Lib.hid (fun w => code_Tells_no zl ⟨#[]⟩ (by decide) w)
  have HPB := Lib.hid (fun w => code_Public zl hzlen w)
  have HC0 := Lib.hid (fun w => code_Check (pubK zl) zl (pubK_len zl) hzlen ⟨#[]⟩ w)
  rw [check_sized (pubK zl) zl ⟨#[]⟩ (by decide)] at HC0
  have HRZ := Lib.hid (row32 zl hzlen)
  have hbz := zero_built
  simp only [hzb] at hbz HTN
  obtain ⟨CP, hCP⟩ : ∃ C, (valsB (pubK zl)).toArray = C := ⟨_, rfl⟩
  obtain ⟨CZ, hCZ⟩ : ∃ C, (valsB zl).toArray = C := ⟨_, rfl⟩
  simp only [hCZ] at HTN hbz HRZ
  rw [hCZ, hCP] at HPB
  rw [hCZ, hCP] at HC0
  have HBZ := Lib.hid hbz
  have HZ32 := Lib.hid (show (List.replicate 32 (Value.int .u8 0)).toArray.size = CZ.size by rw [HRZ.out.size]; rfl)
  clear hzl hzb hCP hCZ hbz
  go_enter Try.func5, Try.ntmps5
  go_wp2_with (refine wpList_build_as rfl 23 #[] rfl CZ (HBZ.out _) ?_)
  refine (HTN.out _).mono ?_
  rintro e w1 ⟨rfl, hb1⟩
  have HW1 := Lib.hid hb1
  clear hb1
  go_upto_region 2 with (refine wpList_store_row rfl 23 (.tmp 1) (.tmp 6) rfl w1.heap.size CZ rfl rfl 23 (List.replicate 32 (Value.int .u8 0)).toArray (heap_alloc_new _ _) HRZ.out.info HZ32.out HRZ.out.one ?_; rw [World.setRow_alloc_new])
  have HW2 := Lib.hid (HW1.out.trans (((Below.refl w1.heap.size w1).alloc (Nat.le_refl _) (.cells CZ 23)).mono HW1.out.size))
  generalize w1.alloc (.cells CZ 23) = w2 at HW2 ⊢
  go_wp2_with fail
  refine (works5 _).mono ?_
  rintro e w3 ⟨rfl, hb3⟩
  have HW3 := Lib.hid (HW2.out.trans (hb3.mono HW2.out.size))
  clear hb3
  go_wp2_with (refine wpList_build_g rfl 23 #[] rfl CZ (HBZ.out _) ?_)
  refine (HPB.out _).mono ?_
  rintro e w4 ⟨rfl, hb4⟩
  have HW4 := Lib.hid (HW3.out.trans (hb4.mono HW3.out.size))
  clear hb4
  go_wp2_with (refine wpList_build_g rfl 23 #[] rfl CZ (HBZ.out _) ?_)
  refine (HC0.out _).mono ?_
  rintro e w5 ⟨rfl, hb5⟩
  have HW5 := Lib.hid (HW4.out.trans (hb5.mono HW4.out.size))
  clear hb5
  go_wp2_with fail
  go_ret
  exact ⟨rfl, HW5.out⟩

end Go.Proofs.Ytlalipomphgcoaa.Once
