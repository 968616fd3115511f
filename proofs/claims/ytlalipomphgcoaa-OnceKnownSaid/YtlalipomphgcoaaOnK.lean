/- once: the code's keyOf, over each of its closures. -/
import Derived.Test.YtlalipomphgcoaaOnS
import Derived.Test.YtlalipomphgcoaaOnB
namespace Go.Proofs.Ytlalipomphgcoaa.Once
open Go.RowKit Go.Proofs.Ytlalipomphgcoaa.Sha Go.Proofs.Ytlalipomphgcoaa.Tree

theorem rowL_one (tag : ByteArray) (a : ByteArray) (ht : tag.size ≤ 100) (ha : a.size ≤ 5000) : (rowL tag [a]).length ≤ 10000 := by
  have h1 := putText_len tag.data.toList
  have h2 : tag.data.toList.length = tag.size := by rw [Array.length_toList]; rfl
  have h3 := putText_len a.data.toList
  have h4 : a.data.toList.length = a.size := by rw [Array.length_toList]; rfl
  unfold rowL
  rw [List.length_append]
  simp
  omega
theorem code_once (K : List UInt8) (hK : K.length ≤ 5000) (a : Option Addr) (n cap : Nat) (w : World) (hT : Texts w (.slice a n cap) [⟨K.toArray⟩]) :
    Calls Try.prog 13 #[.string onceT, .slice a n cap] w fun e w' => e = .returned (.agg (valsB (onceF K)).toArray) ∧ Below w.heap.size w w' := by
  have hz : (⟨K.toArray⟩ : ByteArray).size ≤ 5000 := by rw [size_mk]; exact hK
  have := rowL_one onceT ⟨K.toArray⟩ (by decide) hz
  exact code_of onceT _ [⟨K.toArray⟩] w hT (by decide) (fun s h => by simp at h; subst h; omega) (by omega) (by simp)

theorem text_len (l : List UInt8) (h : l.length = 32) : (⟨l.toArray⟩ : ByteArray).size = 32 := by rw [size_mk, h]

set_option maxRecDepth 100000 in
set_option maxHeartbeats 1600000 in
theorem code_keyOf_pub (f : Nat → List UInt8 × List UInt8) (hf : ∀ i, i < 16 → (f i).1.length = 32 ∧ (f i).2.length = 32) (p0 : Nat) (w : World)
    (HCL : ∀ (i : Nat) (W : World), i < 16 → Below w.heap.size w W → Calls Try.prog 56 #[.int .i64 i, .pointer (some ⟨p0, 0, none⟩)] W fun e w' => e = .returned (.agg #[.string ⟨(f i).1.toArray⟩, .string ⟨(f i).2.toArray⟩]) ∧ Below W.heap.size W w') :
    Calls Try.prog 52 #[.func (.func 56) #[] #[.pointer (some ⟨p0, 0, none⟩)]] w fun e w' => e = .returned (.agg (valsB (onceF (keyA f 16))).toArray) ∧ Below w.heap.size w w' := by
  have HC := Lib.hid HCL
  have HF := Lib.hid hf
  have HKL := Lib.hid (fun k (hk : k ≤ 16) => keyA_len_le f 16 hf k hk)
  clear HCL hf
  go_enter Try.func52, Try.ntmps52
  go_upto_region 1 with (fail)
  rw [zero32]
  obtain ⟨Z, hZ⟩ : ∃ Z, (List.replicate 32 (Value.int .u8 0)).toArray = Z := ⟨_, rfl⟩
  have HZS := Lib.hid (show Z.size = 32 by rw [← hZ]; rfl)
  rw [hZ]
  clear hZ
  have HZ := Lib.hid (heap_alloc_new w (.cells Z 23))
  have HBW := Lib.hid (show Below w.heap.size w (w.alloc (.cells Z 23)) from (Below.refl _ _).alloc (Nat.le_refl _) _)
  have hbs : w.heap.size + 1 = (w.alloc (.cells Z 23)).heap.size := by simp
  obtain ⟨g0, hg0⟩ : ∃ g, w.heap.size = g := ⟨_, rfl⟩
  rw [hg0] at HZ HBW hbs
  rw [hg0]
  have HG0 := Lib.hid hg0
  generalize w.alloc (.cells Z 23) = W at HZ HBW hbs ⊢
  have hfr := Lib.fresh_isBuilder 58 5 W
  obtain ⟨b, hb⟩ : ∃ b, W.heap.size = b := ⟨_, rfl⟩
  rw [hb] at hfr hbs
  have HFR := Lib.hid hfr
  have HWB := Lib.hid hb
  have HGB := Lib.hid hbs
  clear hg0 hfr hb hbs
  go_wp2_with fail
  rw [HWB.out]
  go_loopw [6] (fun iv wr => ∃ k : Nat, k ≤ 16 ∧ iv = .int .i64 k ∧ Lib.IsBuilder 58 5 b b (Lib.byteCells (keyA f k)) wr ∧ Below b W wr) (fun iv _ => 16 - (intOf iv).toNat)
  case atStart =>
    refine ⟨0, by omega, rfl, HFR.out, ?_⟩
    exact (Below.refl b W).alloc (Nat.le_of_eq HWB.out.symm) _
  case round =>
    obtain ⟨k, hk, rfl, hbld, hbel⟩ := hrel
    have HBLD := Lib.hid hbld
    have HBEL := Lib.hid hbel
    have HWR := Lib.hid (HBW.out.trans (hbel.mono (by have := HGB.out; omega)))
    have HSW := Lib.hid (show b ≤ wr.heap.size by have := hbel.size; rw [HWB.out] at this; exact this)
    clear hbld hbel
    by_cases hlt : k < 16
    · have HCK := Lib.hid (HC.out k wr hlt (HG0.out ▸ HWR.out))
      obtain ⟨hl1, hl2⟩ := HF.out k hlt
      have hkl := HKL.out k hk
      obtain ⟨A, hA⟩ : ∃ A : ByteArray, (⟨(f k).1.toArray⟩ : ByteArray) = A := ⟨_, rfl⟩
      obtain ⟨C, hC⟩ : ∃ C : ByteArray, (⟨(f k).2.toArray⟩ : ByteArray) = C := ⟨_, rfl⟩
      have hAs : A.size = 32 := by rw [← hA]; exact text_len _ hl1
      have hCs : C.size = 32 := by rw [← hC]; exact text_len _ hl2
      have hAc : Lib.strCells A = Lib.byteCells (f k).1 := by rw [← hA]; exact strCells_mk _
      have hCc : Lib.strCells C = Lib.byteCells (f k).2 := by rw [← hC]; exact strCells_mk _
      rw [hA, hC] at HCK
      have HAC := Lib.hid (And.intro (And.intro hAs hCs) (And.intro hAc hCc))
      have HKK := Lib.hid hkl
      have hk0 : (0 : Int) ≤ (k : Int) := by omega
      have hki : (k : Int) < 16 := by omega
      clear hA hC hAs hCs hAc hCc hkl hl1 hl2
      go_wp2_with fail
      refine HCK.out.mono ?_
      rintro e w1 ⟨rfl, hb1⟩
      have HB1 := Lib.hid hb1
      clear hb1
      go_upto_region 6 with (refine wpList_store_row rfl 77 (.tmp 5) (.tmp 11) rfl w1.heap.size #[.string A, .string C] rfl rfl 77 _ (heap_alloc_new _ _) (by kernel_rfl) rfl (by simp [Value.oneCell']) ?_; rw [World.setRow_alloc_new])
      have hb2 : Below w1.heap.size w1 (w1.alloc (.cells #[.string A, .string C] 77)) := (Below.refl _ _).alloc (Nat.le_refl _) _
      have hbld2 := builder_kept (builder_kept HBLD.out HB1.out) hb2
      have hap := Bld.apart_new (k := w1.heap.size) (w' := w1.alloc (.cells #[.string A, .string C] 77)) (builder_kept HBLD.out HB1.out) (Nat.le_refl _) (hb2.block b (Nat.lt_of_lt_of_le (by
        rcases HBLD.out with h | h <;> exact h.lt) HB1.out.size))
      have hlb : b < wr.heap.size := by rcases HBLD.out with h | h <;> exact h.lt
      have HWK := Lib.hid (Bld.write_keep b b _ A _ hbld2 (by rw [Lib.byteCells_length, HKK.out, HAC.out.1.1]; omega) (Nat.le_trans HSW.out (Nat.le_trans HB1.out.size hb2.size)) w1.heap.size (by simp) (by have := HB1.out.size; omega) hap)
      have HD := Lib.hid (heap_alloc_new w1 (.cells #[.string A, .string C] 77))
      have HB2 := Lib.hid (HB1.out.trans (hb2.mono HB1.out.size))
      obtain ⟨g5, hg5⟩ : ∃ g, w1.heap.size = g := ⟨_, rfl⟩
      rw [hg5] at HWK HD
      rw [hg5]
      clear hb2 hbld2 hap hg5
      generalize w1.alloc (.cells #[.string A, .string C] 77) = w2 at HWK HD HB2 ⊢
      have hd0 : w2.cell? ⟨g5, 0, none⟩ = some (.string A) := by rw [Lib.cell_of_heap HD.out]; rfl
      go_wp2_with fail
      refine HWK.out.mono ?_
      rintro e w3 ⟨rfl, ⟨hat3, hb3⟩, hk3⟩
      have hd1 : w3.cell? ⟨g5, 1, none⟩ = some (.string C) := by rw [Lib.cell_of_heap (hk3.trans HD.out)]; rfl
      have HWN := Lib.hid (Bld.write_any b b _ C w3 (Or.inr hat3) (by rw [List.length_append, Lib.byteCells_length, Lib.strCells_length, HKK.out, HAC.out.1.1, HAC.out.1.2]; omega) (Nat.le_trans HSW.out (Nat.le_trans HB2.out.size hb3.size)))
      have HB3 := Lib.hid ((HB2.out.mono HSW.out).trans hb3)
      clear hat3 hb3 hk3 hd0
      go_wp2_with fail
      refine HWN.out.mono ?_
      rintro e w4 ⟨rfl, hat4, hb4⟩
      have HAT4 := Lib.hid hat4
      have HB4 := Lib.hid (HB3.out.trans hb4)
      clear hat4 hb4 hd1
      go_wp2_with fail
      go_roundw
      case rel => exact ⟨k + 1, by omega, by go_num, Or.inr (by
        have h := HAT4.out
        rw [HAC.out.2.1, HAC.out.2.2, ← Lib.byteCells_append, ← Lib.byteCells_append, List.append_assoc] at h
        exact h), HBEL.out.trans HB4.out⟩
      case measure => simp [intOf]; omega
    · obtain rfl : k = 16 := by omega
      have hkl := HKL.out 16 (Nat.le_refl _)
      have HST := Lib.hid (Try.Builder_String_any b b (keyA f 16) wr HBLD.out HSW.out)
      obtain ⟨K, hK⟩ : ∃ K, keyA f 16 = K := ⟨_, rfl⟩
      rw [hK] at hkl HST
      have HKE := Lib.hid hK
      have HON := Lib.hid (fun (w : World) => code_once K (by omega) (some ⟨w.heap.size, 0, none⟩) 1 1 _ (texts_one w ⟨K.toArray⟩))
      obtain ⟨T, hT⟩ : ∃ T : ByteArray, (⟨K.toArray⟩ : ByteArray) = T := ⟨_, rfl⟩
      rw [hT] at HST
      simp only [hT] at HON
      clear hT hK hkl
      go_wp2_with fail
      refine HST.out.mono ?_
      rintro e w3 ⟨rfl, hb3⟩
      have HB3 := Lib.hid hb3
      clear hb3
      go_wp2_with fail
      refine (HON.out _).mono ?_
      rintro e w4 ⟨rfl, hb4⟩
      have hb5 : Below w3.heap.size w3 w4 := ((Below.refl _ _).alloc (Nat.le_refl _) _).trans (hb4.mono (by simp))
      clear hb4
      have hlg : g0 < b := by rw [← HGB.out]; exact Nat.lt_succ_self _
      have hz : w4.heap[g0]? = some (.cells Z 23 (0, 0)) := by
        rw [hb5.block _ (Nat.lt_of_lt_of_le (Nat.lt_of_lt_of_le hlg HSW.out) HB3.out.size), HB3.out.block _ hlg, HBEL.out.block _ hlg]
        exact HZ.out
      have hbw : Below g0 w w4 := (HWR.out.trans (HB3.out.mono (Nat.le_of_lt hlg))).trans (hb5.mono (Nat.le_trans (Nat.le_of_lt hlg) (Nat.le_trans HSW.out HB3.out.size)))
      have HRW := Lib.hid (row32 (onceF K) rfl)
      obtain ⟨D, hD⟩ : ∃ D, (valsB (onceF K)).toArray = D := ⟨_, rfl⟩
      rw [hD] at HRW
      rw [hD]
      have HDD := Lib.hid hD
      have hzs : Z.size = D.size := by rw [HZS.out, HRW.out.size]
      have HZ4 := Lib.hid hz
      have HBW4 := Lib.hid hbw
      clear hD hz hbw hb5
      go_wp2_with (refine wpList_store_row rfl 23 (.tmp 2) (.tmp 21) rfl g0 D rfl rfl 23 Z HZ4.out HRW.out.info hzs HRW.out.one ?_)
      refine bodyPost_ret (results_cell_row (p := 2) (ty := 23) Try.results52 _ _ g0 23 D (0, 0) _ rfl (setRow_heap _ _ _ _ _ _ HZ4.out) Try.underlying23 rfl HRW.out.info) rfl ⟨by rw [HKE.out, HDD.out], HG0.out ▸ below_setRow HBW4.out (Nat.le_refl _) _⟩

set_option maxRecDepth 100000 in
set_option maxHeartbeats 1600000 in
theorem code_keyOf_tell (f : Nat → List UInt8 × List UInt8) (hf : ∀ i, i < 16 → (f i).1.length = 32 ∧ (f i).2.length = 32) (p0 p1 : Nat) (w : World)
    (HCL : ∀ (i : Nat) (W : World), i < 16 → Below w.heap.size w W → Calls Try.prog 53 #[.int .i64 i, .pointer (some ⟨p0, 0, none⟩), .pointer (some ⟨p1, 0, none⟩)] W fun e w' => e = .returned (.agg #[.string ⟨(f i).1.toArray⟩, .string ⟨(f i).2.toArray⟩]) ∧ Below W.heap.size W w') :
    Calls Try.prog 52 #[.func (.func 53) #[] #[.pointer (some ⟨p0, 0, none⟩), .pointer (some ⟨p1, 0, none⟩)]] w fun e w' => e = .returned (.agg (valsB (onceF (keyA f 16))).toArray) ∧ Below w.heap.size w w' := by
  have HC := Lib.hid HCL
  have HF := Lib.hid hf
  have HKL := Lib.hid (fun k (hk : k ≤ 16) => keyA_len_le f 16 hf k hk)
  clear HCL hf
  go_enter Try.func52, Try.ntmps52
  go_upto_region 1 with (fail)
  rw [zero32]
  obtain ⟨Z, hZ⟩ : ∃ Z, (List.replicate 32 (Value.int .u8 0)).toArray = Z := ⟨_, rfl⟩
  have HZS := Lib.hid (show Z.size = 32 by rw [← hZ]; rfl)
  rw [hZ]
  clear hZ
  have HZ := Lib.hid (heap_alloc_new w (.cells Z 23))
  have HBW := Lib.hid (show Below w.heap.size w (w.alloc (.cells Z 23)) from (Below.refl _ _).alloc (Nat.le_refl _) _)
  have hbs : w.heap.size + 1 = (w.alloc (.cells Z 23)).heap.size := by simp
  obtain ⟨g0, hg0⟩ : ∃ g, w.heap.size = g := ⟨_, rfl⟩
  rw [hg0] at HZ HBW hbs
  rw [hg0]
  have HG0 := Lib.hid hg0
  generalize w.alloc (.cells Z 23) = W at HZ HBW hbs ⊢
  have hfr := Lib.fresh_isBuilder 58 5 W
  obtain ⟨b, hb⟩ : ∃ b, W.heap.size = b := ⟨_, rfl⟩
  rw [hb] at hfr hbs
  have HFR := Lib.hid hfr
  have HWB := Lib.hid hb
  have HGB := Lib.hid hbs
  clear hg0 hfr hb hbs
  go_wp2_with fail
  rw [HWB.out]
  go_loopw [6] (fun iv wr => ∃ k : Nat, k ≤ 16 ∧ iv = .int .i64 k ∧ Lib.IsBuilder 58 5 b b (Lib.byteCells (keyA f k)) wr ∧ Below b W wr) (fun iv _ => 16 - (intOf iv).toNat)
  case atStart =>
    refine ⟨0, by omega, rfl, HFR.out, ?_⟩
    exact (Below.refl b W).alloc (Nat.le_of_eq HWB.out.symm) _
  case round =>
    obtain ⟨k, hk, rfl, hbld, hbel⟩ := hrel
    have HBLD := Lib.hid hbld
    have HBEL := Lib.hid hbel
    have HWR := Lib.hid (HBW.out.trans (hbel.mono (by have := HGB.out; omega)))
    have HSW := Lib.hid (show b ≤ wr.heap.size by have := hbel.size; rw [HWB.out] at this; exact this)
    clear hbld hbel
    by_cases hlt : k < 16
    · have HCK := Lib.hid (HC.out k wr hlt (HG0.out ▸ HWR.out))
      obtain ⟨hl1, hl2⟩ := HF.out k hlt
      have hkl := HKL.out k hk
      obtain ⟨A, hA⟩ : ∃ A : ByteArray, (⟨(f k).1.toArray⟩ : ByteArray) = A := ⟨_, rfl⟩
      obtain ⟨C, hC⟩ : ∃ C : ByteArray, (⟨(f k).2.toArray⟩ : ByteArray) = C := ⟨_, rfl⟩
      have hAs : A.size = 32 := by rw [← hA]; exact text_len _ hl1
      have hCs : C.size = 32 := by rw [← hC]; exact text_len _ hl2
      have hAc : Lib.strCells A = Lib.byteCells (f k).1 := by rw [← hA]; exact strCells_mk _
      have hCc : Lib.strCells C = Lib.byteCells (f k).2 := by rw [← hC]; exact strCells_mk _
      rw [hA, hC] at HCK
      have HAC := Lib.hid (And.intro (And.intro hAs hCs) (And.intro hAc hCc))
      have HKK := Lib.hid hkl
      have hk0 : (0 : Int) ≤ (k : Int) := by omega
      have hki : (k : Int) < 16 := by omega
      clear hA hC hAs hCs hAc hCc hkl hl1 hl2
      go_wp2_with fail
      refine HCK.out.mono ?_
      rintro e w1 ⟨rfl, hb1⟩
      have HB1 := Lib.hid hb1
      clear hb1
      go_upto_region 6 with (refine wpList_store_row rfl 77 (.tmp 5) (.tmp 11) rfl w1.heap.size #[.string A, .string C] rfl rfl 77 _ (heap_alloc_new _ _) (by kernel_rfl) rfl (by simp [Value.oneCell']) ?_; rw [World.setRow_alloc_new])
      have hb2 : Below w1.heap.size w1 (w1.alloc (.cells #[.string A, .string C] 77)) := (Below.refl _ _).alloc (Nat.le_refl _) _
      have hbld2 := builder_kept (builder_kept HBLD.out HB1.out) hb2
      have hap := Bld.apart_new (k := w1.heap.size) (w' := w1.alloc (.cells #[.string A, .string C] 77)) (builder_kept HBLD.out HB1.out) (Nat.le_refl _) (hb2.block b (Nat.lt_of_lt_of_le (by
        rcases HBLD.out with h | h <;> exact h.lt) HB1.out.size))
      have hlb : b < wr.heap.size := by rcases HBLD.out with h | h <;> exact h.lt
      have HWK := Lib.hid (Bld.write_keep b b _ A _ hbld2 (by rw [Lib.byteCells_length, HKK.out, HAC.out.1.1]; omega) (Nat.le_trans HSW.out (Nat.le_trans HB1.out.size hb2.size)) w1.heap.size (by simp) (by have := HB1.out.size; omega) hap)
      have HD := Lib.hid (heap_alloc_new w1 (.cells #[.string A, .string C] 77))
      have HB2 := Lib.hid (HB1.out.trans (hb2.mono HB1.out.size))
      obtain ⟨g5, hg5⟩ : ∃ g, w1.heap.size = g := ⟨_, rfl⟩
      rw [hg5] at HWK HD
      rw [hg5]
      clear hb2 hbld2 hap hg5
      generalize w1.alloc (.cells #[.string A, .string C] 77) = w2 at HWK HD HB2 ⊢
      have hd0 : w2.cell? ⟨g5, 0, none⟩ = some (.string A) := by rw [Lib.cell_of_heap HD.out]; rfl
      go_wp2_with fail
      refine HWK.out.mono ?_
      rintro e w3 ⟨rfl, ⟨hat3, hb3⟩, hk3⟩
      have hd1 : w3.cell? ⟨g5, 1, none⟩ = some (.string C) := by rw [Lib.cell_of_heap (hk3.trans HD.out)]; rfl
      have HWN := Lib.hid (Bld.write_any b b _ C w3 (Or.inr hat3) (by rw [List.length_append, Lib.byteCells_length, Lib.strCells_length, HKK.out, HAC.out.1.1, HAC.out.1.2]; omega) (Nat.le_trans HSW.out (Nat.le_trans HB2.out.size hb3.size)))
      have HB3 := Lib.hid ((HB2.out.mono HSW.out).trans hb3)
      clear hat3 hb3 hk3 hd0
      go_wp2_with fail
      refine HWN.out.mono ?_
      rintro e w4 ⟨rfl, hat4, hb4⟩
      have HAT4 := Lib.hid hat4
      have HB4 := Lib.hid (HB3.out.trans hb4)
      clear hat4 hb4 hd1
      go_wp2_with fail
      go_roundw
      case rel => exact ⟨k + 1, by omega, by go_num, Or.inr (by
        have h := HAT4.out
        rw [HAC.out.2.1, HAC.out.2.2, ← Lib.byteCells_append, ← Lib.byteCells_append, List.append_assoc] at h
        exact h), HBEL.out.trans HB4.out⟩
      case measure => simp [intOf]; omega
    · obtain rfl : k = 16 := by omega
      have hkl := HKL.out 16 (Nat.le_refl _)
      have HST := Lib.hid (Try.Builder_String_any b b (keyA f 16) wr HBLD.out HSW.out)
      obtain ⟨K, hK⟩ : ∃ K, keyA f 16 = K := ⟨_, rfl⟩
      rw [hK] at hkl HST
      have HKE := Lib.hid hK
      have HON := Lib.hid (fun (w : World) => code_once K (by omega) (some ⟨w.heap.size, 0, none⟩) 1 1 _ (texts_one w ⟨K.toArray⟩))
      obtain ⟨T, hT⟩ : ∃ T : ByteArray, (⟨K.toArray⟩ : ByteArray) = T := ⟨_, rfl⟩
      rw [hT] at HST
      simp only [hT] at HON
      clear hT hK hkl
      go_wp2_with fail
      refine HST.out.mono ?_
      rintro e w3 ⟨rfl, hb3⟩
      have HB3 := Lib.hid hb3
      clear hb3
      go_wp2_with fail
      refine (HON.out _).mono ?_
      rintro e w4 ⟨rfl, hb4⟩
      have hb5 : Below w3.heap.size w3 w4 := ((Below.refl _ _).alloc (Nat.le_refl _) _).trans (hb4.mono (by simp))
      clear hb4
      have hlg : g0 < b := by rw [← HGB.out]; exact Nat.lt_succ_self _
      have hz : w4.heap[g0]? = some (.cells Z 23 (0, 0)) := by
        rw [hb5.block _ (Nat.lt_of_lt_of_le (Nat.lt_of_lt_of_le hlg HSW.out) HB3.out.size), HB3.out.block _ hlg, HBEL.out.block _ hlg]
        exact HZ.out
      have hbw : Below g0 w w4 := (HWR.out.trans (HB3.out.mono (Nat.le_of_lt hlg))).trans (hb5.mono (Nat.le_trans (Nat.le_of_lt hlg) (Nat.le_trans HSW.out HB3.out.size)))
      have HRW := Lib.hid (row32 (onceF K) rfl)
      obtain ⟨D, hD⟩ : ∃ D, (valsB (onceF K)).toArray = D := ⟨_, rfl⟩
      rw [hD] at HRW
      rw [hD]
      have HDD := Lib.hid hD
      have hzs : Z.size = D.size := by rw [HZS.out, HRW.out.size]
      have HZ4 := Lib.hid hz
      have HBW4 := Lib.hid hbw
      clear hD hz hbw hb5
      go_wp2_with (refine wpList_store_row rfl 23 (.tmp 2) (.tmp 21) rfl g0 D rfl rfl 23 Z HZ4.out HRW.out.info hzs HRW.out.one ?_)
      refine bodyPost_ret (results_cell_row (p := 2) (ty := 23) Try.results52 _ _ g0 23 D (0, 0) _ rfl (setRow_heap _ _ _ _ _ _ HZ4.out) Try.underlying23 rfl HRW.out.info) rfl ⟨by rw [HKE.out, HDD.out], HG0.out ▸ below_setRow HBW4.out (Nat.le_refl _) _⟩

end Go.Proofs.Ytlalipomphgcoaa.Once
