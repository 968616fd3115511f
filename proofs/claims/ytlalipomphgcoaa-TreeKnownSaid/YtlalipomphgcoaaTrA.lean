/- The tree: leaves, pairs, roots. -/
import Derived.Test.YtlalipomphgcoaaShaL5
import Derived.Deep.MidRow
import Derived.BigQuiet
namespace Go.Proofs.Ytlalipomphgcoaa.Tree
open Go.RowKit Go.Proofs.Ytlalipomphgcoaa.Sha

/-- What parts under a tag come to. -/
def ofT (tag : ByteArray) (P : List ByteArray) : List UInt8 := shaS ⟨(rowL tag P).toArray⟩
theorem ofT_len (tag : ByteArray) (P : List ByteArray) : (ofT tag P).length = 32 := rfl
abbrev leafT : ByteArray := ⟨#[108, 101, 97, 102]⟩
abbrev pairT : ByteArray := ⟨#[112, 97, 105, 114]⟩
abbrev noneT : ByteArray := ⟨#[110, 111, 110, 101]⟩
abbrev rootT : ByteArray := ⟨#[114, 111, 111, 116]⟩
def leafF (h : List UInt8) : List UInt8 := ofT leafT [⟨h.toArray⟩]
def pairF (a b : List UInt8) : List UInt8 := ofT pairT [⟨a.toArray⟩, ⟨b.toArray⟩]
def noneF : List UInt8 := ofT noneT []
def rootF (n : Nat) (top : List UInt8) : List UInt8 := ofT rootT [⟨(Digit.eightL n).toArray⟩, ⟨top.toArray⟩]
theorem leafF_len (h : List UInt8) : (leafF h).length = 32 := rfl
theorem pairF_len (a b : List UInt8) : (pairF a b).length = 32 := rfl
theorem noneF_len : noneF.length = 32 := rfl
theorem rootF_len (n : Nat) (t : List UInt8) : (rootF n t).length = 32 := rfl

theorem rowL_small (tag : ByteArray) (P : List ByteArray) (ht : tag.size ≤ 100) (hP : P.length ≤ 2) (hs : ∀ s ∈ P, s.size ≤ 100) : (rowL tag P).length ≤ 400 := by
  have h1 := putText_len tag.data.toList
  have h2 : tag.data.toList.length = tag.size := by rw [Array.length_toList]; rfl
  have hh : ∀ s : ByteArray, s.size ≤ 100 → (Digit.putTextL s.data.toList).length ≤ 110 := fun s h => by
    have h3 := putText_len s.data.toList
    have h4 : s.data.toList.length = s.size := by rw [Array.length_toList]; rfl
    omega
  unfold rowL
  rw [List.length_append]
  match P, hP with
  | [], _ => simp; omega
  | [a], _ =>
    have := hh a (hs a (by simp))
    simp
    omega
  | [a, b], _ =>
    have := hh a (hs a (by simp))
    have := hh b (hs b (by simp))
    simp
    omega

theorem size_of (l : List UInt8) (n : Nat) (h : l.length = n) : (ByteArray.mk l.toArray).size = n := by rw [size_mk, h]

/-- The code's Of, the document's Of, over one or two short texts that lie in a row of one's own. -/
theorem texts_one (w : World) (a : ByteArray) : Texts (w.alloc (.cells #[.string a] 9)) (.slice (some ⟨w.heap.size, 0, none⟩) 1 1) [a] :=
  Or.inr ⟨w.heap.size, 0, 1, rfl, by simp, fun i s hs => by
    match i, hs with
    | 0, hs => simp at hs; subst hs; simp⟩
theorem texts_two (w : World) (a b : ByteArray) : Texts (w.alloc (.cells #[.string a, .string b] 9)) (.slice (some ⟨w.heap.size, 0, none⟩) 2 2) [a, b] :=
  Or.inr ⟨w.heap.size, 0, 2, rfl, by simp, fun i s hs => by
    match i, hs with
    | 0, hs => simp at hs; subst hs; simp
    | 1, hs => simp at hs; subst hs; simp⟩

theorem small_bounds (tag : ByteArray) (P : List ByteArray) (ht : tag.size ≤ 100) (hP : P.length ≤ 2) (hs : ∀ s ∈ P, s.size ≤ 100) :
    tag.size ≤ 70368744177664 ∧ (∀ s ∈ P, s.size ≤ 70368744177664) ∧ (rowL tag P).length ≤ 1000000000 ∧ P.length ≤ 140737488355328 :=
  ⟨by omega, fun s h => by have := hs s h; omega, by have := rowL_small tag P ht hP hs; omega, by omega⟩

theorem code_ofT (tag : ByteArray) (v : Value) (P : List ByteArray) (w : World) (hT : Texts w v P) (ht : tag.size ≤ 100) (hP : P.length ≤ 2) (hs : ∀ s ∈ P, s.size ≤ 100) :
    Calls Try.prog 13 #[.string tag, v] w fun e w' => e = .returned (.agg (valsB (ofT tag P)).toArray) ∧ Below w.heap.size w w' := by
  obtain ⟨h1, h2, h3, h4⟩ := small_bounds tag P ht hP hs
  exact code_of tag v P w hT h1 h2 (by omega) h4
theorem ref_ofT (tag : ByteArray) (v : Value) (P : List ByteArray) (w : World) (hT : Texts w v P) (ht : tag.size ≤ 100) (hP : P.length ≤ 2) (hs : ∀ s ∈ P, s.size ≤ 100) :
    Calls Try.prog 78 #[.string tag, v] w fun e w' => e = .returned (.agg (valsB (ofT tag P)).toArray) ∧ Below w.heap.size w w' := by
  obtain ⟨h1, h2, h3, h4⟩ := small_bounds tag P ht hP hs
  exact refOf_any tag v P w hT h1 h2 h3 h4

/-- An array of 32 bytes. -/
structure Row32 (C : Array Value) : Prop where
  size : C.size = 32
  one : C.all (·.oneCell') = true
  info : (Try.prog.info? 23).map (·.size) = some C.size
theorem row32 (h : List UInt8) (hl : h.length = 32) : Row32 (valsB h).toArray :=
  ⟨by rw [valsB_size, hl], by simp [valsB, Value.oneCell'], by rw [valsB_size, hl]; exact info_hash⟩
theorem zero32 : #[Value.int .u8 0, Value.int .u8 0, Value.int .u8 0, Value.int .u8 0, Value.int .u8 0, Value.int .u8 0, Value.int .u8 0, Value.int .u8 0, Value.int .u8 0, Value.int .u8 0, Value.int .u8 0, Value.int .u8 0, Value.int .u8 0, Value.int .u8 0, Value.int .u8 0, Value.int .u8 0, Value.int .u8 0, Value.int .u8 0, Value.int .u8 0, Value.int .u8 0, Value.int .u8 0, Value.int .u8 0, Value.int .u8 0, Value.int .u8 0, Value.int .u8 0, Value.int .u8 0, Value.int .u8 0, Value.int .u8 0, Value.int .u8 0, Value.int .u8 0, Value.int .u8 0, Value.int .u8 0] = (List.replicate 32 (Value.int .u8 0)).toArray := rfl
theorem zero32_size : (List.replicate 32 (Value.int .u8 0)).toArray.size = 32 := rfl

set_option maxRecDepth 100000 in
set_option maxHeartbeats 1600000 in
theorem ref_one (tag a : ByteArray) (ht : tag.size ≤ 100) (ha : a.size ≤ 100) (w : World) :
    Calls Try.prog 60 #[.string tag, .string a] w fun e w' => e = .returned (.agg (valsB (ofT tag [a])).toArray) ∧ Below w.heap.size w w' := by
  have HO := Lib.hid (fun (w : World) => ref_ofT tag (.slice (some ⟨w.heap.size, 0, none⟩) 1 1) [a] _ (texts_one w a) ht (by simp) (by simp; omega))
  go_enter Try.func60, Try.ntmps60
  go_upto_region 1 with (fail)
  rw [zero32]
  obtain ⟨Z, hZ⟩ : ∃ Z, (List.replicate 32 (Value.int .u8 0)).toArray = Z := ⟨_, rfl⟩
  have HZS := Lib.hid (show Z.size = 32 by rw [← hZ]; rfl)
  rw [hZ]
  clear hZ
  have hz0 : w.heap.size < (w.alloc (.cells Z 23)).heap.size := by simp
  have HZ := Lib.hid (heap_alloc_new w (.cells Z 23))
  have HBW := Lib.hid (show Below w.heap.size w (w.alloc (.cells Z 23)) from (Below.refl _ _).alloc (Nat.le_refl _) _)
  generalize w.alloc (.cells Z 23) = W at hz0 HZ HBW ⊢
  go_wp2_with fail
  refine (HO.out W).mono ?_
  rintro e w2 ⟨rfl, hb2⟩
  have hb : Below W.heap.size W w2 := ((Below.refl _ _).alloc (Nat.le_refl _) _).trans (hb2.mono (by simp))
  have HZ2 := Lib.hid ((hb.block _ hz0).trans HZ.out)
  have HB2 := Lib.hid (HBW.out.trans (hb.mono (Nat.le_of_lt hz0)))
  clear hb hb2
  obtain ⟨D, hD⟩ : ∃ D, (valsB (ofT tag [a])).toArray = D := ⟨_, rfl⟩
  have HD := Lib.hid hD
  have HRD := Lib.hid (show Row32 D by rw [← hD]; exact row32 _ rfl)
  have HZD := Lib.hid (show Z.size = D.size by rw [HZS.out, HRD.out.size])
  rw [hD]
  clear hD
  go_wp2_with (refine wpList_store_row rfl 23 (.tmp 4) (.tmp 8) rfl w.heap.size D rfl rfl 23 Z HZ2.out HRD.out.info HZD.out HRD.out.one ?_)
  refine bodyPost_ret (results_cell_row (p := 4) (ty := 23) Try.results60 _ _ w.heap.size 23 D (0, 0) _ rfl (setRow_heap _ _ _ _ _ _ HZ2.out) Try.underlying23 rfl HRD.out.info) rfl ⟨by rw [HD.out], below_setRow HB2.out (by omega) _⟩

set_option maxRecDepth 100000 in
set_option maxHeartbeats 1600000 in
theorem ref_two (tag a b : ByteArray) (ht : tag.size ≤ 100) (ha : a.size ≤ 100) (hb : b.size ≤ 100) (w : World) :
    Calls Try.prog 77 #[.string tag, .string a, .string b] w fun e w' => e = .returned (.agg (valsB (ofT tag [a, b])).toArray) ∧ Below w.heap.size w w' := by
  have HO := Lib.hid (fun (w : World) => ref_ofT tag (.slice (some ⟨w.heap.size, 0, none⟩) 2 2) [a, b] _ (texts_two w a b) ht (by simp) (by simp; omega))
  go_enter Try.func77, Try.ntmps77
  go_upto_region 1 with (fail)
  rw [zero32]
  obtain ⟨Z, hZ⟩ : ∃ Z, (List.replicate 32 (Value.int .u8 0)).toArray = Z := ⟨_, rfl⟩
  have HZS := Lib.hid (show Z.size = 32 by rw [← hZ]; rfl)
  rw [hZ]
  clear hZ
  have hz0 : w.heap.size < (w.alloc (.cells Z 23)).heap.size := by simp
  have HZ := Lib.hid (heap_alloc_new w (.cells Z 23))
  have HBW := Lib.hid (show Below w.heap.size w (w.alloc (.cells Z 23)) from (Below.refl _ _).alloc (Nat.le_refl _) _)
  generalize w.alloc (.cells Z 23) = W at hz0 HZ HBW ⊢
  go_wp2_with fail
  refine (HO.out W).mono ?_
  rintro e w2 ⟨rfl, hb2⟩
  have hb : Below W.heap.size W w2 := ((Below.refl _ _).alloc (Nat.le_refl _) _).trans (hb2.mono (by simp))
  have HZ2 := Lib.hid ((hb.block _ hz0).trans HZ.out)
  have HB2 := Lib.hid (HBW.out.trans (hb.mono (Nat.le_of_lt hz0)))
  clear hb hb2
  obtain ⟨D, hD⟩ : ∃ D, (valsB (ofT tag [a, b])).toArray = D := ⟨_, rfl⟩
  have HD := Lib.hid hD
  have HRD := Lib.hid (show Row32 D by rw [← hD]; exact row32 _ rfl)
  have HZD := Lib.hid (show Z.size = D.size by rw [HZS.out, HRD.out.size])
  rw [hD]
  clear hD
  go_wp2_with (refine wpList_store_row rfl 23 (.tmp 6) (.tmp 11) rfl w.heap.size D rfl rfl 23 Z HZ2.out HRD.out.info HZD.out HRD.out.one ?_)
  refine bodyPost_ret (results_cell_row (p := 6) (ty := 23) Try.results77 _ _ w.heap.size 23 D (0, 0) _ rfl (setRow_heap _ _ _ _ _ _ HZ2.out) Try.underlying23 rfl HRD.out.info) rfl ⟨by rw [HD.out], below_setRow HB2.out (by omega) _⟩

set_option maxRecDepth 100000 in
set_option maxHeartbeats 1600000 in
theorem code_leaf (h : List UInt8) (hl : h.length = 32) (w : World) :
    Calls Try.prog 49 #[.agg (valsB h).toArray] w fun e w' => e = .returned (.agg (valsB (leafF h)).toArray) ∧ Below w.heap.size w w' := by
  have HBY := Lib.hid (fun w => code_bytes h hl w)
  have HO := Lib.hid (fun (w : World) => code_ofT leafT (.slice (some ⟨w.heap.size, 0, none⟩) 1 1) [⟨h.toArray⟩] _ (texts_one w ⟨h.toArray⟩) (by decide) (by simp) (by simp [size_of h 32 hl]))
  have HRC := Lib.hid (row32 h hl)
  obtain ⟨C, hC⟩ : ∃ C, (valsB h).toArray = C := ⟨_, rfl⟩
  rw [hC] at HBY HRC
  rw [hC]
  clear hC
  obtain ⟨S, hS⟩ : ∃ S : ByteArray, (⟨h.toArray⟩ : ByteArray) = S := ⟨_, rfl⟩
  rw [hS] at HBY
  have HS := Lib.hid hS
  simp only [hS] at HO
  clear hS
  go_enter Try.func49, Try.ntmps49
  go_upto_region 1 with (fail)
  rw [zero32]
  obtain ⟨Z, hZ⟩ : ∃ Z, (List.replicate 32 (Value.int .u8 0)).toArray = Z := ⟨_, rfl⟩
  have HZS := Lib.hid (show Z.size = 32 by rw [← hZ]; rfl)
  rw [hZ]
  clear hZ
  have hs0 : ((w.alloc (.cells C 23)).alloc (.cells Z 23)).heap.size = w.heap.size + 2 := by simp
  have HC := Lib.hid (heap_alloc2_old w (.cells C 23) (.cells Z 23))
  have HZ := Lib.hid (heap_alloc2_new w (.cells C 23) (.cells Z 23))
  have HBW := Lib.hid (show Below w.heap.size w ((w.alloc (.cells C 23)).alloc (.cells Z 23)) from ((Below.refl _ _).alloc (Nat.le_refl _) _).alloc (by simp) _)
  have HS0 := Lib.hid hs0
  clear hs0
  generalize (w.alloc (.cells C 23)).alloc (.cells Z 23) = W at HC HZ HBW HS0 ⊢
  have hW : w.heap.size + 1 < W.heap.size := by rw [HS0.out]; omega
  go_wp2_with (refine wpList_load_row rfl 23 (.tmp 1) rfl w.heap.size rfl 23 C (0, 0) _ HC.out Try.underlying23 rfl HRC.out.info ?_)
  refine (HBY.out _).mono ?_
  rintro e w3 ⟨rfl, hb3⟩
  have HB3 := Lib.hid hb3
  clear hb3
  go_wp2_with fail
  refine (HO.out _).mono ?_
  rintro e w4 ⟨rfl, hb4⟩
  have hb : Below W.heap.size W w4 := HB3.out.trans ((((Below.refl _ _).alloc (Nat.le_refl _) _).trans (hb4.mono (by simp)) : Below w3.heap.size w3 w4).mono HB3.out.size)
  have HZ2 := Lib.hid ((hb.block _ hW).trans HZ.out)
  have HB2 := Lib.hid (HBW.out.trans (hb.mono (by omega)))
  clear hb hb4
  rw [show ofT leafT [S] = leafF h by rw [← HS.out]; rfl]
  obtain ⟨D, hD⟩ : ∃ D, (valsB (leafF h)).toArray = D := ⟨_, rfl⟩
  have HD := Lib.hid hD
  have HRD := Lib.hid (show Row32 D by rw [← hD]; exact row32 _ rfl)
  have HZD := Lib.hid (show Z.size = D.size by rw [HZS.out, HRD.out.size])
  rw [hD]
  clear hD
  go_wp2_with (refine wpList_store_row rfl 23 (.tmp 2) (.tmp 6) rfl (w.heap.size + 1) D rfl rfl 23 Z HZ2.out HRD.out.info HZD.out HRD.out.one ?_)
  refine bodyPost_ret (results_cell_row (p := 2) (ty := 23) Try.results49 _ _ (w.heap.size + 1) 23 D (0, 0) _ rfl (setRow_heap _ _ _ _ _ _ HZ2.out) Try.underlying23 rfl HRD.out.info) rfl ⟨by rw [HD.out], below_setRow HB2.out (by omega) _⟩

set_option maxRecDepth 100000 in
set_option maxHeartbeats 1600000 in
theorem ref_leaf (h : List UInt8) (hl : h.length = 32) (w : World) :
    Calls Try.prog 82 #[.agg (valsB h).toArray] w fun e w' => e = .returned (.agg (valsB (leafF h)).toArray) ∧ Below w.heap.size w w' := by
  have HBY := Lib.hid (fun w => bytes_any h hl w)
  have HO := Lib.hid (fun (w : World) => ref_one leafT ⟨h.toArray⟩ (by decide) (by simp [size_of h 32 hl]) w)
  have HRC := Lib.hid (row32 h hl)
  obtain ⟨C, hC⟩ : ∃ C, (valsB h).toArray = C := ⟨_, rfl⟩
  rw [hC] at HBY HRC
  rw [hC]
  clear hC
  obtain ⟨S, hS⟩ : ∃ S : ByteArray, (⟨h.toArray⟩ : ByteArray) = S := ⟨_, rfl⟩
  rw [hS] at HBY
  have HS := Lib.hid hS
  simp only [hS] at HO
  clear hS
  go_enter Try.func82, Try.ntmps82
  go_upto_region 1 with (fail)
  rw [zero32]
  obtain ⟨Z, hZ⟩ : ∃ Z, (List.replicate 32 (Value.int .u8 0)).toArray = Z := ⟨_, rfl⟩
  have HZS := Lib.hid (show Z.size = 32 by rw [← hZ]; rfl)
  rw [hZ]
  clear hZ
  have hs0 : ((w.alloc (.cells C 23)).alloc (.cells Z 23)).heap.size = w.heap.size + 2 := by simp
  have HC := Lib.hid (heap_alloc2_old w (.cells C 23) (.cells Z 23))
  have HZ := Lib.hid (heap_alloc2_new w (.cells C 23) (.cells Z 23))
  have HBW := Lib.hid (show Below w.heap.size w ((w.alloc (.cells C 23)).alloc (.cells Z 23)) from ((Below.refl _ _).alloc (Nat.le_refl _) _).alloc (by simp) _)
  have HS0 := Lib.hid hs0
  clear hs0
  generalize (w.alloc (.cells C 23)).alloc (.cells Z 23) = W at HC HZ HBW HS0 ⊢
  have hW : w.heap.size + 1 < W.heap.size := by rw [HS0.out]; omega
  go_wp2_with (refine wpList_load_row rfl 23 (.tmp 1) rfl w.heap.size rfl 23 C (0, 0) _ HC.out Try.underlying23 rfl HRC.out.info ?_)
  refine (HBY.out _).mono ?_
  rintro e w3 ⟨rfl, hb3⟩
  have HB3 := Lib.hid hb3
  clear hb3
  go_wp2_with fail
  refine (HO.out _).mono ?_
  rintro e w4 ⟨rfl, hb4⟩
  have hb : Below W.heap.size W w4 := HB3.out.trans ((hb4 : Below w3.heap.size w3 w4).mono HB3.out.size)
  have HZ2 := Lib.hid ((hb.block _ hW).trans HZ.out)
  have HB2 := Lib.hid (HBW.out.trans (hb.mono (by omega)))
  clear hb hb4
  rw [show ofT leafT [S] = leafF h by rw [← HS.out]; rfl]
  obtain ⟨D, hD⟩ : ∃ D, (valsB (leafF h)).toArray = D := ⟨_, rfl⟩
  have HD := Lib.hid hD
  have HRD := Lib.hid (show Row32 D by rw [← hD]; exact row32 _ rfl)
  have HZD := Lib.hid (show Z.size = D.size by rw [HZS.out, HRD.out.size])
  rw [hD]
  clear hD
  go_wp2_with (refine wpList_store_row rfl 23 (.tmp 2) (.tmp 5) rfl (w.heap.size + 1) D rfl rfl 23 Z HZ2.out HRD.out.info HZD.out HRD.out.one ?_)
  refine bodyPost_ret (results_cell_row (p := 2) (ty := 23) Try.results82 _ _ (w.heap.size + 1) 23 D (0, 0) _ rfl (setRow_heap _ _ _ _ _ _ HZ2.out) Try.underlying23 rfl HRD.out.info) rfl ⟨by rw [HD.out], below_setRow HB2.out (by omega) _⟩

set_option maxRecDepth 100000 in
set_option maxHeartbeats 1600000 in
theorem code_pair (a b : List UInt8) (ha : a.length = 32) (hb : b.length = 32) (w : World) :
    Calls Try.prog 68 #[.agg (valsB a).toArray, .agg (valsB b).toArray] w fun e w' => e = .returned (.agg (valsB (pairF a b)).toArray) ∧ Below w.heap.size w w' := by
  have HBA := Lib.hid (fun w => code_bytes a ha w)
  have HBB := Lib.hid (fun w => code_bytes b hb w)
  have HO := Lib.hid (fun (w : World) => code_ofT pairT (.slice (some ⟨w.heap.size, 0, none⟩) 2 2) [⟨a.toArray⟩, ⟨b.toArray⟩] _ (texts_two w ⟨a.toArray⟩ ⟨b.toArray⟩) (by decide) (by simp) (by simp [size_of a 32 ha, size_of b 32 hb]))
  have HRCA := Lib.hid (row32 a ha)
  have HRCB := Lib.hid (row32 b hb)
  obtain ⟨CA, hCA⟩ : ∃ C, (valsB a).toArray = C := ⟨_, rfl⟩
  obtain ⟨CB, hCB⟩ : ∃ C, (valsB b).toArray = C := ⟨_, rfl⟩
  rw [hCA] at HBA HRCA
  rw [hCB] at HBB HRCB
  rw [hCA, hCB]
  clear hCA hCB
  obtain ⟨SA, hSA⟩ : ∃ S : ByteArray, (⟨a.toArray⟩ : ByteArray) = S := ⟨_, rfl⟩
  obtain ⟨SB, hSB⟩ : ∃ S : ByteArray, (⟨b.toArray⟩ : ByteArray) = S := ⟨_, rfl⟩
  rw [hSA] at HBA
  rw [hSB] at HBB
  have HS := Lib.hid (And.intro hSA hSB)
  simp only [hSA, hSB] at HO
  clear hSA hSB
  have HPF := Lib.hid (show ofT pairT [SA, SB] = pairF a b by rw [← HS.out.1, ← HS.out.2]; rfl)
  rw [HPF.out] at HO
  obtain ⟨D0, hD0⟩ : ∃ D, (valsB (pairF a b)).toArray = D := ⟨_, rfl⟩
  go_enter Try.func68, Try.ntmps68
  go_upto_region 1 with (fail)
  rw [zero32]
  obtain ⟨Z, hZ⟩ : ∃ Z, (List.replicate 32 (Value.int .u8 0)).toArray = Z := ⟨_, rfl⟩
  have HZS := Lib.hid (show Z.size = 32 by rw [← hZ]; rfl)
  rw [hZ]
  clear hZ
  have hs0 : (((w.alloc (.cells CA 23)).alloc (.cells CB 23)).alloc (.cells Z 23)).heap.size = w.heap.size + 3 := by simp
  have hw1 : (w.alloc (.cells CA 23)).heap.size = w.heap.size + 1 := by simp
  have HA := Lib.hid ((Below.heap_alloc _ (.cells Z 23) w.heap.size (by simp; omega)).trans (heap_alloc2_old w (.cells CA 23) (.cells CB 23)))
  have HB := Lib.hid ((Below.heap_alloc _ (.cells Z 23) (w.heap.size + 1) (by simp)).trans (heap_alloc2_new w (.cells CA 23) (.cells CB 23)))
  have HZ := Lib.hid (show (((w.alloc (.cells CA 23)).alloc (.cells CB 23)).alloc (.cells Z 23)).heap[w.heap.size + 2]? = some (.cells Z 23 (0, 0)) by
    have h := heap_alloc2_new (w.alloc (.cells CA 23)) (.cells CB 23) (.cells Z 23)
    rw [hw1] at h
    exact h)
  have HBW := Lib.hid (show Below w.heap.size w (((w.alloc (.cells CA 23)).alloc (.cells CB 23)).alloc (.cells Z 23)) from (((Below.refl _ _).alloc (Nat.le_refl _) _).alloc (by simp) _).alloc (by simp; omega) _)
  have HS0 := Lib.hid hs0
  clear hs0 hw1
  generalize ((w.alloc (.cells CA 23)).alloc (.cells CB 23)).alloc (.cells Z 23) = W at HA HB HZ HBW HS0 ⊢
  have hW : w.heap.size + 2 < W.heap.size := by rw [HS0.out]; omega
  refine QT.wp_region_below_tail 4 (by kernel_rfl) (by kernel_rfl) ?_
  simp only [List.take_succ_cons, List.take_zero, List.drop_succ_cons, List.drop_zero]
  repeat (first
    | (refine wpQuiet_step (fun K hK => ?_); rw [if_pos (by rfl)]; refine quiet_load_row 23 (.tmp 2) rfl w.heap.size rfl 23 CA (0, 0) _ HA.out Try.underlying23 rfl HRCA.out.info ?_; refine hK _ ?_; clear hK K)
    | (refine wpQuiet_step (fun K hK => ?_); rw [if_pos (by rfl)]; refine quiet_load_row 23 (.tmp 3) rfl (w.heap.size + 1) rfl 23 CB (0, 0) _ HB.out Try.underlying23 rfl HRCB.out.info ?_; refine hK _ ?_; clear hK K)
    | (quiet_step (first | (with_reducible exact Calls.regrown_of (HBA.out _)) | (with_reducible exact Calls.regrown_of (HBB.out _))))
  )
  refine wpQuiet_nil ?_
  intro _ hw'
  obtain ⟨⟨dq, osq⟩, hw''⟩ := hw'
  subst hw''
  have hbq := below_regrown W dq osq
  dsimp only
  generalize Sort.grow (redrawn W dq) osq = w3 at hbq ⊢
  have HB3 := Lib.hid hbq
  clear hbq
  go_wp2_with fail
  refine (HO.out _).mono ?_
  rintro e w4 ⟨rfl, hb4⟩
  have hb : Below W.heap.size W w4 := HB3.out.trans ((((Below.refl _ _).alloc (Nat.le_refl _) _).trans (hb4.mono (by simp)) : Below w3.heap.size w3 w4).mono HB3.out.size)
  clear hb4
  have HZ2 := Lib.hid ((hb.block _ hW).trans HZ.out)
  have HB2 := Lib.hid (HBW.out.trans (hb.mono (by omega)))
  clear hb hD0
  obtain ⟨D, hD⟩ : ∃ D, (valsB (pairF a b)).toArray = D := ⟨_, rfl⟩
  have HD := Lib.hid hD
  have HRD := Lib.hid (show Row32 D by rw [← hD]; exact row32 _ rfl)
  have HZD := Lib.hid (show Z.size = D.size by rw [HZS.out, HRD.out.size])
  rw [hD]
  clear hD
  go_wp2_with (refine wpList_store_row rfl 23 (.tmp 4) (.tmp 10) rfl (w.heap.size + 2) D rfl rfl 23 Z HZ2.out HRD.out.info HZD.out HRD.out.one ?_)
  refine bodyPost_ret (results_cell_row (p := 4) (ty := 23) Try.results68 _ _ (w.heap.size + 2) 23 D (0, 0) _ rfl (setRow_heap _ _ _ _ _ _ HZ2.out) Try.underlying23 rfl HRD.out.info) rfl ⟨by rw [HD.out], below_setRow HB2.out (by omega) _⟩

set_option maxRecDepth 100000 in
set_option maxHeartbeats 1600000 in
theorem ref_pair (a b : List UInt8) (ha : a.length = 32) (hb : b.length = 32) (w : World) :
    Calls Try.prog 83 #[.agg (valsB a).toArray, .agg (valsB b).toArray] w fun e w' => e = .returned (.agg (valsB (pairF a b)).toArray) ∧ Below w.heap.size w w' := by
  have HBA := Lib.hid (fun w => bytes_any a ha w)
  have HBB := Lib.hid (fun w => bytes_any b hb w)
  have HO := Lib.hid (fun (w : World) => ref_two pairT ⟨a.toArray⟩ ⟨b.toArray⟩ (by decide) (by simp [size_of a 32 ha]) (by simp [size_of b 32 hb]) w)
  have HRCA := Lib.hid (row32 a ha)
  have HRCB := Lib.hid (row32 b hb)
  obtain ⟨CA, hCA⟩ : ∃ C, (valsB a).toArray = C := ⟨_, rfl⟩
  obtain ⟨CB, hCB⟩ : ∃ C, (valsB b).toArray = C := ⟨_, rfl⟩
  rw [hCA] at HBA HRCA
  rw [hCB] at HBB HRCB
  rw [hCA, hCB]
  clear hCA hCB
  obtain ⟨SA, hSA⟩ : ∃ S : ByteArray, (⟨a.toArray⟩ : ByteArray) = S := ⟨_, rfl⟩
  obtain ⟨SB, hSB⟩ : ∃ S : ByteArray, (⟨b.toArray⟩ : ByteArray) = S := ⟨_, rfl⟩
  rw [hSA] at HBA
  rw [hSB] at HBB
  have HS := Lib.hid (And.intro hSA hSB)
  simp only [hSA, hSB] at HO
  clear hSA hSB
  have HPF := Lib.hid (show ofT pairT [SA, SB] = pairF a b by rw [← HS.out.1, ← HS.out.2]; rfl)
  rw [HPF.out] at HO
  obtain ⟨D0, hD0⟩ : ∃ D, (valsB (pairF a b)).toArray = D := ⟨_, rfl⟩
  go_enter Try.func83, Try.ntmps83
  go_upto_region 1 with (fail)
  rw [zero32]
  obtain ⟨Z, hZ⟩ : ∃ Z, (List.replicate 32 (Value.int .u8 0)).toArray = Z := ⟨_, rfl⟩
  have HZS := Lib.hid (show Z.size = 32 by rw [← hZ]; rfl)
  rw [hZ]
  clear hZ
  have hs0 : (((w.alloc (.cells CA 23)).alloc (.cells CB 23)).alloc (.cells Z 23)).heap.size = w.heap.size + 3 := by simp
  have hw1 : (w.alloc (.cells CA 23)).heap.size = w.heap.size + 1 := by simp
  have HA := Lib.hid ((Below.heap_alloc _ (.cells Z 23) w.heap.size (by simp; omega)).trans (heap_alloc2_old w (.cells CA 23) (.cells CB 23)))
  have HB := Lib.hid ((Below.heap_alloc _ (.cells Z 23) (w.heap.size + 1) (by simp)).trans (heap_alloc2_new w (.cells CA 23) (.cells CB 23)))
  have HZ := Lib.hid (show (((w.alloc (.cells CA 23)).alloc (.cells CB 23)).alloc (.cells Z 23)).heap[w.heap.size + 2]? = some (.cells Z 23 (0, 0)) by
    have h := heap_alloc2_new (w.alloc (.cells CA 23)) (.cells CB 23) (.cells Z 23)
    rw [hw1] at h
    exact h)
  have HBW := Lib.hid (show Below w.heap.size w (((w.alloc (.cells CA 23)).alloc (.cells CB 23)).alloc (.cells Z 23)) from (((Below.refl _ _).alloc (Nat.le_refl _) _).alloc (by simp) _).alloc (by simp; omega) _)
  have HS0 := Lib.hid hs0
  clear hs0 hw1
  generalize ((w.alloc (.cells CA 23)).alloc (.cells CB 23)).alloc (.cells Z 23) = W at HA HB HZ HBW HS0 ⊢
  have hW : w.heap.size + 2 < W.heap.size := by rw [HS0.out]; omega
  refine QT.wp_region_below_tail 5 (by kernel_rfl) (by kernel_rfl) ?_
  simp only [List.take_succ_cons, List.take_zero, List.drop_succ_cons, List.drop_zero]
  repeat (first
    | (refine wpQuiet_step (fun K hK => ?_); rw [if_pos (by rfl)]; refine quiet_load_row 23 (.tmp 2) rfl w.heap.size rfl 23 CA (0, 0) _ HA.out Try.underlying23 rfl HRCA.out.info ?_; refine hK _ ?_; clear hK K)
    | (refine wpQuiet_step (fun K hK => ?_); rw [if_pos (by rfl)]; refine quiet_load_row 23 (.tmp 3) rfl (w.heap.size + 1) rfl 23 CB (0, 0) _ HB.out Try.underlying23 rfl HRCB.out.info ?_; refine hK _ ?_; clear hK K)
    | (quiet_step (first | (with_reducible exact Calls.regrown_of (HBA.out _)) | (with_reducible exact Calls.regrown_of (HBB.out _)) | (with_reducible exact Calls.regrown_of (HO.out _))))
  )
  refine wpQuiet_nil ?_
  intro _ hw'
  obtain ⟨⟨dq, osq⟩, hw''⟩ := hw'
  subst hw''
  have hbq := below_regrown W dq osq
  dsimp only
  generalize Sort.grow (redrawn W dq) osq = w3 at hbq ⊢
  have HB3 := Lib.hid hbq
  clear hbq
  have hb : Below W.heap.size W w3 := HB3.out
  have HZ2 := Lib.hid ((hb.block _ hW).trans HZ.out)
  have HB2 := Lib.hid (HBW.out.trans (hb.mono (by omega)))
  clear hb hD0
  obtain ⟨D, hD⟩ : ∃ D, (valsB (pairF a b)).toArray = D := ⟨_, rfl⟩
  have HD := Lib.hid hD
  have HRD := Lib.hid (show Row32 D by rw [← hD]; exact row32 _ rfl)
  have HZD := Lib.hid (show Z.size = D.size by rw [HZS.out, HRD.out.size])
  rw [hD]
  clear hD
  go_wp2_with (refine wpList_store_row rfl 23 (.tmp 4) (.tmp 9) rfl (w.heap.size + 2) D rfl rfl 23 Z HZ2.out HRD.out.info HZD.out HRD.out.one ?_)
  refine bodyPost_ret (results_cell_row (p := 4) (ty := 23) Try.results83 _ _ (w.heap.size + 2) 23 D (0, 0) _ rfl (setRow_heap _ _ _ _ _ _ HZ2.out) Try.underlying23 rfl HRD.out.info) rfl ⟨by rw [HD.out], below_setRow HB2.out (by omega) _⟩

set_option maxRecDepth 100000 in
set_option maxHeartbeats 1600000 in
theorem code_rootOf (n : Nat) (a : List UInt8) (ha : a.length = 32) (hn : n ≤ 4611686018427387904) (w : World) :
    Calls Try.prog 43 #[.int .i64 n, .agg (valsB a).toArray] w fun e w' => e = .returned (.agg (valsB (rootF n a)).toArray) ∧ Below w.heap.size w w' := by
  have HBA := Lib.hid (fun w => code_bytes a ha w)
  have HE8 := Lib.hid (fun w => Digit.eight_any n w (by omega))
  have HO := Lib.hid (fun (w : World) => code_ofT rootT (.slice (some ⟨w.heap.size, 0, none⟩) 2 2) [⟨(Digit.eightL n).toArray⟩, ⟨a.toArray⟩] _ (texts_two w ⟨(Digit.eightL n).toArray⟩ ⟨a.toArray⟩) (by decide) (by simp) (by simp [size_of _ 8 (Digit.eightL_len n), size_of a 32 ha]))
  have HRCA := Lib.hid (row32 a ha)
  have hu64 : IntKind.u64.wrap (n : Int) = (n : Int) := by unfold IntKind.wrap; simp [IntKind.bits, IntKind.signed]; omega
  obtain ⟨CA, hCA⟩ : ∃ C, (valsB a).toArray = C := ⟨_, rfl⟩
  rw [hCA] at HBA HRCA
  rw [hCA]
  clear hCA
  obtain ⟨SA, hSA⟩ : ∃ S : ByteArray, (⟨(Digit.eightL n).toArray⟩ : ByteArray) = S := ⟨_, rfl⟩
  obtain ⟨SB, hSB⟩ : ∃ S : ByteArray, (⟨a.toArray⟩ : ByteArray) = S := ⟨_, rfl⟩
  rw [hSA] at HE8
  rw [hSB] at HBA
  have HS := Lib.hid (And.intro hSA hSB)
  simp only [hSA, hSB] at HO
  clear hSA hSB
  have HPF := Lib.hid (show ofT rootT [SA, SB] = rootF n a by rw [← HS.out.1, ← HS.out.2]; rfl)
  rw [HPF.out] at HO
  go_enter Try.func43, Try.ntmps43
  go_upto_region 1 with (fail)
  rw [zero32]
  obtain ⟨Z, hZ⟩ : ∃ Z, (List.replicate 32 (Value.int .u8 0)).toArray = Z := ⟨_, rfl⟩
  have HZS := Lib.hid (show Z.size = 32 by rw [← hZ]; rfl)
  rw [hZ]
  clear hZ
  have hs0 : ((w.alloc (.cells CA 23)).alloc (.cells Z 23)).heap.size = w.heap.size + 2 := by simp
  have HA := Lib.hid (heap_alloc2_old w (.cells CA 23) (.cells Z 23))
  have HZ := Lib.hid (heap_alloc2_new w (.cells CA 23) (.cells Z 23))
  have HBW := Lib.hid (show Below w.heap.size w ((w.alloc (.cells CA 23)).alloc (.cells Z 23)) from ((Below.refl _ _).alloc (Nat.le_refl _) _).alloc (by simp) _)
  have HS0 := Lib.hid hs0
  clear hs0
  generalize (w.alloc (.cells CA 23)).alloc (.cells Z 23) = W at HA HZ HBW HS0 ⊢
  have hW : w.heap.size + 1 < W.heap.size := by rw [HS0.out]; omega
  refine QT.wp_region_below_tail 5 (by kernel_rfl) (by kernel_rfl) ?_
  simp only [List.take_succ_cons, List.take_zero, List.drop_succ_cons, List.drop_zero]
  repeat (first
    | (refine wpQuiet_step (fun K hK => ?_); rw [if_pos (by rfl)]; refine quiet_load_row 23 (.tmp 3) rfl w.heap.size rfl 23 CA (0, 0) _ HA.out Try.underlying23 rfl HRCA.out.info ?_; refine hK _ ?_; clear hK K)
    | (quiet_step (first | (with_reducible exact Calls.regrown_of (HBA.out _)) | (with_reducible exact Calls.regrown_of (HE8.out _))))
  )
  refine wpQuiet_nil ?_
  intro _ hw'
  obtain ⟨⟨dq, osq⟩, hw''⟩ := hw'
  subst hw''
  have hbq := below_regrown W dq osq
  dsimp only
  generalize Sort.grow (redrawn W dq) osq = w3 at hbq ⊢
  have HB3 := Lib.hid hbq
  clear hbq
  go_wp2_with fail
  refine (HO.out _).mono ?_
  rintro e w4 ⟨rfl, hb4⟩
  have hb : Below W.heap.size W w4 := HB3.out.trans ((((Below.refl _ _).alloc (Nat.le_refl _) _).trans (hb4.mono (by simp)) : Below w3.heap.size w3 w4).mono HB3.out.size)
  clear hb4
  have HZ2 := Lib.hid ((hb.block _ hW).trans HZ.out)
  have HB2 := Lib.hid (HBW.out.trans (hb.mono (by omega)))
  clear hb
  obtain ⟨D, hD⟩ : ∃ D, (valsB (rootF n a)).toArray = D := ⟨_, rfl⟩
  have HD := Lib.hid hD
  have HRD := Lib.hid (show Row32 D by rw [← hD]; exact row32 _ rfl)
  have HZD := Lib.hid (show Z.size = D.size by rw [HZS.out, HRD.out.size])
  rw [hD]
  clear hD
  go_wp2_with (refine wpList_store_row rfl 23 (.tmp 4) (.tmp 11) rfl (w.heap.size + 1) D rfl rfl 23 Z HZ2.out HRD.out.info HZD.out HRD.out.one ?_)
  refine bodyPost_ret (results_cell_row (p := 4) (ty := 23) Try.results43 _ _ (w.heap.size + 1) 23 D (0, 0) _ rfl (setRow_heap _ _ _ _ _ _ HZ2.out) Try.underlying23 rfl HRD.out.info) rfl ⟨by rw [HD.out], below_setRow HB2.out (by omega) _⟩

set_option maxRecDepth 100000 in
set_option maxHeartbeats 1600000 in
theorem ref_over (n : Nat) (a : List UInt8) (ha : a.length = 32) (hn : n ≤ 4611686018427387904) (w : World) :
    Calls Try.prog 70 #[.int .i64 n, .agg (valsB a).toArray] w fun e w' => e = .returned (.agg (valsB (rootF n a)).toArray) ∧ Below w.heap.size w w' := by
  have HBA := Lib.hid (fun w => bytes_any a ha w)
  have HE8 := Lib.hid (fun w => Digit.refEight_any n w (by omega))
  have HO := Lib.hid (fun (w : World) => ref_two rootT ⟨(Digit.eightL n).toArray⟩ ⟨a.toArray⟩ (by decide) (by simp [size_of _ 8 (Digit.eightL_len n)]) (by simp [size_of a 32 ha]) w)
  have HRCA := Lib.hid (row32 a ha)
  have hu64 : IntKind.u64.wrap (n : Int) = (n : Int) := by unfold IntKind.wrap; simp [IntKind.bits, IntKind.signed]; omega
  obtain ⟨CA, hCA⟩ : ∃ C, (valsB a).toArray = C := ⟨_, rfl⟩
  rw [hCA] at HBA HRCA
  rw [hCA]
  clear hCA
  obtain ⟨SA, hSA⟩ : ∃ S : ByteArray, (⟨(Digit.eightL n).toArray⟩ : ByteArray) = S := ⟨_, rfl⟩
  obtain ⟨SB, hSB⟩ : ∃ S : ByteArray, (⟨a.toArray⟩ : ByteArray) = S := ⟨_, rfl⟩
  rw [hSA] at HE8
  rw [hSB] at HBA
  have HS := Lib.hid (And.intro hSA hSB)
  simp only [hSA, hSB] at HO
  clear hSA hSB
  have HPF := Lib.hid (show ofT rootT [SA, SB] = rootF n a by rw [← HS.out.1, ← HS.out.2]; rfl)
  rw [HPF.out] at HO
  go_enter Try.func70, Try.ntmps70
  go_upto_region 1 with (fail)
  rw [zero32]
  obtain ⟨Z, hZ⟩ : ∃ Z, (List.replicate 32 (Value.int .u8 0)).toArray = Z := ⟨_, rfl⟩
  have HZS := Lib.hid (show Z.size = 32 by rw [← hZ]; rfl)
  rw [hZ]
  clear hZ
  have hs0 : ((w.alloc (.cells CA 23)).alloc (.cells Z 23)).heap.size = w.heap.size + 2 := by simp
  have HA := Lib.hid (heap_alloc2_old w (.cells CA 23) (.cells Z 23))
  have HZ := Lib.hid (heap_alloc2_new w (.cells CA 23) (.cells Z 23))
  have HBW := Lib.hid (show Below w.heap.size w ((w.alloc (.cells CA 23)).alloc (.cells Z 23)) from ((Below.refl _ _).alloc (Nat.le_refl _) _).alloc (by simp) _)
  have HS0 := Lib.hid hs0
  clear hs0
  generalize (w.alloc (.cells CA 23)).alloc (.cells Z 23) = W at HA HZ HBW HS0 ⊢
  have hW : w.heap.size + 1 < W.heap.size := by rw [HS0.out]; omega
  refine QT.wp_region_below_tail 6 (by kernel_rfl) (by kernel_rfl) ?_
  simp only [List.take_succ_cons, List.take_zero, List.drop_succ_cons, List.drop_zero]
  repeat (first
    | (refine wpQuiet_step (fun K hK => ?_); rw [if_pos (by rfl)]; refine quiet_load_row 23 (.tmp 3) rfl w.heap.size rfl 23 CA (0, 0) _ HA.out Try.underlying23 rfl HRCA.out.info ?_; refine hK _ ?_; clear hK K)
    | (quiet_step (first | (with_reducible exact Calls.regrown_of (HBA.out _)) | (with_reducible exact Calls.regrown_of (HE8.out _)) | (with_reducible exact Calls.regrown_of (HO.out _))))
  )
  refine wpQuiet_nil ?_
  intro _ hw'
  obtain ⟨⟨dq, osq⟩, hw''⟩ := hw'
  subst hw''
  have hbq := below_regrown W dq osq
  dsimp only
  generalize Sort.grow (redrawn W dq) osq = w3 at hbq ⊢
  have HB3 := Lib.hid hbq
  clear hbq
  have hb : Below W.heap.size W w3 := HB3.out
  have HZ2 := Lib.hid ((hb.block _ hW).trans HZ.out)
  have HB2 := Lib.hid (HBW.out.trans (hb.mono (by omega)))
  clear hb
  obtain ⟨D, hD⟩ : ∃ D, (valsB (rootF n a)).toArray = D := ⟨_, rfl⟩
  have HD := Lib.hid hD
  have HRD := Lib.hid (show Row32 D by rw [← hD]; exact row32 _ rfl)
  have HZD := Lib.hid (show Z.size = D.size by rw [HZS.out, HRD.out.size])
  rw [hD]
  clear hD
  go_wp2_with (refine wpList_store_row rfl 23 (.tmp 4) (.tmp 10) rfl (w.heap.size + 1) D rfl rfl 23 Z HZ2.out HRD.out.info HZD.out HRD.out.one ?_)
  refine bodyPost_ret (results_cell_row (p := 4) (ty := 23) Try.results70 _ _ (w.heap.size + 1) 23 D (0, 0) _ rfl (setRow_heap _ _ _ _ _ _ HZ2.out) Try.underlying23 rfl HRD.out.info) rfl ⟨by rw [HD.out], below_setRow HB2.out (by omega) _⟩

end Go.Proofs.Ytlalipomphgcoaa.Tree
