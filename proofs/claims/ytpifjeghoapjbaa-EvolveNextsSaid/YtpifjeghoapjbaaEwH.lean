/- evolve: a signature's side, told by the closure over the signature's rest. -/
import Derived.Test.YtpifjeghoapjbaaEwD
namespace Go.Proofs.Ytpifjeghoapjbaa.Evolve
open Go.RowKit Go.Proofs.Ytpifjeghoapjbaa.Sha Go.Proofs.Ytpifjeghoapjbaa.Tree Go.Proofs.Ytpifjeghoapjbaa.Once

set_option maxRecDepth 100000 in
set_option maxHeartbeats 1600000 in
theorem code_sigside (g : Nat) (sides : ByteArray) (i : Nat) (hi : 32 * i + 32 ≤ sides.size) (hz : sides.size ≤ 1000) (w : World) (hg : w.heap[g]? = some (.cells #[.string sides] 9 (0, 0))) :
    Calls Try.prog 47 #[.int .i64 i, .pointer (some ⟨g, 0, none⟩)] w fun e w' => e = .returned (.agg (valsB ((sides.data.toList.drop (32 * i)).take 32)).toArray) ∧ Below w.heap.size w w' := by
  have hb : Below w.heap.size w (w.alloc (.cells (List.replicate 32 (Value.int .u8 0)).toArray 23)) := (Below.refl _ _).alloc (Nat.le_refl _) _
  have c0 : (w.alloc (.cells (List.replicate 32 (Value.int .u8 0)).toArray 23)).cell? ⟨g, 0, none⟩ = some (.string sides) := by
    rw [Lib.cell_of_heap ((hb.block g (Array.getElem?_eq_some_iff.1 hg).1).trans hg)]
    rfl
  have H3 := Lib.hid (heap_alloc_new w (.cells (List.replicate 32 (Value.int .u8 0)).toArray 23))
  have hs1 : w.heap.size < (w.alloc (.cells (List.replicate 32 (Value.int .u8 0)).toArray 23)).heap.size := by simp
  have h1 : (32 : Int) * (i : Int) ≤ 32 * (i : Int) + 32 := by omega
  have h2 : (0 : Int) ≤ 32 * (i : Int) := by omega
  have h3 : 32 * (i : Int) + 32 ≤ (sides.size : Int) := by omega
  obtain ⟨s, hs⟩ : ∃ s, (sides.data.toList.drop (32 * i)).take 32 = s := ⟨_, rfl⟩
  have hsl : s.length = 32 := by
    rw [← hs, List.length_take, List.length_drop, Array.length_toList, show sides.data.size = sides.size from rfl]
    omega
  have hT : (sides.extract (32 * i) (32 * i + 32)).data.toList = s := by
    rw [Lib.extract_data, ← hs]
    congr 1
    omega
  have hTz : (sides.extract (32 * i) (32 * i + 32)).size = 32 := by
    have h := congrArg List.length hT
    rw [hsl, Array.length_toList] at h
    exact h
  rw [hs]
  have HIS := Lib.hid (info_len s hsl)
  have HRC := Lib.hid (row32 s hsl)
  have HZ := Lib.hid (show (List.replicate 32 (Value.int .u8 0)).toArray.size = (valsB s).toArray.size by rw [HRC.out.size]; rfl)
  clear hs hg
  go_enter Try.func47, Try.ntmps47
  go_upto_region 1 with (fail)
  rw [zero32]
  generalize w.alloc (.cells (List.replicate 32 (Value.int .u8 0)).toArray 23) = W at hb c0 H3 hs1 ⊢
  obtain ⟨cap, W1, hcv, hown, hb1, hcells⟩ := conv_text W (sides.extract (32 * i) (32 * i + 32)) (by omega)
  have HRS := Lib.hid (show W1.rangeAt W.heap.size 0 (valsB s) from fun j v hv => by
    rw [hT] at hcells
    have hj : j < s.length := by
      have := (List.getElem?_eq_some_iff.1 hv).1
      simpa [valsB] using this
    have h := hcells j s[j] (List.getElem?_eq_getElem hj)
    rw [Addr.add_mid, Nat.zero_add] at h
    rw [Nat.zero_add, h]
    have h2 := valsB_get s j s[j] (List.getElem?_eq_getElem hj)
    rw [List.getElem?_toArray] at h2
    rw [← hv, h2])
  rw [hTz] at hcv
  have har : (Instr.arrayAt 23 (.slice (some ⟨W.heap.size, 0, none⟩) 32 cap)).run Try.prog W1 = .ok (.pointer (some ⟨W.heap.size, 0, none⟩)) W1 := by simp [Instr.arrayAt, run_underlying Try.underlying23]
  obtain ⟨C, hC⟩ : ∃ C, (valsB s).toArray = C := ⟨_, rfl⟩
  rw [hC] at HRC HZ
  have HC := Lib.hid hC
  have H31 := Lib.hid ((hb1.block _ hs1).trans H3.out)
  have HB1 := Lib.hid (hb.trans (hb1.mono hb.size))
  clear hcells hown hT hTz hC hsl hb1
  go_wp2_with (first
    | (refine wpList_load_mid rfl 23 (.tmp 12) rfl W.heap.size 0 (by simp [Act.eval]) (valsB s) _ HRS.out Try.underlying23 rfl HIS.out ?_; rw [HC.out])
    | (refine wpList_store_row rfl 23 (.tmp 3) (.tmp 13) rfl w.heap.size C rfl rfl 23 _ H31.out HRC.out.info HZ.out HRC.out.one ?_))
  refine bodyPost_ret (results_cell_row (p := 3) (ty := 23) Try.results47 _ _ w.heap.size 23 C (0, 0) _ rfl (setRow_heap _ _ _ _ _ _ H31.out) Try.underlying23 rfl HRC.out.info) rfl ⟨by rw [HC.out], below_setRow HB1.out (Nat.le_refl _) _⟩

end Go.Proofs.Ytpifjeghoapjbaa.Evolve
