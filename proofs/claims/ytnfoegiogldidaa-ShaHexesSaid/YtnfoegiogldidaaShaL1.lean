/- ShaBack. -/
import Derived.Test.YtnfoegiogldidaaShaQ
namespace Go.Proofs.Ytnfoegiogldidaa.Sha
open Go.RowKit

theorem read_back (a : List UInt8) (ha : a.length = 32) (w : World) :
    Calls Try.prog 10 #[.string ⟨(hexL a).toArray⟩] w fun e w' => e = .returned (.tuple #[.agg (valsB a).toArray, .int .i64 0]) ∧ Below w.heap.size w w' := by
  have h := code_read ⟨(hexL a).toArray⟩ w
  rw [show (ByteArray.mk (hexL a).toArray).data.toList = hexL a from rfl, read_hex a ha] at h
  exact h

set_option maxRecDepth 100000 in
set_option maxHeartbeats 1600000 in
theorem law_ShaBack (a0 a1 : List UInt8) (w0 : a0.length = 32) (w1 : a1.length = 32) (w : World) :
    Calls Try.prog 8 #[.agg (valsB a0).toArray, .agg (valsB a1).toArray] w fun e w' => e = .returned (.bool true) ∧ Below w.heap.size w w' := by
  have E00 := fun w => eqIn_hash a0 a0 w0 w0 w
  have E01 := fun w => eqIn_hash a0 a1 w0 w1 w
  have X0 := Lib.hid (fun w => code_hex a0 w0 w)
  have X1 := Lib.hid (fun w => code_hex a1 w1 w)
  have Y0 := Lib.hid (fun w => code_bytes a0 w0 w)
  have RD := Lib.hid (fun w => read_back a0 w0 w)
  have hS0 : (hexL a0).length = 64 := by rw [hexL_length, w0]
  have hcv := Lib.hid (fun (w : World) (g : Nat) (h : w.heap[g]? = some (.cells (valsB a0).toArray 23 (0, 0))) => conv_bytes w g 32 32 a0 w0 (fun i b hb => (cell_of_row w g i _ _ _ h).trans (valsB_get a0 i b hb)))
  have hz0 : (valsB a0).toArray.size = 32 := by rw [valsB_size, w0]
  have hz1 : (valsB a1).toArray.size = 32 := by rw [valsB_size, w1]
  have hone : (valsB a0).toArray.all (·.oneCell') = true := by simp [valsB, Value.oneCell']
  have e00 : (a0 == a0) = true := by simp
  rw [e00] at E00
  obtain ⟨b, hb⟩ : ∃ b, (a0 == a1) = b := ⟨_, rfl⟩
  rw [hb] at E01
  have hbs : ((ByteArray.mk (hexL a0).toArray).toList == (ByteArray.mk (hexL a1).toArray).toList) = b := by
    rw [← hb, ByteArray.toList_eq, ByteArray.toList_eq]
    show (hexL a0 == hexL a1) = (a0 == a1)
    rw [Bool.eq_iff_iff]
    simp only [beq_iff_eq]
    exact ⟨hexL_inj, fun h => by rw [h]⟩
  obtain ⟨C0, hC0⟩ : ∃ C, (valsB a0).toArray = C := ⟨_, rfl⟩
  obtain ⟨C1, hC1⟩ : ∃ C, (valsB a1).toArray = C := ⟨_, rfl⟩
  obtain ⟨S0, hS0'⟩ : ∃ S, ByteArray.mk (hexL a0).toArray = S := ⟨_, rfl⟩
  obtain ⟨S1, hS1'⟩ : ∃ S, ByteArray.mk (hexL a1).toArray = S := ⟨_, rfl⟩
  have hs0 : S0.size = 64 := by rw [← hS0']; exact hS0
  rw [hC0] at E00 E01 X0 Y0 RD hcv hz0 hone
  rw [hC1] at E01 X1 hz1
  rw [hS0'] at X0 RD hbs
  rw [hS1'] at X1 hbs
  rw [hC0, hC1]
  obtain ⟨T0, hT0⟩ : ∃ S, ByteArray.mk a0.toArray = S := ⟨_, rfl⟩
  rw [hT0] at Y0 hcv
  have hT : (T0.toList == T0.toList) = true := by simp
  clear hC0 hC1 hS0' hS1' hT0 e00 hb hS0 w0 w1
  have HE00 := Lib.hid E00
  have HE01 := Lib.hid E01
  have HI0 := Lib.hid (show (Try.prog.info? 23).map (·.size) = some C0.size by rw [hz0]; exact info_hash)
  have HI1 := Lib.hid (show (Try.prog.info? 23).map (·.size) = some C1.size by rw [hz1]; exact info_hash)
  clear E00 E01
  go_enter Try.func8, Try.ntmps8
  go_wp2_with (refine wpList_load_row rfl 23 (.tmp 2) rfl w.heap.size rfl 23 C0 (0, 0) _ (heap_alloc2_old _ _ _) Try.underlying23 rfl HI0.out ?_)
  refine (X0.out _).mono ?_
  rintro e w1 ⟨rfl, hb1⟩
  go_wp2_with fail
  refine (RD.out _).mono ?_
  rintro e w2 ⟨rfl, hb2⟩
  have HB1 := Lib.hid hb1
  have HB2 := Lib.hid hb2
  clear hb1 hb2
  go_upto_region 2 with (refine wpList_store_row rfl 23 (.tmp 5) (.tmp 11) rfl w2.heap.size C0 rfl rfl 23 _ (heap_alloc_new _ _) HI0.out hz0.symm hone ?_; rw [World.setRow_alloc_new])
  obtain ⟨B5, hB5⟩ : ∃ B, w2.heap.size = B := ⟨_, rfl⟩
  generalize hW : w2.alloc (.cells C0 23) = W
  have hs1 : w.heap.size + 2 ≤ w1.heap.size := by
    have := HB1.out.size
    simp at this
    omega
  have hs2 : w.heap.size + 2 ≤ w2.heap.size := Nat.le_trans hs1 HB2.out.size
  have HG5 := Lib.hid (show W.heap[B5]? = some (.cells C0 23 (0, 0)) by rw [← hW, ← hB5]; exact heap_alloc_new _ _)
  have HG2 := Lib.hid (show W.heap[w.heap.size]? = some (.cells C0 23 (0, 0)) by
    rw [← hW]
    exact (Below.heap_alloc _ _ _ (by omega)).trans ((HB2.out.block _ (by omega)).trans ((HB1.out.block _ (by simp; omega)).trans (heap_alloc2_old _ _ _)))
  )
  have HG3 := Lib.hid (show W.heap[w.heap.size + 1]? = some (.cells C1 23 (0, 0)) by
    rw [← hW]
    exact (Below.heap_alloc _ _ _ (by omega)).trans ((HB2.out.block _ (by omega)).trans ((HB1.out.block _ (by simp)).trans (heap_alloc2_new _ _ _))))
  have HBW := Lib.hid (show Below w.heap.size w W by
    rw [← hW]
    exact ((((Below.refl _ _).alloc (Nat.le_refl _) _).alloc (by simp) _).trans ((HB1.out.mono (by simp; omega)).trans (HB2.out.mono (by omega)))).alloc (by omega) _)
  obtain ⟨B3, hB3⟩ : ∃ B, w.heap.size + 1 = B := ⟨_, rfl⟩
  obtain ⟨B2, hB2⟩ : ∃ B, w.heap.size = B := ⟨_, rfl⟩
  rw [hB5, hB3, hB2]
  rw [hB3] at HG3
  rw [hB2] at HG2
  have K2 := fun d os => hcv.out _ B2 (heap_regrown HG2.out d os)
  have E00 := HE00.out
  have E01 := HE01.out
  clear hW hB5 hs1 hs2 hB2 hB3
  refine wp_region_quiet_below (by kernel_rfl) (by kernel_rfl) ?_
  repeat (first
    | (refine wpQuiet_step (fun K hK => ?_); rw [if_pos (by rfl)]; refine quiet_load_row 23 _ rfl B2 rfl 23 C0 (0, 0) _ HG2.out Try.underlying23 rfl HI0.out ?_; refine hK _ ?_; clear hK K)
    | (refine wpQuiet_step (fun K hK => ?_); rw [if_pos (by rfl)]; refine quiet_load_row 23 _ rfl B3 rfl 23 C1 (0, 0) _ HG3.out Try.underlying23 rfl HI1.out ?_; refine hK _ ?_; clear hK K)
    | (refine wpQuiet_step (fun K hK => ?_); rw [if_pos (by rfl)]; refine quiet_load_row 23 _ rfl B5 rfl 23 C0 (0, 0) _ HG5.out Try.underlying23 rfl HI0.out ?_; refine hK _ ?_; clear hK K)
    | (quiet_step (first | (with_reducible exact Calls.regrown_of (X0.out _)) | (with_reducible exact Calls.regrown_of (X1.out _)) | (with_reducible exact Calls.regrown_of (Y0.out _)))))
  refine wpQuiet_nil ?_
  intro _ hw'
  obtain ⟨⟨dq, osq⟩, hw''⟩ := hw'
  subst hw''
  have hbq := HBW.out.trans ((below_regrown W dq osq).mono HBW.out.size)
  go_wp2
  go_ret
  exact ⟨rfl, hbq⟩

end Go.Proofs.Ytnfoegiogldidaa.Sha
