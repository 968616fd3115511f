/- evolve: what a key's leaf and its sides from a row on come to. -/
import Derived.Test.YtpifjeghoapjbaaEwC
namespace Go.Proofs.Ytpifjeghoapjbaa.Evolve
open Go.RowKit Go.Proofs.Ytpifjeghoapjbaa.Sha Go.Proofs.Ytpifjeghoapjbaa.Tree Go.Proofs.Ytpifjeghoapjbaa.Once

set_option maxRecDepth 100000 in
set_option maxHeartbeats 1600000 in
theorem code_wayOf (d p : Int) (leaf : List UInt8) (hl : leaf.length = 32) (rv sv : Value) (w : World) :
    Calls Try.prog 29 #[.agg (evRow d p leaf rv sv)] w fun e w' => e = .returned (.agg #[.int .i64 d, .int .i64 p]) ∧ Below w.heap.size w w' := by
  go_enter Try.func29, Try.ntmps29
  go_upto_region 1 with (fail)
  have hb1 : Below w.heap.size w (w.alloc (.cells (evRow d p leaf rv sv) 26)) := (Below.refl _ _).alloc (Nat.le_refl _) _
  have hE0 := ev_new w d p leaf rv sv hl
  have hb2 : Below w.heap.size w ((w.alloc (.cells (evRow d p leaf rv sv) 26)).alloc (.cells #[.int .i64 0, .int .i64 0] 49)) := hb1.alloc (by simp) _
  have hE := hE0.kept ((Below.refl _ _).alloc (Nat.le_refl _) (.cells #[.int .i64 0, .int .i64 0] 49))
  have h2 := heap_alloc2_new w (.cells (evRow d p leaf rv sv) 26) (.cells #[.int .i64 0, .int .i64 0] 49)
  generalize (w.alloc (.cells (evRow d p leaf rv sv) 26)).alloc (.cells #[.int .i64 0, .int .i64 0] 49) = W at hb2 hE h2 ⊢
  have c0 := hE.c0
  have c1 := hE.c1
  clear hb1 hE0
  generalize evRow d p leaf rv sv = E
  have H2 := Lib.hid h2
  have HI := Lib.hid (show (Try.prog.info? 49).map (·.size) = some (#[Value.int .i64 d, .int .i64 p] : Array Value).size by kernel_rfl)
  clear h2
  go_wp2_with (refine wpList_store_row rfl 49 (.tmp 2) (.tmp 7) rfl (w.heap.size + 1) #[.int .i64 d, .int .i64 p] rfl rfl 49 _ H2.out HI.out rfl (by simp [Value.oneCell']) ?_)
  refine bodyPost_ret (results_cell_row (p := 2) (ty := 49) Try.results29 _ _ (w.heap.size + 1) 49 #[.int .i64 d, .int .i64 p] (0, 0) _ rfl (setRow_heap _ _ _ _ _ _ H2.out) Try.underlying49 rfl HI.out) rfl ⟨rfl, below_setRow hb2 (by omega) _⟩

set_option maxRecDepth 100000 in
set_option maxHeartbeats 1600000 in
/-- A key's side, told by the closure over the key's block. -/
theorem code_side (g : Nat) (d p : Int) (leaf : List UInt8) (rv : Value) (as_ : Option Addr) (ns cs : Nat) (S : List (List UInt8)) (w : World) (hE : EvAt w g d p leaf rv (.slice as_ ns cs)) (hS : Hashes w (.slice as_ ns cs) S) (h32 : H32 S)
    (i : Nat) (s : List UInt8) (hs : S[i]? = some s) :
    Calls Try.prog 52 #[.int .i64 i, .pointer (some ⟨g, 0, none⟩)] w fun e w' => e = .returned (.agg (valsB s).toArray) ∧ Below w.heap.size w w' := by
  have hsl := h32 s (List.mem_of_getElem? hs)
  have hlen := hashes_form hS
  have hi : i < S.length := (List.getElem?_eq_some_iff.1 hs).1
  obtain ⟨gs, os, rfl, hrs⟩ := hashes_cellE hS i s hs
  have hb : Below w.heap.size w (w.alloc (.cells (List.replicate 32 (Value.int .u8 0)).toArray 23)) := (Below.refl _ _).alloc (Nat.le_refl _) _
  have HRS := Lib.hid (range_kept hb hrs)
  have hE2 := hE.kept hb
  have c35 := hE2.c35
  have HIS := Lib.hid (info_len s hsl)
  have HRC := Lib.hid (row32 s hsl)
  have H3 := Lib.hid (heap_alloc_new w (.cells (List.replicate 32 (Value.int .u8 0)).toArray 23))
  have HZ := Lib.hid (show (List.replicate 32 (Value.int .u8 0)).toArray.size = (valsB s).toArray.size by rw [HRC.out.size]; rfl)
  obtain ⟨C, hC⟩ : ∃ C, (valsB s).toArray = C := ⟨_, rfl⟩
  rw [hC] at HRC HZ
  have HC := Lib.hid hC
  rw [hC]
  have hi0 : (0 : Int) ≤ (i : Int) := by omega
  have hin : (i : Int) < (ns : Int) := by omega
  clear hS h32 hs hsl hlen hi hrs hE hE2 hC
  go_enter Try.func52, Try.ntmps52
  go_upto_region 1 with (fail)
  rw [zero32]
  generalize w.alloc (.cells (List.replicate 32 (Value.int .u8 0)).toArray 23) = W at hb HRS c35 H3 ⊢
  go_wp2_with (first
    | (refine wpList_load_mid rfl 23 (.tmp 7) rfl gs (os + i * 32) (by simp [Act.eval]) (valsB s) _ HRS.out Try.underlying23 rfl HIS.out ?_; rw [HC.out])
    | (refine wpList_store_row rfl 23 (.tmp 3) (.tmp 8) rfl w.heap.size C rfl rfl 23 _ H3.out HRC.out.info HZ.out HRC.out.one ?_))
  refine bodyPost_ret (results_cell_row (p := 3) (ty := 23) Try.results52 _ _ w.heap.size 23 C (0, 0) _ rfl (setRow_heap _ _ _ _ _ _ H3.out) Try.underlying23 rfl HRC.out.info) rfl ⟨rfl, below_setRow hb (Nat.le_refl _) _⟩

set_option maxRecDepth 100000 in
set_option maxHeartbeats 3200000 in
theorem code_behind (d p : Nat) (hd : d ≤ 4) (hp : p < 16) (leaf : List UInt8) (hl : leaf.length = 32) (rv : Value) (as_ : Option Addr) (cs : Nat) (S : List (List UInt8)) (row : Nat) (hrow : row ≤ 1000) (w : World) (hS : Hashes w (.slice as_ d cs) S) (h32 : H32 S) :
    Calls Try.prog 31 #[.agg (evRow d p leaf rv (.slice as_ d cs)), .int .i64 row] w fun e w' => e = .returned (.agg (valsB (overE (digitsE d p) S row d (pubK leaf))).toArray) ∧ Below w.heap.size w w' := by
  have hlen := hashes_form hS
  have HWO := Lib.hid (fun w => code_wayOf d p leaf hl rv (.slice as_ d cs) w)
  have HPU := Lib.hid (fun w => code_Public leaf hl w)
  have HUP := Lib.hid (fun p0 w h => code_up_key d p row hd hp hrow (pubK leaf) (pubK_len leaf) S (by omega) h32 p0 w h)
  have HRE := Lib.hid (row32 (overE (digitsE d p) S row d (pubK leaf)) (overE_len _ _ _ _ _ (pubK_len leaf)))
  have HIL := Lib.hid (info_len leaf hl)
  have HS := Lib.hid hS
  have H32 := Lib.hid h32
  obtain ⟨CE, hCE⟩ : ∃ C, (valsB (overE (digitsE d p) S row d (pubK leaf))).toArray = C := ⟨_, rfl⟩
  obtain ⟨CP, hCP⟩ : ∃ C, (valsB (pubK leaf)).toArray = C := ⟨_, rfl⟩
  obtain ⟨CL, hCL⟩ : ∃ C, (valsB leaf).toArray = C := ⟨_, rfl⟩
  rw [hCE, hCP] at HUP
  rw [hCL, hCP] at HPU
  rw [hCE] at HRE
  have HCL := Lib.hid hCL
  rw [hCE]
  clear hS h32 hCE hCP hCL
  go_enter Try.func31, Try.ntmps31
  go_upto_region 1 with (fail)
  rw [zero32]
  obtain ⟨Z, hZ⟩ : ∃ Z, (List.replicate 32 (Value.int .u8 0)).toArray = Z := ⟨_, rfl⟩
  have HZE := Lib.hid (show Z.size = CE.size by rw [← hZ, HRE.out.size]; rfl)
  rw [hZ]
  clear hZ
  have HEI := Lib.hid (ev_info d p leaf rv (.slice as_ d cs) hl)
  have hE0 := ev_new w d p leaf rv (.slice as_ d cs) hl
  obtain ⟨E, hE⟩ : ∃ E, evRow d p leaf rv (.slice as_ d cs) = E := ⟨_, rfl⟩
  have hb2 : Below w.heap.size w ((w.alloc (.cells (evRow d p leaf rv (.slice as_ d cs)) 26)).alloc (.cells Z 23)) := ((Below.refl _ _).alloc (Nat.le_refl _) _).alloc (by simp) _
  have hE2 := hE0.kept ((Below.refl _ _).alloc (Nat.le_refl _) (.cells Z 23))
  have h4 := heap_alloc2_new w (.cells (evRow d p leaf rv (.slice as_ d cs)) 26) (.cells Z 23)
  have HS2 := Lib.hid (HS.out.kept hb2)
  have hs0 : ((w.alloc (.cells (evRow d p leaf rv (.slice as_ d cs)) 26)).alloc (.cells Z 23)).heap.size = w.heap.size + 2 := by simp
  generalize (w.alloc (.cells (evRow d p leaf rv (.slice as_ d cs)) 26)).alloc (.cells Z 23) = W at hb2 hE2 h4 HS2 hs0 ⊢
  have HEV := Lib.hid hE2
  have HER := Lib.hid hE2.row
  have HLF := Lib.hid hE2.lf
  rw [hE] at HEI HER HWO
  rw [hE]
  have H4 := Lib.hid h4
  have HB2 := Lib.hid hb2
  have HCQ := Lib.hid (fun dd os => HUP.out w.heap.size (Sort.grow (redrawn W dd) os) (fun i s W' hs _ _ hW => by
    have hbq := below_regrown W dd os
    have hb' : Below W.heap.size W W' := hbq.trans (hW.mono hbq.size)
    exact code_side w.heap.size d p leaf rv as_ d cs S W' (HEV.out.kept hb') (HS2.out.kept hb') H32.out i s hs))
  have hlt : w.heap.size < W.heap.size := by omega
  have hlt4 : w.heap.size + 1 < W.heap.size := by omega
  have HLT := Lib.hid (And.intro hlt hlt4)
  clear hE0 hE2 h4 hb2 hs0 hlt hlt4 hE
  refine QT.wp_region_below_tail 8 (by kernel_rfl) (by kernel_rfl) ?_
  simp only [List.take_succ_cons, List.take_zero, List.drop_succ_cons, List.drop_zero]
  repeat (first
    | (refine wpQuiet_step (fun K hK => ?_); rw [if_pos (by rfl)]; refine quiet_load_row 26 (.tmp 2) rfl w.heap.size rfl 26 E (0, 0) _ HER.out Try.underlying26 rfl HEI.out ?_; refine hK _ ?_; clear hK K)
    | (refine wpQuiet_step (fun K hK => ?_); rw [if_pos (by rfl)]; refine quiet_load_mid 23 (.tmp 8) rfl w.heap.size 2 rfl (valsB leaf) _ HLF.out Try.underlying23 rfl HIL.out ?_; rw [HCL.out]; refine hK _ ?_; clear hK K)
    | (quiet_step (first | (with_reducible exact Calls.regrown_of (HWO.out _)) | (with_reducible exact Calls.regrown_of (HPU.out _)) | (with_reducible exact Calls.regrown_of (HCQ.out _ _)))))
  refine wpQuiet_nil ?_
  intro _ hw'
  obtain ⟨⟨dq, osq⟩, hw''⟩ := hw'
  subst hw''
  have hbq := below_regrown W dq osq
  dsimp only
  generalize Sort.grow (redrawn W dq) osq = w5 at hbq ⊢
  have HQ4 := Lib.hid ((hbq.block _ HLT.out.2).trans H4.out)
  have HQB := Lib.hid (HB2.out.trans (hbq.mono (Nat.le_of_lt HLT.out.1)))
  clear hbq
  go_wp2_with (refine wpList_store_row rfl 23 (.tmp 4) (.tmp 12) rfl (w.heap.size + 1) CE rfl rfl 23 Z HQ4.out HRE.out.info HZE.out HRE.out.one ?_)
  refine bodyPost_ret (results_cell_row (p := 4) (ty := 23) Try.results31 _ _ (w.heap.size + 1) 23 CE (0, 0) _ rfl (setRow_heap _ _ _ _ _ _ HQ4.out) Try.underlying23 rfl HRE.out.info) rfl ⟨rfl, below_setRow HQB.out (by omega) _⟩

end Go.Proofs.Ytpifjeghoapjbaa.Evolve
