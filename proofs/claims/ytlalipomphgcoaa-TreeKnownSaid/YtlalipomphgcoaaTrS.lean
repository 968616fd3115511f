/- The tree: the document's own Root; the code's Check of one hash. -/
import Derived.Test.YtlalipomphgcoaaTrR
import Derived.Test.YtlalipomphgcoaaTrG
namespace Go.Proofs.Ytlalipomphgcoaa.Tree
open Go.RowKit Go.Proofs.Ytlalipomphgcoaa.Sha

theorem rows_last (L : List (List UInt8)) : ∃ k, (if L = [] then [[noneF]] else rowsA (L.map leafF)).length = k + 1 ∧ (if L = [] then [[noneF]] else rowsA (L.map leafF))[k]? = some [topA L] := by
  by_cases h : L = []
  · subst h
    exact ⟨0, rfl, rfl⟩
  · rw [if_neg h]
    have hne := rowsA_ne (L.map leafF)
    have hl : 0 < (rowsA (L.map leafF)).length := List.length_pos_iff.2 hne
    refine ⟨(rowsA (L.map leafF)).length - 1, by omega, ?_⟩
    have h1 := List.getLast?_eq_some_getLast hne
    rw [List.getLast?_eq_getElem?] at h1
    rw [h1]
    obtain ⟨x, hx, _⟩ := lastA_len (L.map leafF).length (L.map leafF) (Nat.le_refl _) (by rw [List.length_map]; exact List.length_pos_iff.2 h) (leaves_32 L)
    have h2 : topA L = x := by
      unfold topA
      rw [if_neg h, hx]
      rfl
    rw [h2]
    exact congrArg some hx

theorem rowsA_len (f : Nat) : ∀ M : List (List UInt8), M.length ≤ f → (rowsA M).length ≤ M.length + 1 := by
  induction f with
  | zero => intro M h; rw [rowsA_one M (by omega)]; simp
  | succ f ih =>
    intro M h
    by_cases h1 : M.length ≤ 1
    · rw [rowsA_one M h1]; simp
    · rw [rowsA_step M (by omega), List.length_cons]
      have := ih (upF M) (by rw [upF_len]; omega)
      rw [upF_len] at this
      omega

set_option maxRecDepth 100000 in
set_option maxHeartbeats 1600000 in
theorem ref_Root (v : Value) (L : List (List UInt8)) (w : World) (hv : Hashes w v L) (h32 : H32 L) (hn : L.length ≤ 1048576) :
    Calls Try.prog 42 #[v] w fun e w' => e = .returned (.agg (valsB (rootA L)).toArray) ∧ Below w.heap.size w w' := by
  have HRT := Lib.hid (row32 (rootA L) rfl)
  have HTL := Lib.hid (topA_len L)
  have hvv : ∃ a cap, v = .slice a L.length cap := by
    rcases hv with ⟨a, cap, rfl, rfl⟩ | ⟨g, o, cap, rfl, _, _⟩
    · exact ⟨a, cap, rfl⟩
    · exact ⟨_, cap, rfl⟩
  obtain ⟨a, cap, rfl⟩ := hvv
  have HRW := Lib.hid (fun (W : World) (hb : Below w.heap.size w W) => ref_Rows (.slice a L.length cap) L W (hv.kept hb) h32 hn)
  have HRO := Lib.hid (fun w => ref_over L.length (topA L) (topA_len L) (by omega) w)
  have hRA : rootF L.length (topA L) = rootA L := rfl
  rw [hRA] at HRO
  obtain ⟨k, hk1, hk2⟩ := rows_last L
  have hkn : k ≤ 1048577 := by
    have h3 := rowsA_len (L.map leafF).length (L.map leafF) (Nat.le_refl _)
    rw [List.length_map] at h3
    split at hk1
    · simp at hk1
      omega
    · omega
  obtain ⟨Rs, hRs⟩ : ∃ Rs, (if L = [] then [[noneF]] else rowsA (L.map leafF)) = Rs := ⟨_, rfl⟩
  rw [hRs] at hk1 hk2
  have HK := Lib.hid (And.intro hk1 hk2)
  have HRS := Lib.hid hRs
  clear hRA hv h32 hk1 hk2 hRs
  obtain ⟨n, hL⟩ : ∃ n, L.length = n := ⟨_, rfl⟩
  rw [hL] at hn HRW HRO
  rw [hL]
  clear hL
  obtain ⟨D, hD⟩ : ∃ D, (valsB (rootA L)).toArray = D := ⟨_, rfl⟩
  rw [hD] at HRT HRO
  have HDD := Lib.hid hD
  have HIT := Lib.hid (info_len (topA L) HTL.out)
  clear hD
  go_enter Try.func42, Try.ntmps42
  go_upto_region 1 with (fail)
  rw [zero32]
  obtain ⟨Z, hZ⟩ : ∃ Z, (List.replicate 32 (Value.int .u8 0)).toArray = Z := ⟨_, rfl⟩
  have HZS := Lib.hid (show Z.size = 32 by rw [← hZ]; rfl)
  rw [hZ]
  clear hZ
  have hba : Below w.heap.size w (w.alloc (.cells Z 23)) := (Below.refl _ _).alloc (Nat.le_refl _) _
  have HG := Lib.hid (heap_alloc_new w (.cells Z 23))
  have hlt : w.heap.size < (w.alloc (.cells Z 23)).heap.size := by simp
  have HBA := Lib.hid hba
  have HZD := Lib.hid (show Z.size = D.size by rw [HZS.out, HRT.out.size])
  clear hba
  generalize w.alloc (.cells Z 23) = W at HG HBA hlt ⊢
  go_wp2_with fail
  refine (HRW.out _ HBA.out).mono ?_
  rintro e w2 ⟨g, c, Rs', hRs', rfl, hown, hb2⟩
  rw [HRS.out] at hRs'
  subst hRs'
  rw [HK.out.1] at hown
  obtain ⟨gr, cr, hcell, hrow⟩ := OwnR.get (cap := c) (by rw [HK.out.1]; exact hown) k [topA L] HK.out.2
  have HRG := Lib.hid (show w2.rangeAt gr 0 (valsB (topA L)) from hrow.at_ 0 (topA L) rfl)
  have HB2 := Lib.hid hb2
  rw [HK.out.1]
  have hks : (((k + 1 : Nat) : Int)) - 1 = (k : Int) := by omega
  obtain ⟨r, hr⟩ : ∃ r, k + 1 = r := ⟨_, rfl⟩
  rw [hr] at hks
  rw [hr]
  have hk0 : (0 : Int) ≤ (k : Int) := by omega
  have hkr : (k : Int) < (r : Int) := by omega
  have hlen1 : [topA L].length = 1 := rfl
  rw [hlen1] at hcell
  clear hown hrow hb2 hr hlen1
  go_wp2_with (refine wpList_load_mid rfl 23 (.tmp 14) rfl gr 0 rfl (valsB (topA L)) _ HRG.out Try.underlying23 rfl HIT.out ?_)
  refine (HRO.out _).mono ?_
  rintro e w3 ⟨rfl, hb3⟩
  have hb : Below W.heap.size W w3 := HB2.out.trans (hb3.mono HB2.out.size)
  have HZ2 := Lib.hid ((hb.block _ hlt).trans HG.out)
  have HB3 := Lib.hid (HBA.out.trans (hb.mono (Nat.le_of_lt hlt)))
  clear hb hb3
  go_wp2_with (refine wpList_store_row rfl 23 (.tmp 2) (.tmp 16) rfl w.heap.size D rfl rfl 23 Z HZ2.out HRT.out.info HZD.out HRT.out.one ?_)
  refine bodyPost_ret (results_cell_row (p := 2) (ty := 23) Try.results42 _ _ w.heap.size 23 D (0, 0) _ rfl (setRow_heap _ _ _ _ _ _ HZ2.out) Try.underlying23 rfl HRT.out.info) rfl ⟨by rw [HDD.out], below_setRow HB3.out (Nat.le_refl _) _⟩

set_option maxRecDepth 100000 in
set_option maxHeartbeats 3200000 in
/-- Check of one hash: whether the proof is empty, where the root is right. -/
theorem code_Check1 (h : List UInt8) (hl : h.length = 32) (a : Option Addr) (m c : Nat) (hm : m ≤ 1000) (w : World) :
    Calls Try.prog 20 #[.agg (valsB (rootF 1 (leafF h))).toArray, .int .i64 1, .int .i64 0, .agg (valsB h).toArray, .slice a m c] w fun e w' => e = .returned (.bool (decide (m = 0))) ∧ Below w.heap.size w w' := by
  have HIP := Lib.hid (fun w => code_isPlace_yes 0 1 (by omega) (by omega) w)
  have HLF := Lib.hid (fun w => code_leaf h hl w)
  have HRO := Lib.hid (fun w => code_rootOf 1 (leafF h) rfl (by omega) w)
  have HRR := Lib.hid (row32 (rootF 1 (leafF h)) rfl)
  have HRH := Lib.hid (row32 h hl)
  have HRL := Lib.hid (row32 (leafF h) rfl)
  have HE := fun w => eqIn_hash (rootF 1 (leafF h)) (rootF 1 (leafF h)) rfl rfl w
  rw [show (rootF 1 (leafF h) == rootF 1 (leafF h)) = true by simp] at HE
  obtain ⟨CR, hCR⟩ : ∃ C, (valsB (rootF 1 (leafF h))).toArray = C := ⟨_, rfl⟩
  obtain ⟨CH, hCH⟩ : ∃ C, (valsB h).toArray = C := ⟨_, rfl⟩
  obtain ⟨CL, hCL⟩ : ∃ C, (valsB (leafF h)).toArray = C := ⟨_, rfl⟩
  rw [hCR] at HRO HRR HE
  rw [hCH] at HLF HRH
  rw [hCL] at HLF HRL HRO
  rw [hCR, hCH]
  have HL32 := Lib.hid (show 32 = CL.size from HRL.out.size.symm)
  clear hCR hCH hCL
  go_enter Try.func20, Try.ntmps20
  go_upto_region 3 with (go_at_call 38; refine (HIP.out _).mono ?_; rintro e w' ⟨rfl, rfl⟩)
  have HGR := Lib.hid (heap_alloc2_old w (.cells CR 23) (.cells CH 23))
  have HGH := Lib.hid (heap_alloc2_new w (.cells CR 23) (.cells CH 23))
  have HBA := Lib.hid (show Below w.heap.size w ((w.alloc (.cells CR 23)).alloc (.cells CH 23)) from ((Below.refl _ _).alloc (Nat.le_refl _) _).alloc (by simp) _)
  have hs : w.heap.size + 1 < ((w.alloc (.cells CR 23)).alloc (.cells CH 23)).heap.size := by simp
  generalize (w.alloc (.cells CR 23)).alloc (.cells CH 23) = W at HGR HGH HBA hs ⊢
  go_wp2_with (refine wpList_load_row rfl 23 (.tmp 8) rfl (w.heap.size + 1) rfl 23 CH (0, 0) _ HGH.out Try.underlying23 rfl HRH.out.info ?_)
  refine (HLF.out _).mono ?_
  rintro e w3 ⟨rfl, hb3⟩
  have HB3 := Lib.hid hb3
  clear hb3
  go_upto_region 4 with (refine wpList_store_row rfl 23 (.tmp 11) (.tmp 22) rfl w3.heap.size CL rfl rfl 23 _ (heap_alloc_new _ _) HRL.out.info HL32.out HRL.out.one ?_; rw [World.setRow_alloc_new])
  have hb4 : Below w3.heap.size w3 (w3.alloc (.cells CL 23)) := (Below.refl _ _).alloc (Nat.le_refl _) _
  have HB4 := Lib.hid (HB3.out.trans (hb4.mono HB3.out.size))
  have HGL := Lib.hid (heap_alloc_new w3 (.cells CL 23))
  have HGR4 := Lib.hid ((HB4.out.block w.heap.size (by omega)).trans HGR.out)
  have HBW := Lib.hid (HBA.out.trans (HB4.out.mono (by omega)))
  obtain ⟨gl, hgl⟩ : ∃ g, w3.heap.size = g := ⟨_, rfl⟩
  rw [hgl] at HGL
  rw [hgl]
  clear hb4 hgl
  generalize w3.alloc (.cells CL 23) = W4 at HB4 HGL HGR4 HBW ⊢
  go_wp2_with fail
  go_loopw [2, 4, 12] (fun iv pv sv wr => iv = .int .i64 0 ∧ pv = .slice a m c ∧ sv = .int .i64 1 ∧ wr = W4) (fun _ _ _ _ => 0)
  case atStart => exact ⟨rfl, rfl, rfl, rfl⟩
  case round =>
    obtain ⟨rfl, rfl, rfl, rfl⟩ := hrel
    by_cases hm0 : m = 0
    · subst hm0
      go_wp2_with fail
      refine wp_region_quiet_below (by kernel_rfl) (by kernel_rfl) ?_
      repeat (first
        | (refine wpQuiet_step (fun K hK => ?_); rw [if_pos (by rfl)]; refine quiet_load_row 23 (.tmp 11) rfl gl rfl 23 CL (0, 0) _ HGL.out Try.underlying23 rfl HRL.out.info ?_; refine hK _ ?_; clear hK K)
        | (refine wpQuiet_step (fun K hK => ?_); rw [if_pos (by rfl)]; refine quiet_load_row 23 (.tmp 5) rfl w.heap.size rfl 23 CR (0, 0) _ HGR4.out Try.underlying23 rfl HRR.out.info ?_; refine hK _ ?_; clear hK K)
        | (quiet_step (with_reducible exact Calls.regrown_of (HRO.out _))))
      refine wpQuiet_nil ?_
      intro _ hw'
      obtain ⟨⟨dq, osq⟩, hw''⟩ := hw'
      subst hw''
      have HBQ := Lib.hid (HBW.out.trans ((below_regrown wr dq osq).mono HBW.out.size))
      dsimp only
      generalize Sort.grow (redrawn wr dq) osq = w5 at HBQ ⊢
      go_wp2_with fail
      go_ret
      exact ⟨by simp, HBQ.out⟩
    · have hm1 : ((m : Int) == 0) = false := by simp; omega
      go_wp2_with fail
      refine wp_region_quiet_below (by kernel_rfl) (by kernel_rfl) ?_
      repeat (quiet_step (fail))
      refine wpQuiet_nil ?_
      intro _ hw'
      obtain ⟨⟨dq, osq⟩, hw''⟩ := hw'
      subst hw''
      have HBQ := Lib.hid (HBW.out.trans ((below_regrown wr dq osq).mono HBW.out.size))
      dsimp only
      generalize Sort.grow (redrawn wr dq) osq = w5 at HBQ ⊢
      go_wp2_with fail
      go_ret
      exact ⟨by simp [hm0], HBQ.out⟩
end Go.Proofs.Ytlalipomphgcoaa.Tree
