/- ShaHexes. -/
import Derived.Test.YtnfoegiogldidaaShaHx
import Derived.Test.YtnfoegiogldidaaShaL1
namespace Go.Proofs.Ytnfoegiogldidaa.Sha
open Go.RowKit

theorem hex_unhex (n : Nat) : ∀ l : List UInt8, l.length = 2 * n → l.all isHex = true → hexL (unhex l) = l := by
  induction n with
  | zero =>
    intro l h _
    obtain rfl : l = [] := List.eq_nil_of_length_eq_zero (by omega)
    rfl
  | succ n ih =>
    intro l h ha
    match l, h with
    | a :: b :: r, h =>
      simp only [List.all_cons, Bool.and_eq_true] at ha
      have h1 := ha.1
      have h2 := ha.2.1
      simp only [isHex, decide_eq_true_eq] at h1 h2
      have u1 := valD_of a
      have u2 := valD_of b
      rw [unhex, hexL, ih r (by simp at h; omega) ha.2.2]
      have e : (UInt8.ofNat ((valD a).toNat * 16 + (valD b).toNat)).toNat = (valD a).toNat * 16 + (valD b).toNat := by
        rw [UInt8.toNat_ofNat', Nat.mod_eq_of_lt (by omega)]
      rw [e, show ((valD a).toNat * 16 + (valD b).toNat) / 16 = (valD a).toNat by omega, show ((valD a).toNat * 16 + (valD b).toNat) % 16 = (valD b).toNat by omega, u1.2.2.1 h1, u2.2.2.1 h2]

/-- Are all of the first k digits, of a text of 64 bytes? -/
def okB (s : ByteArray) (k : Nat) : Bool := decide (s.size = 64) && (s.data.toList.take k).all isHex
theorem okB_succ (s : ByteArray) (k : Nat) (h : k < s.size) : okB s (k + 1) = (okB s k && isHex s[k]) := by
  unfold okB
  have hk : k < s.data.toList.length := by rw [Array.length_toList]; exact h
  rw [List.take_succ_eq_append_getElem hk, List.all_append]
  simp only [List.all_cons, List.all_nil, Bool.and_true, Bool.and_assoc]
  rfl

set_option maxRecDepth 100000 in
set_option maxHeartbeats 3200000 in
theorem hexes_small (a0 : List UInt8) (a1 : ByteArray) (w0 : a0.length = 32) (hs : a1.size ≤ 16384) (w : World) :
    Calls Try.prog 7 #[.agg (valsB a0).toArray, .string a1] w fun e w' => e = .returned (.bool true) ∧ Below w.heap.size w w' := by
  have X0 := Lib.hid (fun w => code_hex a0 w0 w)
  have X1 := Lib.hid (fun w => hex_any a0 w0 w)
  have Y0 := Lib.hid (fun w => code_bytes a0 w0 w)
  have Y1 := Lib.hid (fun w => bytes_any a0 w0 w)
  have RD := Lib.hid (fun w => code_read a1 w)
  have hz0 : (valsB a0).toArray.size = 32 := by rw [valsB_size, w0]
  obtain ⟨C0, hC0⟩ : ∃ C, (valsB a0).toArray = C := ⟨_, rfl⟩
  obtain ⟨S0, hS0⟩ : ∃ S, ByteArray.mk (hexL a0).toArray = S := ⟨_, rfl⟩
  obtain ⟨T0, hT0⟩ : ∃ S, ByteArray.mk a0.toArray = S := ⟨_, rfl⟩
  rw [hC0] at X0 X1 Y0 Y1 hz0
  rw [hS0] at X0 X1
  rw [hT0] at Y0 Y1
  rw [hC0]
  have hSS : (S0.toList == S0.toList) = true := by simp
  have hTT : (T0.toList == T0.toList) = true := by simp
  have HI0 := Lib.hid (show (Try.prog.info? 23).map (·.size) = some C0.size by rw [hz0]; exact info_hash)
  have hbig : decide ((16384 : Int) < (a1.size : Int)) = false := by simp; omega
  have hbig2 : decide ((a1.size : Int) > 16384) = false := by simp; omega
  have HG2 := Lib.hid (heap_alloc_new w (.cells C0 23))
  clear hC0 hS0 hT0 w0
  go_enter Try.func7, Try.ntmps7
  go_upto_region 1 with (fail)
  generalize hW : w.alloc (.cells C0 23) = W at HG2 ⊢
  have HBW := Lib.hid (show Below w.heap.size w W by rw [← hW]; exact (Below.refl _ _).alloc (Nat.le_refl _) _)
  obtain ⟨B2, hB2⟩ : ∃ B, w.heap.size = B := ⟨_, rfl⟩
  rw [hB2] at HG2
  rw [hB2]
  clear hW hB2
  refine wp_region_quiet_below (by kernel_rfl) (by kernel_rfl) ?_
  repeat (first
    | (refine wpQuiet_step (fun K hK => ?_); rw [if_pos (by rfl)]; refine quiet_load_row 23 _ rfl B2 rfl 23 C0 (0, 0) _ HG2.out Try.underlying23 rfl HI0.out ?_; refine hK _ ?_; clear hK K)
    | (quiet_step (first | (with_reducible exact Calls.regrown_of (X0.out _)) | (with_reducible exact Calls.regrown_of (X1.out _)) | (with_reducible exact Calls.regrown_of (Y0.out _)) | (with_reducible exact Calls.regrown_of (Y1.out _)))))
  refine wpQuiet_nil ?_
  intro _ hw'
  obtain ⟨⟨dq, osq⟩, hw''⟩ := hw'
  subst hw''
  have HBQ := Lib.hid (HBW.out.trans ((below_regrown W dq osq).mono HBW.out.size))
  dsimp only
  generalize Sort.grow (redrawn W dq) osq = w1 at HBQ ⊢
  go_wp2_with fail
  refine (RD.out _).mono ?_
  rintro e w2 ⟨rfl, hb2⟩
  have HB2 := Lib.hid (HBQ.out.trans (hb2.mono HBQ.out.size))
  clear hb2
  obtain ⟨R, hR⟩ : ∃ R, readF a1.data.toList = R := ⟨_, rfl⟩
  rw [hR]
  have hrl : R.1.length = 32 := by
    rw [← hR]
    unfold readF
    split
    · rename_i h
      exact (unhex_even 32 a1.data.toList 0 h.1).2
    · rfl
  have HRR := Lib.hid hR
  have hz5 : (valsB R.1).toArray.size = 32 := by rw [valsB_size, hrl]
  have hone5 : (valsB R.1).toArray.all (·.oneCell') = true := by simp [valsB, Value.oneCell']
  obtain ⟨C5, hC5⟩ : ∃ C, (valsB R.1).toArray = C := ⟨_, rfl⟩
  rw [hC5] at hz5 hone5
  rw [hC5]
  have HC5 := Lib.hid hC5
  have HI5 := Lib.hid (show (Try.prog.info? 23).map (·.size) = some C5.size by rw [hz5]; exact info_hash)
  clear hR hC5 hrl
  go_upto_region 4 with (refine wpList_store_row rfl 23 (.tmp 5) (.tmp 35) rfl w2.heap.size C5 rfl rfl 23 _ (heap_alloc_new _ _) HI5.out hz5.symm hone5 ?_; rw [World.setRow_alloc_new])
  have HG5 := Lib.hid (heap_alloc_new w2 (.cells C5 23))
  have HBF := Lib.hid (HB2.out.alloc HB2.out.size (.cells C5 23))
  generalize w2.alloc (.cells C5 23) = W5 at HG5 HBF ⊢
  obtain ⟨B5, hB5⟩ : ∃ B, w2.heap.size = B := ⟨_, rfl⟩
  rw [hB5] at HG5
  rw [hB5]
  clear hB5
  have h64 : ((a1.size : Int) == 64) = okB a1 0 := by
    unfold okB
    rw [List.take_zero, List.all_nil, Bool.and_true, Bool.eq_iff_iff]
    simp
    omega
  have hsz63 : a1.size ≤ 9223372036854775807 := by omega
  go_wp2_with fail
  clear h64
  go_loop [7, 8] (fun o i => ∃ k : Nat, k ≤ a1.size ∧ i = .int .i64 k ∧ o = .bool (okB a1 k)) (fun _ i => a1.size - (intOf i).toNat)
  case atStart => exact ⟨0, by omega, rfl, rfl⟩
  case round =>
    obtain ⟨k, hk, rfl, rfl⟩ := hrel
    by_cases hlt : k < a1.size
    · have HSN := Lib.hid (okB_succ a1 k hlt)
      have hv := (valD_of a1[k]).2.2.2
      have HIS := Lib.hid (show isHex a1[k] = decide ((48 ≤ a1[k].toNat ∧ a1[k].toNat ≤ 57) ∨ (97 ≤ a1[k].toNat ∧ a1[k].toNat ≤ 102)) by
        unfold isHex
        rw [Bool.eq_iff_iff]
        simp only [decide_eq_true_eq]
        exact hv)
      obtain ⟨b, hb⟩ : ∃ b, okB a1 k = b := ⟨_, rfl⟩
      rw [hb] at HSN
      rw [hb]
      clear hv hb
      cases b
      · go_wp2
        go_round
        case rel => exact ⟨k + 1, by omega, by go_num, by rw [HSN.out]; rfl⟩
        case measure => simp [intOf]; omega
      · have hc : (a1[k].toNat < 48) ∨ (48 ≤ a1[k].toNat ∧ a1[k].toNat ≤ 57) ∨ (57 < a1[k].toNat ∧ a1[k].toNat < 97) ∨ (97 ≤ a1[k].toNat ∧ a1[k].toNat ≤ 102) ∨ 102 < a1[k].toNat := by omega
        have HX : ∃ r, isHex a1[k] = r ∧ (r = true ↔ ((48 ≤ a1[k].toNat ∧ a1[k].toNat ≤ 57) ∨ (97 ≤ a1[k].toNat ∧ a1[k].toNat ≤ 102))) := ⟨_, rfl, by rw [HIS.out, decide_eq_true_eq]⟩
        obtain ⟨r, hr, hriff⟩ := HX
        have HR1 := Lib.hid hr
        rcases hc with hc | hc | hc | hc | hc
        all_goals
          cases r
          all_goals first
            | (exfalso; simp at hriff; omega)
            | (clear hr hriff
               go_wp2
               go_round
               case rel => exact ⟨k + 1, by omega, by go_num, by rw [HSN.out, HR1.out]; first | rfl | (congr 1; simp; omega)⟩
               case measure => simp [intOf]; omega)
    · have hkk : k = a1.size := by omega
      subst hkk
      have hall : a1.data.toList.take a1.size = a1.data.toList := List.take_of_length_le (by rw [Array.length_toList]; exact Nat.le_refl _)
      have hlen : a1.data.toList.length = a1.size := by rw [Array.length_toList]; rfl
      by_cases hok : a1.size = 64 ∧ a1.data.toList.all isHex = true
      · have HOK := Lib.hid (show okB a1 a1.size = true by
          unfold okB
          rw [hall, hok.2]
          simp [hok.1])
        have hRu : R = (unhex a1.data.toList, 0) := by
          rw [← HRR.out]
          unfold readF
          rw [if_pos ⟨by rw [hlen]; exact hok.1, hok.2⟩]
        subst hRu
        have hXH := code_hex (unhex a1.data.toList) (unhex_even 32 a1.data.toList 0 (by rw [hlen]; exact hok.1)).2
        rw [hex_unhex 32 _ (by rw [hlen, hok.1]) hok.2, HC5.out] at hXH
        have hST : (ByteArray.mk (a1.data.toList).toArray) = a1 := rfl
        have HXH := Lib.hid hXH
        have hAA : (a1.toList == a1.toList) = true := by simp
        rw [HOK.out]
        clear hXH hok hall hlen hlt
        go_wp2_with (first | (refine wpList_load_row_g (by rfl) 23 (.tmp 5) rfl B5 rfl 23 C5 (0, 0) _ HG5.out Try.underlying23 rfl HI5.out ?_) | (go_at_call 13; refine (HXH.out _).mono ?_; rintro e w6 ⟨rfl, hb6⟩; have HB6 := Lib.hid hb6; clear hb6))
        go_ret
        exact ⟨by simp, HBF.out.trans (HB6.out.mono HBF.out.size)⟩
      · have hRz : R = (List.replicate 32 0, 2) := by
          rw [← HRR.out]
          unfold readF
          rw [if_neg (by rw [hlen]; exact hok)]
        subst hRz
        have HOK := Lib.hid (show okB a1 a1.size = false by
          unfold okB
          rw [hall]
          rcases Bool.eq_false_or_eq_true (a1.data.toList.all isHex) with h | h
          · rw [h, Bool.and_true]
            simp only [decide_eq_false_iff_not]
            exact fun h2 => hok ⟨h2, h⟩
          · rw [h, Bool.and_false])
        have E := fun w => eqIn_hash (List.replicate 32 0) (List.replicate 32 0) rfl rfl w
        rw [HC5.out] at E
        rw [HOK.out]
        clear hok hall hlen hlt
        go_wp2_with (first | (refine wpList_load_row_g (by rfl) 23 (.tmp 5) rfl B5 rfl 23 C5 (0, 0) _ HG5.out Try.underlying23 rfl HI5.out ?_) | (refine wpList_build_g (by rfl) 23 _ rfl C5 (by rw [← HC5.out]; kernel_rfl) ?_))
        go_ret
        exact ⟨by simp, HBF.out⟩

set_option maxRecDepth 100000 in
set_option maxHeartbeats 1600000 in
theorem hexes_big (a0 : List UInt8) (a1 : ByteArray) (hs : 16384 < a1.size) (hm : a1.size ≤ 9223372036854775807) (w : World) :
    Calls Try.prog 7 #[.agg (valsB a0).toArray, .string a1] w fun e w' => e = .returned (.bool true) ∧ Below w.heap.size w w' := by
  obtain ⟨C0, hC0⟩ : ∃ C, (valsB a0).toArray = C := ⟨_, rfl⟩
  rw [hC0]
  clear hC0
  have hbig : decide ((16384 : Int) < (a1.size : Int)) = true := by simp; omega
  have hbig2 : (16384 : Int) < (a1.size : Int) := by omega
  go_enter Try.func7, Try.ntmps7
  go_upto_region 1 with (fail)
  refine wp_region_quiet_below (by kernel_rfl) (by kernel_rfl) ?_
  repeat (quiet_step (fail))
  refine wpQuiet_nil ?_
  intro _ hw'
  obtain ⟨⟨dq, osq⟩, hw''⟩ := hw'
  subst hw''
  have HBQ := Lib.hid (((Below.refl w.heap.size w).alloc (Nat.le_refl _) (.cells C0 23)).trans ((below_regrown (w.alloc (.cells C0 23)) dq osq).mono (by simp)))
  dsimp only
  generalize Sort.grow (redrawn _ dq) osq = w1 at HBQ ⊢
  go_wp2_with fail
  refine (works_any _).mono ?_
  rintro e w2 ⟨rfl, hb2⟩
  have HB2 := Lib.hid (HBQ.out.trans (hb2.mono HBQ.out.size))
  clear hb2
  go_wp2
  go_ret
  exact ⟨rfl, HB2.out⟩

theorem law_ShaHexes (a0 : List UInt8) (a1 : ByteArray) (w0 : a0.length = 32) (w1 : a1.size ≤ maxLen) (w : World) :
    Calls Try.prog 7 #[.agg (valsB a0).toArray, .string a1] w fun e w' => e = .returned (.bool true) ∧ Below w.heap.size w w' := by
  by_cases hs : a1.size ≤ 16384
  · exact hexes_small a0 a1 w0 hs w
  · exact hexes_big a0 a1 (by omega) w1 w

end Go.Proofs.Ytnfoegiogldidaa.Sha
