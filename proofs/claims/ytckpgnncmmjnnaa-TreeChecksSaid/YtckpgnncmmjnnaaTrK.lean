/- The code's Check on any proof. -/
import Derived.Test.YtckpgnncmmjnnaaTrW
namespace Go.Proofs.Ytckpgnncmmjnnaa.Tree
open Go.RowKit Go.Proofs.Ytckpgnncmmjnnaa.Sha

def sideF (i : Nat) (t x : List UInt8) : List UInt8 := if i % 2 = 1 then pairF x t else pairF t x
theorem sideF_len (i : Nat) (t x : List UInt8) : (sideF i t x).length = 32 := by unfold sideF; split <;> rfl
def goC : Nat → Nat → Nat → List UInt8 → List (List UInt8) → Option (List UInt8)
  | 0, _, _, T, P => if P.length = 0 then some T else none
  | f + 1, s, i, T, P => if s ≤ 1 then (if P.length = 0 then some T else none) else if oth i < s then (match P with | [] => none | x :: P' => goC f (s / 2 + s % 2) (i / 2) (sideF i T x) P') else goC f (s / 2 + s % 2) (i / 2) T P
theorem goC_one (f s i : Nat) (T : List UInt8) (P : List (List UInt8)) (h : s ≤ 1) : goC f s i T P = if P.length = 0 then some T else none := by
  cases f with
  | zero => rfl
  | succ f => unfold goC; rw [if_pos h]
theorem goC_nil (f s i : Nat) (T : List UInt8) (h : 1 < s) (h2 : oth i < s) : goC (f + 1) s i T [] = none := by
  unfold goC
  rw [if_neg (by omega), if_pos h2]
theorem goC_cons (f s i : Nat) (T x : List UInt8) (P : List (List UInt8)) (h : 1 < s) (h2 : oth i < s) : goC (f + 1) s i T (x :: P) = goC f (s / 2 + s % 2) (i / 2) (sideF i T x) P := by
  conv => lhs; unfold goC
  rw [if_neg (by omega), if_pos h2]
theorem goC_skip (f s i : Nat) (T : List UInt8) (P : List (List UInt8)) (h : 1 < s) (h2 : ¬ oth i < s) : goC (f + 1) s i T P = goC f (s / 2 + s % 2) (i / 2) T P := by
  conv => lhs; unfold goC
  rw [if_neg (by omega), if_neg h2]
def checkB (root : List UInt8) (n i : Nat) (h : List UInt8) (P : List (List UInt8)) : Bool := match goC n n i (leafF h) P with | none => false | some t => rootF n t == root

theorem slice_ofN {w : World} {v : Value} {L : List (List UInt8)} (h : Hashes w v L) : ∃ a cap, v = .slice a L.length cap := by
  rcases h with ⟨a, cap, rfl, rfl⟩ | ⟨g, o, cap, rfl, _, _⟩
  · exact ⟨a, cap, rfl⟩
  · exact ⟨_, cap, rfl⟩

set_option maxRecDepth 100000 in
set_option maxHeartbeats 1600000 in
theorem code_joined (i : Nat) (a b : List UInt8) (ha : a.length = 32) (hb : b.length = 32) (hi : i ≤ 1048576) (w : World) :
    Calls Try.prog 55 #[.int .i64 i, .agg (valsB a).toArray, .agg (valsB b).toArray] w fun e w' => e = .returned (.agg (valsB (sideF i a b)).toArray) ∧ Below w.heap.size w w' := by
  have HO := Lib.hid (fun w => code_other' i (by omega) w)
  obtain ⟨q, hq⟩ : ∃ q, oth i = q := ⟨_, rfl⟩
  have hq2 := oth_eq i
  rw [hq] at HO hq2
  have HRA := Lib.hid (row32 a ha)
  have HRB := Lib.hid (row32 b hb)
  have HRD := Lib.hid (row32 (sideF i a b) (sideF_len i a b))
  have HP := Lib.hid (show ∀ w, if i % 2 = 1 then Calls Try.prog 65 #[.agg (valsB b).toArray, .agg (valsB a).toArray] w fun e w' => e = .returned (.agg (valsB (sideF i a b)).toArray) ∧ Below w.heap.size w w' else Calls Try.prog 65 #[.agg (valsB a).toArray, .agg (valsB b).toArray] w fun e w' => e = .returned (.agg (valsB (sideF i a b)).toArray) ∧ Below w.heap.size w w' from fun w => by
    unfold sideF
    split
    · exact code_pair b a hb ha w
    · exact code_pair a b ha hb w)
  obtain ⟨CA, hCA⟩ : ∃ C, (valsB a).toArray = C := ⟨_, rfl⟩
  obtain ⟨CB, hCB⟩ : ∃ C, (valsB b).toArray = C := ⟨_, rfl⟩
  obtain ⟨D, hD⟩ : ∃ C, (valsB (sideF i a b)).toArray = C := ⟨_, rfl⟩
  rw [hD, hCA, hCB] at HP
  rw [hCA] at HRA
  rw [hCB] at HRB
  rw [hD] at HRD
  rw [hD, hCA, hCB]
  clear hCA hCB hD hq ha hb
  go_enter Try.func55, Try.ntmps55
  go_upto_region 1 with (fail)
  rw [zero32]
  obtain ⟨Z, hZ⟩ : ∃ Z, (List.replicate 32 (Value.int .u8 0)).toArray = Z := ⟨_, rfl⟩
  have HZD := Lib.hid (show Z.size = D.size by rw [← hZ, HRD.out.size]; rfl)
  rw [hZ]
  clear hZ
  have hs0 : (((w.alloc (.cells CA 24)).alloc (.cells CB 24)).alloc (.cells Z 24)).heap.size = w.heap.size + 3 := by simp
  have hw1 : (w.alloc (.cells CA 24)).heap.size = w.heap.size + 1 := by simp
  have HA := Lib.hid ((Below.heap_alloc _ (.cells Z 24) w.heap.size (by simp; omega)).trans (heap_alloc2_old w (.cells CA 24) (.cells CB 24)))
  have HB := Lib.hid ((Below.heap_alloc _ (.cells Z 24) (w.heap.size + 1) (by simp)).trans (heap_alloc2_new w (.cells CA 24) (.cells CB 24)))
  have HZ := Lib.hid (show (((w.alloc (.cells CA 24)).alloc (.cells CB 24)).alloc (.cells Z 24)).heap[w.heap.size + 2]? = some (.cells Z 24 (0, 0)) by
    have h := heap_alloc2_new (w.alloc (.cells CA 24)) (.cells CB 24) (.cells Z 24)
    rw [hw1] at h
    exact h)
  have HBW := Lib.hid (show Below w.heap.size w (((w.alloc (.cells CA 24)).alloc (.cells CB 24)).alloc (.cells Z 24)) from (((Below.refl _ _).alloc (Nat.le_refl _) _).alloc (by simp) _).alloc (by simp; omega) _)
  have HS0 := Lib.hid hs0
  clear hs0 hw1
  generalize ((w.alloc (.cells CA 24)).alloc (.cells CB 24)).alloc (.cells Z 24) = W at HA HB HZ HBW HS0 ⊢
  have hW : w.heap.size + 2 < W.heap.size := by rw [HS0.out]; omega
  by_cases hodd : i % 2 = 1
  · have hqi : (q : Int) < (i : Int) := by rw [if_neg (by omega)] at hq2; omega
    have HPP := Lib.hid (fun w => by have := HP.out w; rw [if_pos hodd] at this; exact this)
    clear hq2 hodd
    go_wp2_with (first
      | (go_at_call 44; refine (HO.out _).mono ?_; rintro e w' ⟨rfl, rfl⟩)
      | (refine wpList_load_row rfl 24 (.tmp 5) rfl (w.heap.size + 1) rfl 24 CB (0, 0) _ HB.out Try.underlying24 rfl HRB.out.info ?_)
      | (refine wpList_load_row rfl 24 (.tmp 4) rfl w.heap.size rfl 24 CA (0, 0) _ HA.out Try.underlying24 rfl HRA.out.info ?_))
    refine (HPP.out _).mono ?_
    rintro e w4 ⟨rfl, hb⟩
    have HZ2 := Lib.hid ((hb.block _ hW).trans HZ.out)
    have HB2 := Lib.hid (HBW.out.trans (hb.mono (by omega)))
    clear hb
    go_wp2_with (refine wpList_store_row rfl 24 (.tmp 6) (.tmp 13) rfl (w.heap.size + 2) D rfl rfl 24 Z HZ2.out HRD.out.info HZD.out HRD.out.one ?_)
    refine bodyPost_ret (results_cell_row (p := 6) (ty := 24) Try.results55 _ _ (w.heap.size + 2) 24 D (0, 0) _ rfl (setRow_heap _ _ _ _ _ _ HZ2.out) Try.underlying24 rfl HRD.out.info) rfl ⟨rfl, below_setRow HB2.out (by omega) _⟩
  · have hqi : ¬ (q : Int) < (i : Int) := by rw [if_pos (by omega)] at hq2; omega
    have HPP := Lib.hid (fun w => by have := HP.out w; rw [if_neg hodd] at this; exact this)
    clear hq2 hodd
    go_wp2_with (first
      | (go_at_call 44; refine (HO.out _).mono ?_; rintro e w' ⟨rfl, rfl⟩)
      | (refine wpList_load_row rfl 24 (.tmp 5) rfl (w.heap.size + 1) rfl 24 CB (0, 0) _ HB.out Try.underlying24 rfl HRB.out.info ?_)
      | (refine wpList_load_row rfl 24 (.tmp 4) rfl w.heap.size rfl 24 CA (0, 0) _ HA.out Try.underlying24 rfl HRA.out.info ?_))
    refine (HPP.out _).mono ?_
    rintro e w4 ⟨rfl, hb⟩
    have HZ2 := Lib.hid ((hb.block _ hW).trans HZ.out)
    have HB2 := Lib.hid (HBW.out.trans (hb.mono (by omega)))
    clear hb
    go_wp2_with (refine wpList_store_row rfl 24 (.tmp 6) (.tmp 16) rfl (w.heap.size + 2) D rfl rfl 24 Z HZ2.out HRD.out.info HZD.out HRD.out.one ?_)
    refine bodyPost_ret (results_cell_row (p := 6) (ty := 24) Try.results55 _ _ (w.heap.size + 2) 24 D (0, 0) _ rfl (setRow_heap _ _ _ _ _ _ HZ2.out) Try.underlying24 rfl HRD.out.info) rfl ⟨rfl, below_setRow HB2.out (by omega) _⟩

set_option maxRecDepth 100000 in
set_option maxHeartbeats 1600000 in
theorem code_Check_no (root h : List UInt8) (n i : Int) (v : Value) (hb : 1048576 < n ∨ i < 0 ∨ n ≤ i) (w : World) :
    Calls Try.prog 26 #[.agg (valsB root).toArray, .int .i64 n, .int .i64 i, .agg (valsB h).toArray, v] w fun e w' => e = .returned (.bool false) ∧ Below w.heap.size w w' := by
  obtain ⟨CR, hCR⟩ : ∃ C, (valsB root).toArray = C := ⟨_, rfl⟩
  obtain ⟨CH, hCH⟩ : ∃ C, (valsB h).toArray = C := ⟨_, rfl⟩
  rw [hCR, hCH]
  clear hCR hCH
  by_cases hn : 1048576 < n
  · clear hb
    go_enter Try.func26, Try.ntmps26
    go_wp2_with fail
    go_ret
    exact ⟨rfl, ((Below.refl _ _).alloc (Nat.le_refl _) _).alloc (by simp) _⟩
  · have HIP := Lib.hid (fun w => code_isPlace_no i n (by omega) w)
    clear hb
    go_enter Try.func26, Try.ntmps26
    go_wp2_with (go_at_call 41; refine (HIP.out _).mono ?_; rintro e w' ⟨rfl, rfl⟩)
    go_ret
    exact ⟨rfl, ((Below.refl _ _).alloc (Nat.le_refl _) _).alloc (by simp) _⟩

end Go.Proofs.Ytckpgnncmmjnnaa.Tree

namespace Go.Proofs.Ytckpgnncmmjnnaa.Tree
open Go.RowKit Go.Proofs.Ytckpgnncmmjnnaa.Sha

theorem Hashes.at0 {w : World} {v : Value} {x : List UInt8} {P : List (List UInt8)} (h : Hashes w v (x :: P)) : ∃ g o cap, v = .slice (some ⟨g, o, none⟩) (P.length + 1) cap ∧ w.rangeAt g o (valsB x) ∧ Hashes w v (x :: P) := by
  rcases h with ⟨a, cap, rfl, h0⟩ | ⟨g, o, cap, rfl, hp, hc⟩
  · simp at h0
  · refine ⟨g, o, cap, rfl, ?_, Or.inr ⟨g, o, cap, rfl, hp, hc⟩⟩
    have := hc 0 x rfl
    rw [Nat.zero_mul, Nat.add_zero] at this
    exact this

theorem Hashes.tail {w : World} {g o cap : Nat} {x : List UInt8} {P : List (List UInt8)} (h : Hashes w (.slice (some ⟨g, o, none⟩) (P.length + 1) cap) (x :: P)) (c' : Nat) : Hashes w (.slice (some ⟨g, o + 32, none⟩) P.length c') P := by
  by_cases h0 : P.length = 0
  · exact Or.inl ⟨_, _, by rw [h0], List.eq_nil_of_length_eq_zero h0⟩
  · rcases h with ⟨a, cap, hv, h1⟩ | ⟨g', o', cap', hv, hp, hc⟩
    · simp at h1
    · cases hv
      refine Or.inr ⟨g, o + 32, c', rfl, by omega, fun i s hi => ?_⟩
      have := hc (i + 1) s hi
      rw [show o + 32 + i * 32 = o + (i + 1) * 32 by omega]
      exact this

set_option maxRecDepth 100000 in
set_option maxHeartbeats 3200000 in
theorem code_Check (root h : List UInt8) (hr : root.length = 32) (hl : h.length = 32) (n i0 : Nat) (a : Option Addr) (cap : Nat) (P0 : List (List UInt8)) (w : World) (hv : Hashes w (.slice a P0.length cap) P0) (hcap : P0.length ≤ cap) (h32 : H32 P0) (hn : n ≤ 1048576) (hi : i0 < n) (hP : P0.length ≤ 1099511627776) :
    Calls Try.prog 26 #[.agg (valsB root).toArray, .int .i64 n, .int .i64 i0, .agg (valsB h).toArray, .slice a P0.length cap] w fun e w' => e = .returned (.bool (checkB root n i0 h P0)) ∧ Below w.heap.size w w' := by
  have HV := Lib.hid hv
  have H3 := Lib.hid h32
  have HIP := Lib.hid (fun w => code_isPlace_yes i0 n (by omega) (by omega) w)
  have HLF := Lib.hid (fun w => code_leaf h hl w)
  have HRO := Lib.hid (fun (T : List UInt8) (hT : T.length = 32) w => code_rootOf n T hT (by omega) w)
  have HRR := Lib.hid (row32 root hr)
  have HRH := Lib.hid (row32 h hl)
  have HRL := Lib.hid (row32 (leafF h) rfl)
  have HE := Lib.hid (fun (T : List UInt8) w => eqIn_hash (rootF n T) root rfl hr w)
  have HG0 := Lib.hid (show checkB root n i0 h P0 = match goC n n i0 (leafF h) P0 with | none => false | some t => rootF n t == root from rfl)
  obtain ⟨c0, hc0⟩ : ∃ c, checkB root n i0 h P0 = c := ⟨_, rfl⟩
  rw [hc0] at HG0
  rw [hc0]
  obtain ⟨CR, hCR⟩ : ∃ C, (valsB root).toArray = C := ⟨_, rfl⟩
  obtain ⟨CH, hCH⟩ : ∃ C, (valsB h).toArray = C := ⟨_, rfl⟩
  obtain ⟨CL, hCL⟩ : ∃ C, (valsB (leafF h)).toArray = C := ⟨_, rfl⟩
  rw [hCR] at HRR HE
  rw [hCH] at HLF HRH
  rw [hCL] at HLF HRL
  rw [hCR, hCH]
  have HCL := Lib.hid hCL
  have HL32 := Lib.hid (show 32 = CL.size from HRL.out.size.symm)
  obtain ⟨m, hm⟩ : ∃ m, P0.length = m := ⟨_, rfl⟩
  rw [hm] at hP HV hcap
  rw [hm]
  have HM := Lib.hid hm
  have hng : ¬ (1048576 : Int) < (n : Int) := by omega
  clear hCR hCH hCL hc0 hm hv h32 hr hl
  go_enter Try.func26, Try.ntmps26
  go_upto_region 3 with (go_at_call 41; refine (HIP.out _).mono ?_; rintro e w' ⟨rfl, rfl⟩)
  have HGR := Lib.hid (heap_alloc2_old w (.cells CR 24) (.cells CH 24))
  have HGH := Lib.hid (heap_alloc2_new w (.cells CR 24) (.cells CH 24))
  have HBA := Lib.hid (show Below w.heap.size w ((w.alloc (.cells CR 24)).alloc (.cells CH 24)) from ((Below.refl _ _).alloc (Nat.le_refl _) _).alloc (by simp) _)
  have hs : w.heap.size + 1 < ((w.alloc (.cells CR 24)).alloc (.cells CH 24)).heap.size := by simp
  generalize (w.alloc (.cells CR 24)).alloc (.cells CH 24) = W at HGR HGH HBA hs ⊢
  go_wp2_with (refine wpList_load_row rfl 24 (.tmp 8) rfl (w.heap.size + 1) rfl 24 CH (0, 0) _ HGH.out Try.underlying24 rfl HRH.out.info ?_)
  refine (HLF.out _).mono ?_
  rintro e w3 ⟨rfl, hb3⟩
  have HB3 := Lib.hid hb3
  clear hb3
  go_upto_region 4 with (refine wpList_store_row rfl 24 (.tmp 11) (.tmp 22) rfl w3.heap.size CL rfl rfl 24 _ (heap_alloc_new _ _) HRL.out.info HL32.out HRL.out.one ?_; rw [World.setRow_alloc_new])
  have hb4 : Below w3.heap.size w3 (w3.alloc (.cells CL 24)) := (Below.refl _ _).alloc (Nat.le_refl _) _
  have hlt3 : w.heap.size < w3.heap.size := by have := HB3.out.size; omega
  have hlt4 : w3.heap.size < (w3.alloc (.cells CL 24)).heap.size := by simp
  have HB4 := Lib.hid (HB3.out.trans (hb4.mono HB3.out.size))
  have HGL := Lib.hid (heap_alloc_new w3 (.cells CL 24))
  have HGR4 := Lib.hid ((HB4.out.block w.heap.size (by omega)).trans HGR.out)
  have HBW := Lib.hid (HBA.out.trans (HB4.out.mono (by omega)))
  obtain ⟨gl, hgl⟩ : ∃ g, w3.heap.size = g := ⟨_, rfl⟩
  rw [hgl] at HGL hlt3 hlt4
  rw [hgl]
  clear hb4 hgl
  generalize w3.alloc (.cells CL 24) = W4 at HB4 HGL HGR4 HBW hlt4 ⊢
  go_wp2_with fail
  go_loopw [2, 4, 12] (fun iv pv sv wr => ∃ (i s f : Nat) (T : List UInt8) (P : List (List UInt8)) (a' : Option Addr) (c' : Nat), iv = .int .i64 i ∧ sv = .int .i64 s ∧ pv = .slice a' P.length c' ∧ P.length ≤ c' ∧ Hashes w (.slice a' P.length c') P ∧ H32 P ∧ P.length ≤ m ∧ i ≤ n ∧ s ≤ n ∧ s ≤ f ∧ T.length = 32 ∧ wr.heap[gl]? = some (.cells (valsB T).toArray 24 (0, 0)) ∧ goC f s i T P = goC n n i0 (leafF h) P0 ∧ Below gl W4 wr ∧ gl < wr.heap.size) (fun _ _ sv _ => (intOf sv).toNat)
  case atStart => exact ⟨i0, n, n, leafF h, P0, a, cap, rfl, rfl, by rw [HM.out], by rw [HM.out]; exact hcap, by rw [HM.out]; exact HV.out, H3.out, by rw [HM.out]; exact Nat.le_refl _, by omega, by omega, by omega, rfl, by rw [HCL.out]; exact HGL.out, rfl, Below.refl _ _, hlt4⟩
  case round =>
    obtain ⟨i, s, f, T, P, a', c', rfl, rfl, rfl, hcp, hP, h32, hPm, hin, hsn, hsf, hT, hgT, hgo, hbel, hglt⟩ := hrel
    have HPV := Lib.hid hP
    have HP3 := Lib.hid h32
    have HGO := Lib.hid hgo
    have HBEL := Lib.hid hbel
    have HGT := Lib.hid hgT
    have HRT := Lib.hid (row32 T hT)
    have HT := Lib.hid hT
    have HGR5 := Lib.hid ((hbel.block w.heap.size hlt3).trans HGR4.out)
    have HB5 := Lib.hid (HBW.out.trans (hbel.mono (Nat.le_of_lt hlt3)))
    clear hP h32 hgo hbel hgT hT
    by_cases h1 : 1 < s
    · have hks : (1 : Int) < (s : Int) := by omega
      obtain ⟨f', rfl⟩ : ∃ k, f = k + 1 := ⟨f - 1, by omega⟩
      have HO := Lib.hid (fun w => code_other' i (by omega) w)
      have HAB := Lib.hid (fun w => code_above' s (by omega) w)
      have HGC := Lib.hid (fun (h2 : oth i < s) => goC_nil f' s i T h1 h2)
      have HGX := Lib.hid (fun (h2 : oth i < s) x P' => goC_cons f' s i T x P' h1 h2)
      have HGK := Lib.hid (fun (h2 : ¬ oth i < s) => goC_skip f' s i T P h1 h2)
      obtain ⟨q, hq⟩ : ∃ q, oth i = q := ⟨_, rfl⟩
      obtain ⟨u, hu⟩ : ∃ q, s / 2 + s % 2 = q := ⟨_, rfl⟩
      obtain ⟨k, hk⟩ : ∃ q, i / 2 = q := ⟨_, rfl⟩
      have hki : (i : Int) / 2 = (k : Int) := by omega
      have hub : u < s ∧ k ≤ n := by omega
      have HUB := Lib.hid hub
      rw [hq] at HO HGC HGX HGK
      rw [hu] at HAB HGX HGK
      rw [hk] at HGX HGK
      clear hq hu hk hub
      by_cases hqs : q < s
      · have hqi : (q : Int) < (s : Int) := by omega
        cases P with
        | nil =>
          have h2 : goC n n i0 (leafF h) P0 = none := by rw [← HGO.out, HGC.out hqs]
          have HC := Lib.hid (show c0 = false by rw [HG0.out, h2])
          rw [show ([] : List (List UInt8)).length = 0 from rfl]
          clear h2
          go_wp2_with (go_at_call 44; refine (HO.out _).mono ?_; rintro e w' ⟨rfl, rfl⟩)
          go_ret
          exact ⟨by rw [HC.out]; rfl, HB5.out⟩
        | cons x P' =>
          have HGY := Lib.hid (show goC f' u k (sideF i T x) P' = goC n n i0 (leafF h) P0 by rw [← HGO.out, HGX.out hqs])
          obtain ⟨g, o, cp, hvv, hrange, _⟩ := HPV.out.at0
          cases hvv
          have HX := Lib.hid (HP3.out x (by simp))
          have HRG := Lib.hid (range_kept HB5.out hrange)
          have HIX := Lib.hid (info_len x HX.out)
          have HJ := Lib.hid (fun w => code_joined i T x HT.out HX.out (by omega) w)
          have HRS := Lib.hid (row32 (sideF i T x) (sideF_len i T x))
          obtain ⟨CT, hCT⟩ : ∃ C, (valsB T).toArray = C := ⟨_, rfl⟩
          obtain ⟨CS, hCS⟩ : ∃ C, (valsB (sideF i T x)).toArray = C := ⟨_, rfl⟩
          rw [hCT] at HJ HGT HRT
          rw [hCS] at HJ HRS
          have HCS := Lib.hid hCS
          have HSZ := Lib.hid (show CT.size = CS.size by rw [HRT.out.size, HRS.out.size])
          rw [List.length_cons]
          have HTL := Lib.hid (fun c => HPV.out.tail c)
          obtain ⟨r, hr⟩ : ∃ r, P'.length = r := ⟨_, rfl⟩
          rw [List.length_cons, hr] at hPm
          rw [hr] at HTL
          rw [List.length_cons, hr] at hcp
          rw [hr]
          have HPL := Lib.hid hr
          have hr1 : ((r + 1 : Nat) : Int) = (r : Int) + 1 := by omega
          have hr0 : ((r : Int) + 1 == 0) = false := by simp; omega
          have hri : (0 : Int) < (r : Int) + 1 := by omega
          have HCP := Lib.hid hcp
          clear hrange hCT hCS hr HPV hcp
          go_wp2_with (go_at_call 44; refine (HO.out _).mono ?_; rintro e w' ⟨rfl, rfl⟩)
          refine QT.wp_region_below_tail 6 (by kernel_rfl) (by kernel_rfl) ?_
          simp only [List.take_succ_cons, List.take_zero, List.drop_succ_cons, List.drop_zero]
          repeat (first
            | (refine wpQuiet_step (fun K hK => ?_); rw [if_pos (by rfl)]; refine quiet_load_row 24 (.tmp 11) rfl gl rfl 24 CT (0, 0) _ HGT.out Try.underlying24 rfl HRT.out.info ?_; refine hK _ ?_; clear hK K)
            | (refine wpQuiet_step (fun K hK => ?_); rw [if_pos (by rfl)]; refine quiet_load_mid 24 (.tmp 38) rfl g o (by simp [Act.eval]) (valsB x) _ HRG.out Try.underlying24 rfl HIX.out ?_; refine hK _ ?_; clear hK K)
            | (quiet_step (with_reducible exact Calls.regrown_of (HJ.out _))))
          refine wpQuiet_nil ?_
          intro _ hw'
          obtain ⟨⟨dq, osq⟩, hw''⟩ := hw'
          subst hw''
          have hbq := below_regrown wr dq osq
          dsimp only
          generalize Sort.grow (redrawn wr dq) osq = w5 at hbq ⊢
          have HG5 := Lib.hid ((hbq.block _ hglt).trans HGT.out)
          have HB6 := Lib.hid (below_setRow (HBEL.out.trans (hbq.mono (Nat.le_of_lt hglt))) (Nat.le_refl _) CS)
          have HG6 := Lib.hid (setRow_heap _ _ _ CS _ _ HG5.out)
          clear hbq
          go_wp2_with (first
            | (refine wpList_store_row rfl 24 (.tmp 11) (.tmp 40) rfl gl CS rfl rfl 24 CT HG5.out HRS.out.info HSZ.out HRS.out.one ?_)
            | (go_at_call 54; refine (HAB.out _).mono ?_; rintro e w' ⟨rfl, rfl⟩))
          go_roundw
          case rel =>
            refine ⟨k, u, f', sideF i T x, P', _, _, rfl, rfl, by rw [HPL.out], by rw [HPL.out]; have := HCP.out; omega, ?_, fun y hy => HP3.out y (by simp [hy]), by rw [HPL.out]; omega, HUB.out.2, by have := HUB.out; omega, by have := HUB.out; omega, sideF_len i T x, by rw [HCS.out]; exact HG6.out, HGY.out, HB6.out, (Array.getElem?_eq_some_iff.1 HG6.out).1⟩
            rw [HPL.out]
            by_cases hc1 : c' = 1
            · have hz : r = 0 := by have := HCP.out; omega
              have hz2 := HPL.out
              rw [hz] at hz2
              exact Or.inl ⟨_, _, by rw [hz], List.eq_nil_of_length_eq_zero hz2⟩
            · rw [if_neg hc1]
              exact HTL.out _
          case measure =>
            have := HUB.out
            simp [intOf]
            omega
      · have hqi : ¬ (q : Int) < (s : Int) := by omega
        have HGY := Lib.hid ((HGK.out hqs).symm.trans HGO.out)
        obtain ⟨r, hr⟩ : ∃ r, P.length = r := ⟨_, rfl⟩
        have HPL := Lib.hid hr
        rw [hr] at HPV hPm hcp
        rw [hr]
        clear hr
        go_wp2_with (first
          | (go_at_call 44; refine (HO.out _).mono ?_; rintro e w' ⟨rfl, rfl⟩)
          | (go_at_call 54; refine (HAB.out _).mono ?_; rintro e w' ⟨rfl, rfl⟩))
        go_roundw
        case rel => exact ⟨k, u, f', T, P, a', c', rfl, rfl, by rw [HPL.out], by rw [HPL.out]; exact hcp, by rw [HPL.out]; exact HPV.out, HP3.out, by rw [HPL.out]; exact hPm, HUB.out.2, by have := HUB.out; omega, by have := HUB.out; omega, HT.out, HGT.out, HGY.out, HBEL.out, hglt⟩
        case measure =>
          have := HUB.out
          simp [intOf]
          omega
    · have hks : ¬ (1 : Int) < (s : Int) := by omega
      rw [goC_one f s i T P (by omega)] at HGO
      by_cases hP0 : P.length = 0
      · have HC := Lib.hid (show c0 = (rootF n T == root) by rw [HG0.out, ← HGO.out, if_pos hP0])
        rw [hP0] at HPV
        rw [hP0]
        obtain ⟨CT, hCT⟩ : ∃ C, (valsB T).toArray = C := ⟨_, rfl⟩
        have HRO2 := Lib.hid (HRO.out T HT.out)
        have HE2 := HE.out T
        obtain ⟨CX, hCX⟩ : ∃ C, (valsB (rootF n T)).toArray = C := ⟨_, rfl⟩
        obtain ⟨bx, hbx⟩ : ∃ b, (rootF n T == root) = b := ⟨_, rfl⟩
        rw [hCT] at HRO2 HGT HRT
        rw [hCX] at HRO2 HE2
        rw [hbx] at HE2 HC
        clear hCT hCX hbx hP0
        go_wp2_with fail
        refine wp_region_quiet_below (by kernel_rfl) (by kernel_rfl) ?_
        repeat (first
          | (refine wpQuiet_step (fun K hK => ?_); rw [if_pos (by rfl)]; refine quiet_load_row 24 (.tmp 11) rfl gl rfl 24 CT (0, 0) _ HGT.out Try.underlying24 rfl HRT.out.info ?_; refine hK _ ?_; clear hK K)
          | (refine wpQuiet_step (fun K hK => ?_); rw [if_pos (by rfl)]; refine quiet_load_row 24 (.tmp 5) rfl w.heap.size rfl 24 CR (0, 0) _ HGR5.out Try.underlying24 rfl HRR.out.info ?_; refine hK _ ?_; clear hK K)
          | (quiet_step (with_reducible exact Calls.regrown_of (HRO2.out _))))
        refine wpQuiet_nil ?_
        intro _ hw'
        obtain ⟨⟨dq, osq⟩, hw''⟩ := hw'
        subst hw''
        have HBQ := Lib.hid (HB5.out.trans ((below_regrown wr dq osq).mono HB5.out.size))
        dsimp only
        generalize Sort.grow (redrawn wr dq) osq = w5 at HBQ ⊢
        go_wp2_with fail
        go_ret
        exact ⟨by rw [HC.out]; rfl, HBQ.out⟩
      · have HC := Lib.hid (show c0 = false by rw [HG0.out, ← HGO.out, if_neg hP0])
        obtain ⟨r, hr⟩ : ∃ r, P.length = r := ⟨_, rfl⟩
        rw [hr] at HPV hP0
        rw [hr]
        have hm1 : ((r : Int) == 0) = false := by simp; omega
        clear hr
        go_wp2_with fail
        refine wp_region_quiet_below (by kernel_rfl) (by kernel_rfl) ?_
        repeat (quiet_step (fail))
        refine wpQuiet_nil ?_
        intro _ hw'
        obtain ⟨⟨dq, osq⟩, hw''⟩ := hw'
        subst hw''
        have HBQ := Lib.hid (HB5.out.trans ((below_regrown wr dq osq).mono HB5.out.size))
        dsimp only
        generalize Sort.grow (redrawn wr dq) osq = w5 at HBQ ⊢
        go_wp2_with fail
        go_ret
        exact ⟨by rw [HC.out]; rfl, HBQ.out⟩

end Go.Proofs.Ytckpgnncmmjnnaa.Tree

namespace Go.Proofs.Ytckpgnncmmjnnaa.Tree
open Go.RowKit Go.Proofs.Ytckpgnncmmjnnaa.Sha

set_option maxRecDepth 100000 in
set_option maxHeartbeats 1600000 in
theorem ref_Check_no (root h : List UInt8) (n i : Int) (v : Value) (hb : 1048576 < n ∨ i < 0 ∨ n ≤ i) (w : World) :
    Calls Try.prog 27 #[.agg (valsB root).toArray, .int .i64 n, .int .i64 i, .agg (valsB h).toArray, v] w fun e w' => e = .returned (.bool false) ∧ Below w.heap.size w w' := by
  obtain ⟨CR, hCR⟩ : ∃ C, (valsB root).toArray = C := ⟨_, rfl⟩
  obtain ⟨CH, hCH⟩ : ∃ C, (valsB h).toArray = C := ⟨_, rfl⟩
  rw [hCR, hCH]
  clear hCR hCH
  by_cases h0 : i < 0
  · clear hb
    go_enter Try.func27, Try.ntmps27
    go_wp2_with fail
    go_ret
    exact ⟨rfl, ((Below.refl _ _).alloc (Nat.le_refl _) _).alloc (by simp) _⟩
  · by_cases h1 : n ≤ i
    · clear hb
      go_enter Try.func27, Try.ntmps27
      go_wp2_with fail
      go_ret
      exact ⟨rfl, ((Below.refl _ _).alloc (Nat.le_refl _) _).alloc (by simp) _⟩
    · have hn : 1048576 < n := by omega
      clear hb
      go_enter Try.func27, Try.ntmps27
      go_wp2_with fail
      go_ret
      exact ⟨rfl, ((Below.refl _ _).alloc (Nat.le_refl _) _).alloc (by simp) _⟩

set_option maxRecDepth 100000 in
set_option maxHeartbeats 3200000 in
theorem ref_Check (root h : List UInt8) (hr : root.length = 32) (hl : h.length = 32) (n i0 : Nat) (v : Value) (P0 : List (List UInt8)) (w : World) (hv : Hashes w v P0) (h32 : H32 P0) (hn : n ≤ 1048576) (hi : i0 < n) (hP : P0.length ≤ 1099511627776) :
    Calls Try.prog 27 #[.agg (valsB root).toArray, .int .i64 n, .int .i64 i0, .agg (valsB h).toArray, v] w fun e w' => e = .returned (.bool (checkB root n i0 h P0)) ∧ Below w.heap.size w w' := by
  obtain ⟨a, cap, rfl⟩ := slice_ofN hv
  have HV := Lib.hid hv
  have H3 := Lib.hid h32
  have HLF := Lib.hid (fun w => ref_leaf h hl w)
  have HRO := Lib.hid (fun (T : List UInt8) (hT : T.length = 32) w => ref_over n T hT (by omega) w)
  have HRR := Lib.hid (row32 root hr)
  have HRH := Lib.hid (row32 h hl)
  have HRL := Lib.hid (row32 (leafF h) rfl)
  have HE := Lib.hid (fun (T : List UInt8) w => eqIn_hash (rootF n T) root rfl hr w)
  have HG0 := Lib.hid (show checkB root n i0 h P0 = match goC n n i0 (leafF h) P0 with | none => false | some t => rootF n t == root from rfl)
  obtain ⟨c0, hc0⟩ : ∃ c, checkB root n i0 h P0 = c := ⟨_, rfl⟩
  rw [hc0] at HG0
  rw [hc0]
  obtain ⟨CR, hCR⟩ : ∃ C, (valsB root).toArray = C := ⟨_, rfl⟩
  obtain ⟨CH, hCH⟩ : ∃ C, (valsB h).toArray = C := ⟨_, rfl⟩
  obtain ⟨CL, hCL⟩ : ∃ C, (valsB (leafF h)).toArray = C := ⟨_, rfl⟩
  rw [hCR] at HRR HE
  rw [hCH] at HLF HRH
  rw [hCL] at HLF HRL
  rw [hCR, hCH]
  have HCL := Lib.hid hCL
  have HL32 := Lib.hid (show 32 = CL.size from HRL.out.size.symm)
  obtain ⟨m, hm⟩ : ∃ m, P0.length = m := ⟨_, rfl⟩
  rw [hm] at hP HV
  rw [hm]
  have HM := Lib.hid hm
  have hng : ¬ (1048576 : Int) < (n : Int) := by omega
  have hi00 : ¬ (i0 : Int) < 0 := by omega
  have hin0 : ¬ (n : Int) ≤ (i0 : Int) := by omega
  clear hCR hCH hCL hc0 hm hv h32 hr hl
  go_enter Try.func27, Try.ntmps27
  go_upto_region 3 with (fail)
  have HGR := Lib.hid (heap_alloc2_old w (.cells CR 24) (.cells CH 24))
  have HGH := Lib.hid (heap_alloc2_new w (.cells CR 24) (.cells CH 24))
  have HBA := Lib.hid (show Below w.heap.size w ((w.alloc (.cells CR 24)).alloc (.cells CH 24)) from ((Below.refl _ _).alloc (Nat.le_refl _) _).alloc (by simp) _)
  have hs : w.heap.size + 1 < ((w.alloc (.cells CR 24)).alloc (.cells CH 24)).heap.size := by simp
  generalize (w.alloc (.cells CR 24)).alloc (.cells CH 24) = W at HGR HGH HBA hs ⊢
  go_wp2_with (refine wpList_load_row rfl 24 (.tmp 8) rfl (w.heap.size + 1) rfl 24 CH (0, 0) _ HGH.out Try.underlying24 rfl HRH.out.info ?_)
  refine (HLF.out _).mono ?_
  rintro e w3 ⟨rfl, hb3⟩
  have HB3 := Lib.hid hb3
  clear hb3
  go_upto_region 4 with (refine wpList_store_row rfl 24 (.tmp 11) (.tmp 27) rfl w3.heap.size CL rfl rfl 24 _ (heap_alloc_new _ _) HRL.out.info HL32.out HRL.out.one ?_; rw [World.setRow_alloc_new])
  have hb4 : Below w3.heap.size w3 (w3.alloc (.cells CL 24)) := (Below.refl _ _).alloc (Nat.le_refl _) _
  have hlt3 : w.heap.size < w3.heap.size := by have := HB3.out.size; omega
  have hlt4 : w3.heap.size < (w3.alloc (.cells CL 24)).heap.size := by simp
  have HB4 := Lib.hid (HB3.out.trans (hb4.mono HB3.out.size))
  have HGL := Lib.hid (heap_alloc_new w3 (.cells CL 24))
  have HGR4 := Lib.hid ((HB4.out.block w.heap.size (by omega)).trans HGR.out)
  have HBW := Lib.hid (HBA.out.trans (HB4.out.mono (by omega)))
  obtain ⟨gl, hgl⟩ : ∃ g, w3.heap.size = g := ⟨_, rfl⟩
  rw [hgl] at HGL hlt3 hlt4
  rw [hgl]
  clear hb4 hgl
  generalize w3.alloc (.cells CL 24) = W4 at HB4 HGL HGR4 HBW hlt4 ⊢
  go_wp2_with fail
  go_loopw [2, 12, 13] (fun iv uv sv wr => ∃ (i s f u : Nat) (T : List UInt8), iv = .int .i64 i ∧ sv = .int .i64 s ∧ uv = .int .i64 u ∧ u ≤ m ∧ i < s ∧ s ≤ n ∧ s ≤ f ∧ T.length = 32 ∧ wr.heap[gl]? = some (.cells (valsB T).toArray 24 (0, 0)) ∧ goC f s i T (P0.drop u) = goC n n i0 (leafF h) P0 ∧ Below gl W4 wr ∧ gl < wr.heap.size) (fun _ _ sv _ => (intOf sv).toNat)
  case atStart => exact ⟨i0, n, n, 0, leafF h, rfl, rfl, rfl, by omega, hi, by omega, by omega, rfl, by rw [HCL.out]; exact HGL.out, rfl, Below.refl _ _, hlt4⟩
  case round =>
    obtain ⟨i, s, f, u, T, rfl, rfl, rfl, hum, his, hsn, hsf, hT, hgT, hgo, hbel, hglt⟩ := hrel
    have HGO := Lib.hid hgo
    have HBEL := Lib.hid hbel
    have HGT := Lib.hid hgT
    have HRT := Lib.hid (row32 T hT)
    have HT := Lib.hid hT
    have HGR5 := Lib.hid ((hbel.block w.heap.size hlt3).trans HGR4.out)
    have HB5 := Lib.hid (HBW.out.trans (hbel.mono (Nat.le_of_lt hlt3)))
    clear hgo hbel hgT hT
    by_cases h1 : 1 < s
    · have hks : (1 : Int) < (s : Int) := by omega
      obtain ⟨f', rfl⟩ : ∃ k, f = k + 1 := ⟨f - 1, by omega⟩
      have HGC := Lib.hid (fun (h2 : oth i < s) => goC_nil f' s i T h1 h2)
      have HGX := Lib.hid (fun (h2 : oth i < s) x P' => goC_cons f' s i T x P' h1 h2)
      have HGK := Lib.hid (fun (h2 : ¬ oth i < s) => goC_skip f' s i T (P0.drop u) h1 h2)
      obtain ⟨z, hz⟩ : ∃ q, s / 2 + s % 2 = q := ⟨_, rfl⟩
      obtain ⟨k, hk⟩ : ∃ q, i / 2 = q := ⟨_, rfl⟩
      obtain ⟨zh, hzh⟩ : ∃ q, s / 2 = q := ⟨_, rfl⟩
      obtain ⟨zr, hzr⟩ : ∃ q, s % 2 = q := ⟨_, rfl⟩
      have hki : (i : Int) / 2 = (k : Int) := by omega
      have hzhi : (s : Int) / 2 = (zh : Int) := by omega
      have hzri : (s : Int) % 2 = (zr : Int) := by omega
      have hzz : zh + zr = z := by omega
      have hzzi : (zh : Int) + (zr : Int) = (z : Int) := by omega
      have hub : z < s ∧ k < z ∧ z ≤ n ∧ z ≤ f' := by omega
      have HUB := Lib.hid hub
      rw [hz] at HGX HGK
      rw [hk] at HGX HGK
      have HOE := Lib.hid (oth_eq i)
      have hz1 : zh ≤ 1048576 := by omega
      have hz2 : zr ≤ 1 := by omega
      clear hz hk hub hzh hzr hzz
      by_cases hqs : oth i < s
      · by_cases hue : u = m
        · have h2 : goC n n i0 (leafF h) P0 = none := by
            rw [← HGO.out, List.drop_eq_nil_of_le (by rw [HM.out]; omega)]
            exact HGC.out hqs
          have HC := Lib.hid (show c0 = false by rw [HG0.out, h2])
          subst hue
          by_cases hodd : i % 2 = 1
          · have hoi2 : ((i : Int) % 2 == 1) = true := by simp; omega
            clear h2 hqs hodd
            go_wp2_with fail
            go_ret
            exact ⟨by rw [HC.out]; rfl, HB5.out⟩
          · have hoi2 : ((i : Int) % 2 == 1) = false := by simp; omega
            obtain ⟨j, hj⟩ : ∃ j, i + 1 = j := ⟨_, rfl⟩
            have hji : (i : Int) + 1 = (j : Int) := by omega
            have hjs : (j : Int) < (s : Int) := by have h3 := HOE.out; rw [if_pos (by omega)] at h3; omega
            clear h2 hqs hodd hj
            go_wp2_with fail
            go_ret
            exact ⟨by rw [HC.out]; rfl, HB5.out⟩
        · have hul : u < m := by omega
          obtain ⟨x, hx⟩ : ∃ x, P0[u]? = some x := ⟨P0[u]'(by rw [HM.out]; exact hul), List.getElem?_eq_getElem _⟩
          have hdr : P0.drop u = x :: P0.drop (u + 1) := by
            have h3 := List.drop_eq_getElem_cons (l := P0) (i := u) (by rw [HM.out]; exact hul)
            rw [h3]
            rw [List.getElem?_eq_getElem (by rw [HM.out]; exact hul)] at hx
            rw [Option.some.inj hx]
          have HGY := Lib.hid (show goC f' z k (sideF i T x) (P0.drop (u + 1)) = goC n n i0 (leafF h) P0 by rw [← HGO.out, hdr]; exact (HGX.out hqs x _).symm)
          obtain ⟨g, o, hag, hrange⟩ : ∃ g o, a = some ⟨g, o, none⟩ ∧ w.rangeAt g (o + u * 32) (valsB x) := by
            rcases HV.out with ⟨a1, c1, hv1, h1⟩ | ⟨g, o, c1, hv1, _, hc⟩
            · rw [h1] at hx; simp at hx
            · cases hv1
              exact ⟨g, o, rfl, hc u x hx⟩
          subst hag
          have HX := Lib.hid (H3.out x (List.mem_of_getElem? hx))
          have HRG := Lib.hid (range_kept HB5.out hrange)
          have HIX := Lib.hid (info_len x HX.out)
          have HRS := Lib.hid (row32 (sideF i T x) (sideF_len i T x))
          have hui : (u : Int) < (m : Int) := by omega
          have hu0 : (0 : Int) ≤ (u : Int) := by omega
          have hue2 : ((u : Int) == (m : Int)) = false := by simp; omega
          by_cases hodd : i % 2 = 1
          · have hoi2 : ((i : Int) % 2 == 1) = true := by simp; omega
            have HJ := Lib.hid (fun w => ref_pair x T HX.out HT.out w)
            rw [show pairF x T = sideF i T x by unfold sideF; rw [if_pos hodd]] at HJ
            obtain ⟨CT, hCT⟩ : ∃ C, (valsB T).toArray = C := ⟨_, rfl⟩
            obtain ⟨CS, hCS⟩ : ∃ C, (valsB (sideF i T x)).toArray = C := ⟨_, rfl⟩
            rw [hCT] at HJ HGT HRT
            rw [hCS] at HJ HRS
            have HCS := Lib.hid hCS
            have HSZ := Lib.hid (show CT.size = CS.size by rw [HRT.out.size, HRS.out.size])
            clear hqs hodd hx hdr hrange hCT hCS hue
            go_wp2_with fail
            refine QT.wp_region_below_tail 6 (by kernel_rfl) (by kernel_rfl) ?_
            simp only [List.take_succ_cons, List.take_zero, List.drop_succ_cons, List.drop_zero]
            repeat (first
              | (refine wpQuiet_step (fun K hK => ?_); rw [if_pos (by rfl)]; refine quiet_load_row 24 (.tmp 11) rfl gl rfl 24 CT (0, 0) _ HGT.out Try.underlying24 rfl HRT.out.info ?_; refine hK _ ?_; clear hK K)
              | (refine wpQuiet_step (fun K hK => ?_); rw [if_pos (by rfl)]; refine quiet_load_mid 24 (.tmp 58) rfl g (o + u * 32) (by simp [Act.eval]) (valsB x) _ HRG.out Try.underlying24 rfl HIX.out ?_; refine hK _ ?_; clear hK K)
              | (quiet_step (with_reducible exact Calls.regrown_of (HJ.out _))))
            refine wpQuiet_nil ?_
            intro _ hw'
            obtain ⟨⟨dq, osq⟩, hw''⟩ := hw'
            subst hw''
            have hbq := below_regrown wr dq osq
            dsimp only
            generalize Sort.grow (redrawn wr dq) osq = w5 at hbq ⊢
            have HG5 := Lib.hid ((hbq.block _ hglt).trans HGT.out)
            have HB6 := Lib.hid (below_setRow (HBEL.out.trans (hbq.mono (Nat.le_of_lt hglt))) (Nat.le_refl _) CS)
            have HG6 := Lib.hid (setRow_heap _ _ _ CS _ _ HG5.out)
            clear hbq
            go_wp2_with (refine wpList_store_row rfl 24 (.tmp 11) (.tmp 61) rfl gl CS rfl rfl 24 CT HG5.out HRS.out.info HSZ.out HRS.out.one ?_)
            go_roundw
            case rel => exact ⟨k, z, f', u + 1, sideF i T x, rfl, by go_num, by go_num, by omega, HUB.out.2.1, HUB.out.2.2.1, HUB.out.2.2.2, sideF_len i T x, by rw [HCS.out]; exact HG6.out, HGY.out, HB6.out, (Array.getElem?_eq_some_iff.1 HG6.out).1⟩
            case measure =>
              have := HUB.out
              simp [intOf]
              omega
          · have hoi2 : ((i : Int) % 2 == 1) = false := by simp; omega
            obtain ⟨j, hj⟩ : ∃ j, i + 1 = j := ⟨_, rfl⟩
            have hji : (i : Int) + 1 = (j : Int) := by omega
            have hjs : (j : Int) < (s : Int) := by have h3 := HOE.out; rw [if_pos (by omega)] at h3; omega
            have HJ := Lib.hid (fun w => ref_pair T x HT.out HX.out w)
            rw [show pairF T x = sideF i T x by unfold sideF; rw [if_neg hodd]] at HJ
            obtain ⟨CT, hCT⟩ : ∃ C, (valsB T).toArray = C := ⟨_, rfl⟩
            obtain ⟨CS, hCS⟩ : ∃ C, (valsB (sideF i T x)).toArray = C := ⟨_, rfl⟩
            rw [hCT] at HJ HGT HRT
            rw [hCS] at HJ HRS
            have HCS := Lib.hid hCS
            have HSZ := Lib.hid (show CT.size = CS.size by rw [HRT.out.size, HRS.out.size])
            clear hqs hodd hx hdr hrange hCT hCS hue hj
            go_wp2_with fail
            refine QT.wp_region_below_tail 6 (by kernel_rfl) (by kernel_rfl) ?_
            simp only [List.take_succ_cons, List.take_zero, List.drop_succ_cons, List.drop_zero]
            repeat (first
              | (refine wpQuiet_step (fun K hK => ?_); rw [if_pos (by rfl)]; refine quiet_load_row 24 (.tmp 11) rfl gl rfl 24 CT (0, 0) _ HGT.out Try.underlying24 rfl HRT.out.info ?_; refine hK _ ?_; clear hK K)
              | (refine wpQuiet_step (fun K hK => ?_); rw [if_pos (by rfl)]; refine quiet_load_mid 24 (.tmp 65) rfl g (o + u * 32) (by simp [Act.eval]) (valsB x) _ HRG.out Try.underlying24 rfl HIX.out ?_; refine hK _ ?_; clear hK K)
              | (quiet_step (with_reducible exact Calls.regrown_of (HJ.out _))))
            refine wpQuiet_nil ?_
            intro _ hw'
            obtain ⟨⟨dq, osq⟩, hw''⟩ := hw'
            subst hw''
            have hbq := below_regrown wr dq osq
            dsimp only
            generalize Sort.grow (redrawn wr dq) osq = w5 at hbq ⊢
            have HG5 := Lib.hid ((hbq.block _ hglt).trans HGT.out)
            have HB6 := Lib.hid (below_setRow (HBEL.out.trans (hbq.mono (Nat.le_of_lt hglt))) (Nat.le_refl _) CS)
            have HG6 := Lib.hid (setRow_heap _ _ _ CS _ _ HG5.out)
            clear hbq
            go_wp2_with (refine wpList_store_row rfl 24 (.tmp 11) (.tmp 67) rfl gl CS rfl rfl 24 CT HG5.out HRS.out.info HSZ.out HRS.out.one ?_)
            go_roundw
            case rel => exact ⟨k, z, f', u + 1, sideF i T x, rfl, by go_num, by go_num, by omega, HUB.out.2.1, HUB.out.2.2.1, HUB.out.2.2.2, sideF_len i T x, by rw [HCS.out]; exact HG6.out, HGY.out, HB6.out, (Array.getElem?_eq_some_iff.1 HG6.out).1⟩
            case measure =>
              have := HUB.out
              simp [intOf]
              omega
      · have HGY := Lib.hid ((HGK.out hqs).symm.trans HGO.out)
        have hodd : ¬ i % 2 = 1 := fun h3 => by have h4 := HOE.out; rw [if_neg (by omega)] at h4; omega
        have hoi2 : ((i : Int) % 2 == 1) = false := by simp; omega
        obtain ⟨j, hj⟩ : ∃ j, i + 1 = j := ⟨_, rfl⟩
        have hji : (i : Int) + 1 = (j : Int) := by omega
        have hjs : ¬ (j : Int) < (s : Int) := by have h3 := HOE.out; rw [if_pos (by omega)] at h3; omega
        clear hqs hodd hj
        go_wp2_with fail
        go_roundw
        case rel => exact ⟨k, z, f', u, T, rfl, by go_num, rfl, hum, HUB.out.2.1, HUB.out.2.2.1, HUB.out.2.2.2, HT.out, HGT.out, HGY.out, HBEL.out, hglt⟩
        case measure =>
          have := HUB.out
          simp [intOf]
          omega
    · have hks : ¬ (1 : Int) < (s : Int) := by omega
      rw [goC_one f s i T _ (by omega), List.length_drop, HM.out] at HGO
      by_cases hP0 : u = m
      · have HC := Lib.hid (show c0 = (rootF n T == root) by rw [HG0.out, ← HGO.out, if_pos (by omega)])
        subst hP0
        obtain ⟨CT, hCT⟩ : ∃ C, (valsB T).toArray = C := ⟨_, rfl⟩
        have HRO2 := Lib.hid (HRO.out T HT.out)
        have HE2 := HE.out T
        obtain ⟨CX, hCX⟩ : ∃ C, (valsB (rootF n T)).toArray = C := ⟨_, rfl⟩
        obtain ⟨bx, hbx⟩ : ∃ b, (rootF n T == root) = b := ⟨_, rfl⟩
        rw [hCT] at HRO2 HGT HRT
        rw [hCX] at HRO2 HE2
        rw [hbx] at HE2 HC
        clear hCT hCX hbx
        go_wp2_with fail
        refine wp_region_quiet_below (by kernel_rfl) (by kernel_rfl) ?_
        repeat (first
          | (refine wpQuiet_step (fun K hK => ?_); rw [if_pos (by rfl)]; refine quiet_load_row 24 (.tmp 11) rfl gl rfl 24 CT (0, 0) _ HGT.out Try.underlying24 rfl HRT.out.info ?_; refine hK _ ?_; clear hK K)
          | (refine wpQuiet_step (fun K hK => ?_); rw [if_pos (by rfl)]; refine quiet_load_row 24 (.tmp 5) rfl w.heap.size rfl 24 CR (0, 0) _ HGR5.out Try.underlying24 rfl HRR.out.info ?_; refine hK _ ?_; clear hK K)
          | (quiet_step (with_reducible exact Calls.regrown_of (HRO2.out _))))
        refine wpQuiet_nil ?_
        intro _ hw'
        obtain ⟨⟨dq, osq⟩, hw''⟩ := hw'
        subst hw''
        have HBQ := Lib.hid (HB5.out.trans ((below_regrown wr dq osq).mono HB5.out.size))
        dsimp only
        generalize Sort.grow (redrawn wr dq) osq = w5 at HBQ ⊢
        go_wp2_with fail
        go_ret
        exact ⟨by rw [HC.out]; rfl, HBQ.out⟩
      · have HC := Lib.hid (show c0 = false by rw [HG0.out, ← HGO.out, if_neg (by omega)])
        have hm1 : ((u : Int) == (m : Int)) = false := by simp; omega
        go_wp2_with fail
        refine wp_region_quiet_below (by kernel_rfl) (by kernel_rfl) ?_
        repeat (quiet_step (fail))
        refine wpQuiet_nil ?_
        intro _ hw'
        obtain ⟨⟨dq, osq⟩, hw''⟩ := hw'
        subst hw''
        have HBQ := Lib.hid (HB5.out.trans ((below_regrown wr dq osq).mono HB5.out.size))
        dsimp only
        generalize Sort.grow (redrawn wr dq) osq = w5 at HBQ ⊢
        go_wp2_with fail
        go_ret
        exact ⟨by rw [HC.out]; rfl, HBQ.out⟩

end Go.Proofs.Ytckpgnncmmjnnaa.Tree

namespace Go.Proofs.Ytckpgnncmmjnnaa.Tree
open Go.RowKit Go.Proofs.Ytckpgnncmmjnnaa.Sha

set_option maxRecDepth 100000 in
set_option maxHeartbeats 1600000 in
theorem law_TreeChecks (a0 : List UInt8) (a1 a2 : Int) (a3 : List UInt8) (v4 : Value) (a4 : List (List UInt8)) (w : World) (w0 : a0.length = 32) (_w1 : (Lit.int .i64 a1).wf = true) (_w2 : (Lit.int .i64 a2).wf = true) (w3 : a3.length = 32) (w4 : Hashes w v4 a4) (x4 : H32 a4) (y4 : a4.length ≤ maxLen) (z4 : ∃ a l c, v4 = .slice a l c ∧ l ≤ c) :
    Calls Try.prog 8 #[.agg (valsB a0).toArray, .int .i64 a1, .int .i64 a2, .agg (valsB a3).toArray, v4] w fun e w' => e = .returned (.bool true) ∧ Below w.heap.size w w' := by
  obtain ⟨a, cap, rfl⟩ := slice_ofN w4
  have hcap : a4.length ≤ cap := by
    obtain ⟨a', l', c', hv, hlc⟩ := z4
    cases hv
    exact hlc
  have hm : a4.length ≤ 9223372036854775807 := y4
  clear _w1 _w2 y4 z4
  have HRR := Lib.hid (row32 a0 w0)
  have HRH := Lib.hid (row32 a3 w3)
  by_cases hbig : 300 < a4.length
  · obtain ⟨n, hn⟩ : ∃ n, a4.length = n := ⟨_, rfl⟩
    obtain ⟨CR, hCR⟩ : ∃ C, (valsB a0).toArray = C := ⟨_, rfl⟩
    obtain ⟨CH, hCH⟩ : ∃ C, (valsB a3).toArray = C := ⟨_, rfl⟩
    rw [hCR, hCH]
    rw [hn] at hbig hm
    rw [hn]
    have hb : (300 : Int) < (n : Int) := by omega
    clear hn w0 w3 w4 x4 hcap hCR hCH HRR HRH
    go_enter Try.func8, Try.ntmps8
    go_upto_region 1 with (fail)
    have HBA := Lib.hid (show Below w.heap.size w ((w.alloc (.cells CR 24)).alloc (.cells CH 24)) from ((Below.refl _ _).alloc (Nat.le_refl _) _).alloc (by simp) _)
    generalize (w.alloc (.cells CR 24)).alloc (.cells CH 24) = W at HBA ⊢
    go_wp2_with fail
    refine (works4 _).mono ?_
    rintro e w' ⟨rfl, hb4⟩
    have HB := Lib.hid (HBA.out.trans (hb4.mono HBA.out.size))
    clear hb4
    go_wp2_with fail
    go_ret
    exact ⟨rfl, HB.out⟩
  · have HCC : ∃ c : Bool, (∀ W, Below w.heap.size w W → Calls Try.prog 26 #[.agg (valsB a0).toArray, .int .i64 a1, .int .i64 a2, .agg (valsB a3).toArray, .slice a a4.length cap] W fun e w' => e = .returned (.bool c) ∧ Below W.heap.size W w') ∧ (∀ W, Below w.heap.size w W → Calls Try.prog 27 #[.agg (valsB a0).toArray, .int .i64 a1, .int .i64 a2, .agg (valsB a3).toArray, .slice a a4.length cap] W fun e w' => e = .returned (.bool c) ∧ Below W.heap.size W w') := by
      by_cases hno : 1048576 < a1 ∨ a2 < 0 ∨ a1 ≤ a2
      · exact ⟨false, fun W _ => code_Check_no a0 a3 a1 a2 _ hno W, fun W _ => ref_Check_no a0 a3 a1 a2 _ hno W⟩
      · obtain ⟨n, rfl⟩ : ∃ n : Nat, a1 = n := ⟨a1.toNat, by omega⟩
        obtain ⟨i, rfl⟩ : ∃ i : Nat, a2 = i := ⟨a2.toNat, by omega⟩
        exact ⟨checkB a0 n i a3 a4, fun W hb => code_Check a0 a3 w0 w3 n i a cap a4 W (w4.kept hb) hcap x4 (by omega) (by omega) (by omega), fun W hb => ref_Check a0 a3 w0 w3 n i _ a4 W (w4.kept hb) x4 (by omega) (by omega) (by omega)⟩
    obtain ⟨c, hc1, hc2⟩ := HCC
    obtain ⟨n, hn⟩ : ∃ n, a4.length = n := ⟨_, rfl⟩
    obtain ⟨CR, hCR⟩ : ∃ C, (valsB a0).toArray = C := ⟨_, rfl⟩
    obtain ⟨CH, hCH⟩ : ∃ C, (valsB a3).toArray = C := ⟨_, rfl⟩
    rw [hn, hCR, hCH] at hc1 hc2
    rw [hCR] at HRR
    rw [hCH] at HRH
    rw [hCR, hCH]
    rw [hn] at hbig hm
    rw [hn]
    have HC1 := Lib.hid hc1
    have HC2 := Lib.hid hc2
    have hb : ¬ (300 : Int) < (n : Int) := by omega
    clear hn w0 w3 w4 x4 hcap hCR hCH hc1 hc2
    go_enter Try.func8, Try.ntmps8
    go_upto_region 1 with (fail)
    have HGR := Lib.hid (heap_alloc2_old w (.cells CR 24) (.cells CH 24))
    have HGH := Lib.hid (heap_alloc2_new w (.cells CR 24) (.cells CH 24))
    have HBA := Lib.hid (show Below w.heap.size w ((w.alloc (.cells CR 24)).alloc (.cells CH 24)) from ((Below.refl _ _).alloc (Nat.le_refl _) _).alloc (by simp) _)
    generalize (w.alloc (.cells CR 24)).alloc (.cells CH 24) = W at HBA HGR HGH ⊢
    have HC3 := Lib.hid (fun w' (hb : Below W.heap.size W w') => HC1.out w' (HBA.out.trans (hb.mono HBA.out.size)))
    have HC4 := Lib.hid (fun w' (hb : Below W.heap.size W w') => HC2.out w' (HBA.out.trans (hb.mono HBA.out.size)))
    have hcc : (c == c) = true := by simp
    have HWK := Lib.hid works4
    go_wp2_with fail
    refine wp_region_quiet_below (by kernel_rfl) (by kernel_rfl) ?_
    repeat (first
      | (refine wpQuiet_step (fun K hK => ?_); rw [if_pos (by rfl)]; refine quiet_load_row 24 (.tmp 5) rfl w.heap.size rfl 24 CR (0, 0) _ HGR.out Try.underlying24 rfl HRR.out.info ?_; refine hK _ ?_; clear hK K)
      | (refine wpQuiet_step (fun K hK => ?_); rw [if_pos (by rfl)]; refine quiet_load_row 24 (.tmp 8) rfl (w.heap.size + 1) rfl 24 CH (0, 0) _ HGH.out Try.underlying24 rfl HRH.out.info ?_; refine hK _ ?_; clear hK K)
      | (quiet_step (first | (with_reducible exact Calls.regrown_of (HC3.out _ (by first | exact Below.refl _ _ | exact below_regrown _ _ _))) | (with_reducible exact Calls.regrown_of (HC4.out _ (by first | exact Below.refl _ _ | exact below_regrown _ _ _))) | (with_reducible exact Calls.regrown_of (HWK.out _)))))
    refine wpQuiet_nil ?_
    intro _ hw'
    obtain ⟨⟨dq, osq⟩, hw''⟩ := hw'
    subst hw''
    have HBQ := Lib.hid (HBA.out.trans ((below_regrown W dq osq).mono HBA.out.size))
    dsimp only
    generalize Sort.grow (redrawn W dq) osq = w5 at HBQ ⊢
    go_wp2_with fail
    go_ret
    exact ⟨by simp, HBQ.out⟩

end Go.Proofs.Ytckpgnncmmjnnaa.Tree
