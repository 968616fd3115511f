/- reel: as many records as there is room for. -/
import Derived.Test.YtepcfmigkhacgaaDoorRmC
namespace Go.Proofs.YtepcfmigkhacgaaDoor.Rl
open Go.RowKit Go.Proofs.YtepcfmigkhacgaaDoor.Gr Go.Proofs.YtepcfmigkhacgaaDoor.Frame Go.Proofs.YtepcfmigkhacgaaDoor.Dk

theorem fileN_new (f : Nat) : fileN newS.now f = [] := by
  unfold fileN newS
  simp only [List.getD_eq_getElem?_getD, List.getElem?_replicate]
  split <;> rfl
theorem fileT_nil (f : Nat) : fileT [] f = [] := by simp [fileT]
theorem rec_new : Rec newS [] (fun _ => 0) where
  lenN := rfl
  lenS := rfl
  len := by decide
  small := by simp
  now f _ := by rw [fileN_new, fileT_nil]; rfl
  kle f := Nat.zero_le _
  sure f _ := by rw [fileT_nil]; exact fileN_new f
  loose f _ := by rw [fileT_nil]; rfl
theorem inv_new : Inv newS [] 0 := ⟨⟨_, rec_new, fun i hi => by omega⟩, Nat.le_refl _⟩
theorem append_easy {S : St} {all : List Tx} {rs : Nat} (h : Inv S all rs) (hon : S.on = true) (hl : S.lasts = -1) (s : Tx) (hs : s.length ≤ 100) (h8 : ∀ t ∈ all, t.length ≤ 100) (hlen : all.length < 512) :
    ∃ T, appendR S all s = (0, T, all ++ [s]) ∧ T.on = true ∧ T.lasts = -1 ∧ Inv T (all ++ [s]) rs := by
  have hinv := h.append s
  obtain ⟨K, hr, _⟩ := h.rec_
  have hf : all.length / 8 < 64 := by omega
  have hsz : (S.now.getD (all.length / 8) ⟨#[]⟩).size ≤ 872 := by
    rw [fileN_size, hr.now _ hf]
    have h1 := frs_le (fileT all (all.length / 8)) 100 (fun t ht => h8 t (fileT_mem ht))
    have h2 : (fileT all (all.length / 8)).length ≤ 8 := by rw [fileT_len]; omega
    have h3 : (100 + 9) * (fileT all (all.length / 8)).length ≤ (100 + 9) * 8 := Nat.mul_le_mul_left _ h2
    omega
  have hfr : (bt (frameL s)).size ≤ 109 := by
    show (frameL s).length ≤ 109
    rw [frameL_len]
    omega
  obtain ⟨o1, o2⟩ := opS_lasts hl
  have e : appendS S ((all.length / 8 : Nat) : Int) (bt (frameL s)) = (0, putS (opS S).2 (all.length / 8) (bt (frameL s))) := by
    unfold appendS
    rw [hon, errF_yes (by omega), if_neg (by simp), Int.toNat_natCast, if_neg (by omega), if_neg (by rw [o1]; simp)]
  have e2 : appendR S all s = (0, putS (opS S).2 (all.length / 8) (bt (frameL s)), all ++ [s]) := by
    unfold appendR
    rw [if_neg (by omega), if_neg (by omega), e]
    simp
  rw [e2] at hinv
  exact ⟨_, e2, by show (opS S).2.on = true; rw [opS_on o1, hon], o2, hinv.1⟩
theorem append_full {S : St} {all : List Tx} (s : Tx) (hs : s.length ≤ 100) (hlen : 512 ≤ all.length) : appendR S all s = (7, S, all) := by
  unfold appendR
  rw [if_neg (by omega), if_pos hlen]
/-- n times the same. -/
def same (s : Tx) (n : Nat) : List Tx := List.replicate n s
theorem same_len (s : Tx) (n : Nat) : (same s n).length = n := by simp [same]
theorem same_snoc (s : Tx) (n : Nat) : same s n ++ [s] = same s (n + 1) := by unfold same; rw [List.replicate_succ']
theorem same_mem {s t : Tx} {n : Nat} (h : t ∈ same s n) : t = s := List.eq_of_mem_replicate h
theorem Inv.still {S : St} {all : List Tx} {rs : Nat} (h : Inv S all rs) (hon : S.on = true) : openS S = (0, S, all) := by
  obtain ⟨K, h1, _⟩ := h.rec_
  exact open_still h1 hon
set_option maxRecDepth 100000 in
set_option maxHeartbeats 3200000 in
theorem most_any (C : Reels) (s : ByteArray) (many : Int) (w : World) (hs : s.size ≤ maxLen) (ht : Tab w) :
    Calls Tryd.prog 5 #[.string s, .int .i64 many] w fun e w' => e = .returned (.bool true) ∧ Below w.heap.size w w' := by
  have HT := Lib.hid ht
  have HW := Lib.hid (works_any C w ht)
  clear ht
  by_cases h1 : 100 < s.size
  · have h1i : (100 : Int) < (s.size : Int) := by omega
    go_enter Tryd.func5, Tryd.ntmps5
    go_wp2_with fail
    refine HW.out.mono ?_
    rintro e w1 ⟨rfl, hb⟩
    have HB := Lib.hid hb
    clear hb
    go_wp2
    go_ret
    exact ⟨rfl, HB.out⟩
  have h1i : ¬ (100 : Int) < (s.size : Int) := by omega
  by_cases h2 : many < 0
  · go_enter Tryd.func5, Tryd.ntmps5
    go_wp2_with fail
    refine HW.out.mono ?_
    rintro e w1 ⟨rfl, hb⟩
    have HB := Lib.hid hb
    clear hb
    go_wp2
    go_ret
    exact ⟨rfl, HB.out⟩
  by_cases h3 : 600 < many
  · go_enter Tryd.func5, Tryd.ntmps5
    go_wp2_with fail
    refine HW.out.mono ?_
    rintro e w1 ⟨rfl, hb⟩
    have HB := Lib.hid hb
    clear hb
    go_wp2
    go_ret
    exact ⟨rfl, HB.out⟩
  obtain ⟨m, rfl⟩ : ∃ m : Nat, many = m := ⟨many.toNat, by omega⟩
  have hm : m ≤ 600 := by omega
  have hs100 : s.data.toList.length ≤ 100 := by rw [len_data]; omega
  have HS := Lib.hid hs
  clear hs
  go_enter Tryd.func5, Tryd.ntmps5
  go_wp2_with fail
  refine HW.out.mono ?_
  rintro e w1 ⟨rfl, hb1⟩
  have HB1 := Lib.hid hb1
  have HT1 := Lib.hid (HT.out.kept hb1)
  clear hb1
  go_wp2_with fail
  refine (code_New _).mono ?_
  rintro e w2 ⟨rfl, hd2, hb2⟩
  obtain ⟨B, hB⟩ : ∃ B, w1.heap.size = B := ⟨_, rfl⟩
  have hh2 := (Home.of HT1.out).below hb2
  have HB2 := Lib.hid (HB1.out.trans (hb2.mono HB1.out.size))
  have HWB := Lib.hid (show w.heap.size ≤ B by rw [← hB]; exact HB1.out.size)
  rw [hB] at hd2 hh2 ⊢
  have HM2 := Lib.hid (mine_new hd2 good_new (Nat.le_refl B))
  have HH2 := Lib.hid hh2
  clear hd2 hb2 hh2 hB
  go_wp2_with fail
  refine (mine_openTo C HM2.out HH2.out (by decide) open_new).mono ?_
  rintro e w3 ⟨q, F3, rfl, hm3, hr3⟩
  have HR3 := Lib.hid hr3
  have HB3 := Lib.hid (HB2.out.trans ((hm3.down HM2.out.fb HH2.out.size).mono HWB.out))
  clear hm3 hr3 HM2 HB2 HH2
  go_upto_region 10 with fail
  go_loopw [32] (fun iv wr => ∃ (k : Nat) (F : Nat → Prop) (S : St), k ≤ m ∧ iv = .int .i64 k ∧ RM C B (128 + k) F wr q B S (same s.data.toList (min k 512)) 0 ∧ Inv S (same s.data.toList (min k 512)) 0 ∧ S.on = true ∧ S.lasts = -1 ∧ Below w.heap.size w wr) (fun iv _ => m - (intOf iv).toNat)
  case atStart => exact ⟨0, F3, newS, Nat.zero_le _, rfl, HR3.out, inv_new, rfl, rfl, HB3.out⟩
  case round =>
    obtain ⟨k, F, S, hk, rfl, hr, hi, hon, hla, hbel⟩ := hrel
    have HR := Lib.hid hr
    have HI := Lib.hid hi
    have HON := Lib.hid hon
    have HLA := Lib.hid hla
    have HBEL := Lib.hid hbel
    clear hr hi hon hla hbel
    by_cases hlt : k < m
    · have hlti : (k : Int) < (m : Int) := by omega
      by_cases h5 : k < 512
      · have h5i : (k : Int) < 512 := by omega
        obtain ⟨T, e1, e2, e3, e4⟩ := append_easy HI.out HON.out HLA.out s.data.toList hs100 (fun t ht => by rw [same_mem ht]; exact hs100) (by rw [same_len]; omega)
        rw [same_snoc, show min k 512 + 1 = min (k + 1) 512 by omega] at e1 e4
        have HAP := Lib.hid (HR.out.append (by omega) s HS.out e1)
        have HE2 := Lib.hid e2
        have HE3 := Lib.hid e3
        have HE4 := Lib.hid e4
        clear e1 e2 e3 e4
        go_wp2_with fail
        refine HAP.out.mono ?_
        rintro e w5 ⟨rfl, F5, hm5, hr5⟩
        have HR5 := Lib.hid hr5
        have HB5 := Lib.hid (HBEL.out.trans ((hm5.down HR.out.fB HR.out.home.size).mono HWB.out))
        clear hm5 hr5
        go_wp2_with fail
        go_roundw
        case rel => exact ⟨k + 1, F5, T, by omega, by go_num, HR5.out, HE4.out, HE2.out, HE3.out, HB5.out⟩
        case measure => simp [intOf]; omega
      · have h5i : ¬ (k : Int) < 512 := by omega
        have e1 : appendR S (same s.data.toList (min k 512)) s.data.toList = (7, S, same s.data.toList (min k 512)) := append_full _ hs100 (by rw [same_len]; omega)
        have HAP := Lib.hid (HR.out.append (by omega) s HS.out e1)
        have hmin : min k 512 = min (k + 1) 512 := by omega
        rw [hmin] at HAP HI
        have HAP := HAP
        clear e1 hmin
        go_wp2_with fail
        refine HAP.out.mono ?_
        rintro e w5 ⟨rfl, F5, hm5, hr5⟩
        have HR5 := Lib.hid hr5
        have HB5 := Lib.hid (HBEL.out.trans ((hm5.down HR.out.fB HR.out.home.size).mono HWB.out))
        clear hm5 hr5
        go_wp2_with fail
        go_roundw
        case rel => exact ⟨k + 1, F5, S, by omega, by go_num, HR5.out, HI.out, HON.out, HLA.out, HB5.out⟩
        case measure => simp [intOf]; omega
    · obtain rfl : k = m := by omega
      have hst := HI.out.still HON.out
      obtain ⟨lv, hmd, hfo⟩ := HR.out.disk
      have HMD := Lib.hid hmd
      have HFO := Lib.hid (mine_openTo C hmd HR.out.home (by omega) hst)
      have HMN := Lib.hid (show (((min k 512 : Nat)) : Int) = min (k : Int) 512 by omega)
      clear hst hmd hfo
      go_wp2_with fail
      refine HFO.out.mono ?_
      rintro e w5 ⟨q5, F5, rfl, hm5, hr5⟩
      have HR5 := Lib.hid hr5
      have HB5 := Lib.hid (HBEL.out.trans ((hm5.down HMD.out.fb HR.out.home.size).mono HWB.out))
      clear hm5 hr5
      go_wp2_with fail
      refine (HR5.out.len (same_len _ _)).mono ?_
      rintro e w6 ⟨rfl, hb6⟩
      have HB6 := Lib.hid (HB5.out.trans (hb6.mono HB5.out.size))
      clear hb6
      by_cases h5 : (512 : Int) < (k : Int)
      · have h6 : min k 512 = 512 := by omega
        rw [h6]
        go_wp2_with fail
        go_ret
        exact ⟨rfl, HB6.out⟩
      · have h6 : min k 512 = k := by omega
        rw [h6]
        go_wp2_with fail
        go_ret
        exact ⟨rfl, HB6.out⟩
end Go.Proofs.YtepcfmigkhacgaaDoor.Rl
