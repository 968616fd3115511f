/- The tree: the code's top, Root. -/
import Derived.Test.YtlalipomphgcoaaTrD
namespace Go.Proofs.Ytlalipomphgcoaa.Tree
open Go.RowKit Go.Proofs.Ytlalipomphgcoaa.Sha

theorem below_but {B g : Nat} {a w w' : World} (h : Below B a w) (hb : But g w w') (hg : B ≤ g) (hB : B ≤ w.heap.size) : Below B a w' :=
  ⟨hb.os.trans h.os, hb.tape.trans h.tape, hb.output.trans h.output, Nat.le_trans h.size hb.size, fun k hk => (hb.block k (by omega) (by omega)).trans (h.block k hk)⟩

set_option maxRecDepth 100000 in
set_option maxHeartbeats 1600000 in
theorem code_top (v : Value) (L : List (List UInt8)) (w : World) (hv : Hashes w v L) (h32 : H32 L) (hn : L.length ≤ 1099511627776) :
    Calls Try.prog 44 #[v] w fun e w' => e = .returned (.agg (valsB (topA L)).toArray) ∧ Below w.heap.size w w' := by
  have HRT := Lib.hid (row32 (topA L) (topA_len L))
  have hvv : ∃ a cap, v = .slice a L.length cap := by
    rcases hv with ⟨a, cap, rfl, rfl⟩ | ⟨g, o, cap, rfl, _, _⟩
    · exact ⟨a, cap, rfl⟩
    · exact ⟨_, cap, rfl⟩
  obtain ⟨a, cap, rfl⟩ := hvv
  obtain ⟨n, hL⟩ : ∃ n, L.length = n := ⟨_, rfl⟩
  have HV := Lib.hid hv
  have HL := Lib.hid hL
  have H3 := Lib.hid h32
  rw [hL] at hn HV
  rw [hL]
  clear hv hL h32
  obtain ⟨D, hD⟩ : ∃ D, (valsB (topA L)).toArray = D := ⟨_, rfl⟩
  rw [hD] at HRT
  have HDD := Lib.hid hD
  clear hD
  have HOF := Lib.hid (fun w => code_ofT noneT (.slice none 0 0) [] w (Or.inl ⟨none, 0, rfl, rfl⟩) (by decide) (by simp) (by simp))
  have HLV := Lib.hid (fun (W : World) (hb : Below w.heap.size w W) => code_leaves (.slice a n cap) L W (HV.out.kept hb) H3.out (by rw [HL.out]; exact hn))
  go_enter Try.func44, Try.ntmps44
  go_upto_region 1 with (fail)
  rw [zero32]
  obtain ⟨Z, hZ⟩ : ∃ Z, (List.replicate 32 (Value.int .u8 0)).toArray = Z := ⟨_, rfl⟩
  have HZS := Lib.hid (show Z.size = 32 by rw [← hZ]; rfl)
  rw [hZ]
  clear hZ
  have hba : Below w.heap.size w (w.alloc (.cells Z 23)) := (Below.refl _ _).alloc (Nat.le_refl _) _
  have HG := Lib.hid (heap_alloc_new w (.cells Z 23))
  have hlt : w.heap.size < (w.alloc (.cells Z 23)).heap.size := by simp
  have HBA := Lib.hid hba
  have HZD := Lib.hid (show Z.size = D.size by rw [HZS.out, HRT.out.size])
  clear hba
  generalize w.alloc (.cells Z 23) = W at HG HBA hlt ⊢
  by_cases h0 : n = 0
  · subst h0
    have hLe : L = [] := List.eq_nil_of_length_eq_zero HL.out
    have HTO := Lib.hid (show (valsB (ofT noneT [])).toArray = D by rw [← HDD.out, hLe]; rfl)
    rw [HTO.out] at HOF
    clear hLe
    go_wp2_with fail
    refine (HOF.out _).mono ?_
    rintro e w2 ⟨rfl, hb2⟩
    have HZ2 := Lib.hid ((hb2.block _ hlt).trans HG.out)
    have HB2 := Lib.hid (HBA.out.trans (hb2.mono (Nat.le_of_lt hlt)))
    clear hb2
    go_wp2_with (refine wpList_store_row rfl 23 (.tmp 2) (.tmp 7) rfl w.heap.size D rfl rfl 23 Z HZ2.out HRT.out.info HZD.out HRT.out.one ?_)
    refine bodyPost_ret (results_cell_row (p := 2) (ty := 23) Try.results44 _ _ w.heap.size 23 D (0, 0) _ rfl (setRow_heap _ _ _ _ _ _ HZ2.out) Try.underlying23 rfl HRT.out.info) rfl ⟨by rw [HDD.out], below_setRow HB2.out (Nat.le_refl _) _⟩
  · have hn0 : ((n : Int) == 0) = false := by simp; omega
    have hn1 : 0 < n := by omega
    clear h0
    go_wp2_with fail
    refine (HLV.out _ HBA.out).mono ?_
    rintro e w2 ⟨g, rfl, hg, hrow, hb2⟩
    rw [HL.out] at hrow
    rw [HL.out]
    have HROW := Lib.hid hrow
    have HB2 := Lib.hid hb2
    clear hrow hb2
    go_wp2_with fail
    go_loopw [3] (fun v wr => ∃ (M : List (List UInt8)) (m : Nat), v = .slice (some ⟨g, 0, none⟩) m m ∧ M.length = m ∧ RowOf wr g n M ∧ m ≤ n ∧ 0 < m ∧ lastA M = lastA (L.map leafF) ∧ Below W.heap.size W wr) (fun v _ => sliceLen v)
    case atStart => exact ⟨L.map leafF, n, rfl, by rw [List.length_map, HL.out], HROW.out, Nat.le_refl _, hn1, rfl, HB2.out⟩
    case round =>
      clear HROW HB2
      obtain ⟨M, m, rfl, hm, hrow, hmn, hm0, hlast, hbel⟩ := hrel
      have HM := Lib.hid hm
      have HROW := Lib.hid hrow
      have HLAST := Lib.hid hlast
      have HBEL := Lib.hid hbel
      clear hm hrow hlast hbel
      by_cases h1 : 1 < m
      · have HUP := Lib.hid (code_up g n m m M wr HROW.out HM.out hmn (Nat.le_refl _) (by omega) (by omega) (by omega))
        go_wp2_with fail
        refine HUP.out.mono ?_
        rintro e w3 ⟨rfl, hrow3, hbut3⟩
        obtain ⟨q, hq⟩ : ∃ q, m / 2 + m % 2 = q := ⟨_, rfl⟩
        rw [hq]
        have HQ := Lib.hid hq
        have HR3 := Lib.hid hrow3
        have HB3 := Lib.hid (below_but HBEL.out hbut3 hg HBEL.out.size)
        clear hq hrow3 hbut3
        go_wp2_with fail
        go_roundw
        case rel =>
          have hq := HQ.out
          exact ⟨upF M, q, rfl, by rw [upF_len, HM.out, hq], HR3.out, by omega, by omega, by rw [← lastA_step M (by rw [HM.out]; exact h1)]; exact HLAST.out, HB3.out⟩
        case measure =>
          have hq := HQ.out
          simp [sliceLen]
          omega
      · obtain rfl : m = 1 := by omega
        obtain ⟨x, rfl⟩ : ∃ x, M = [x] := List.length_eq_one_iff.1 HM.out
        have hxl : x.length = 32 := HROW.out.len x (by simp)
        have HRG := Lib.hid (show wr.rangeAt g 0 (valsB x) from HROW.out.at_ 0 x rfl)
        have HXT := Lib.hid (show (valsB x).toArray = D by
          have h2 := HLAST.out
          rw [lastA_one [x] (by simp)] at h2
          rw [← HDD.out]
          unfold topA
          rw [if_neg (fun h => by have := HL.out; rw [h] at this; simp at this; omega), ← h2]
          rfl)
        have HIX := Lib.hid (info_len x hxl)
        have HZ2 := Lib.hid ((HBEL.out.block _ hlt).trans HG.out)
        have HB2 := Lib.hid (HBA.out.trans (HBEL.out.mono (Nat.le_of_lt hlt)))
        clear hxl
        go_wp2_with (first | (refine wpList_load_mid rfl 23 (.tmp 16) rfl g 0 rfl (valsB x) _ HRG.out Try.underlying23 rfl HIX.out ?_; rw [HXT.out]) | (refine wpList_store_row rfl 23 (.tmp 2) (.tmp 17) rfl w.heap.size D rfl rfl 23 Z HZ2.out HRT.out.info HZD.out HRT.out.one ?_))
        refine bodyPost_ret (results_cell_row (p := 2) (ty := 23) Try.results44 _ _ w.heap.size 23 D (0, 0) _ rfl (setRow_heap _ _ _ _ _ _ HZ2.out) Try.underlying23 rfl HRT.out.info) rfl ⟨by rw [HDD.out], below_setRow HB2.out (Nat.le_refl _) _⟩

theorem rootA_len (L : List (List UInt8)) : (rootA L).length = 32 := rfl

set_option maxRecDepth 100000 in
set_option maxHeartbeats 1600000 in
theorem code_Root (v : Value) (L : List (List UInt8)) (w : World) (hv : Hashes w v L) (h32 : H32 L) (hn : L.length ≤ 1099511627776) :
    Calls Try.prog 17 #[v] w fun e w' => e = .returned (.agg (valsB (rootA L)).toArray) ∧ Below w.heap.size w w' := by
  have HRT := Lib.hid (row32 (rootA L) rfl)
  have hvv : ∃ a cap, v = .slice a L.length cap := by
    rcases hv with ⟨a, cap, rfl, rfl⟩ | ⟨g, o, cap, rfl, _, _⟩
    · exact ⟨a, cap, rfl⟩
    · exact ⟨_, cap, rfl⟩
  obtain ⟨a, cap, rfl⟩ := hvv
  have HV := Lib.hid hv
  have HTP := Lib.hid (fun (W : World) (hb : Below w.heap.size w W) => code_top (.slice a L.length cap) L W (hv.kept hb) h32 hn)
  have HRO := Lib.hid (fun w => code_rootOf L.length (topA L) (topA_len L) (by omega) w)
  have hRA : rootF L.length (topA L) = rootA L := rfl
  rw [hRA] at HRO
  clear hRA hv h32
  obtain ⟨n, hL⟩ : ∃ n, L.length = n := ⟨_, rfl⟩
  rw [hL] at hn HTP HRO
  rw [hL]
  clear hL
  obtain ⟨D, hD⟩ : ∃ D, (valsB (rootA L)).toArray = D := ⟨_, rfl⟩
  rw [hD] at HRT HRO
  have HDD := Lib.hid hD
  clear hD
  go_enter Try.func17, Try.ntmps17
  go_upto_region 1 with (fail)
  rw [zero32]
  obtain ⟨Z, hZ⟩ : ∃ Z, (List.replicate 32 (Value.int .u8 0)).toArray = Z := ⟨_, rfl⟩
  have HZS := Lib.hid (show Z.size = 32 by rw [← hZ]; rfl)
  rw [hZ]
  clear hZ
  have hba : Below w.heap.size w (w.alloc (.cells Z 23)) := (Below.refl _ _).alloc (Nat.le_refl _) _
  have HG := Lib.hid (heap_alloc_new w (.cells Z 23))
  have hlt : w.heap.size < (w.alloc (.cells Z 23)).heap.size := by simp
  have HBA := Lib.hid hba
  have HZD := Lib.hid (show Z.size = D.size by rw [HZS.out, HRT.out.size])
  clear hba
  generalize w.alloc (.cells Z 23) = W at HG HBA hlt ⊢
  go_wp2_with fail
  refine (HTP.out _ HBA.out).mono ?_
  rintro e w2 ⟨rfl, hb2⟩
  have HB2 := Lib.hid hb2
  clear hb2
  go_wp2_with fail
  refine (HRO.out _).mono ?_
  rintro e w3 ⟨rfl, hb3⟩
  have hb : Below W.heap.size W w3 := HB2.out.trans (hb3.mono HB2.out.size)
  have HZ2 := Lib.hid ((hb.block _ hlt).trans HG.out)
  have HB3 := Lib.hid (HBA.out.trans (hb.mono (Nat.le_of_lt hlt)))
  clear hb hb3
  go_wp2_with (refine wpList_store_row rfl 23 (.tmp 2) (.tmp 7) rfl w.heap.size D rfl rfl 23 Z HZ2.out HRT.out.info HZD.out HRT.out.one ?_)
  refine bodyPost_ret (results_cell_row (p := 2) (ty := 23) Try.results17 _ _ w.heap.size 23 D (0, 0) _ rfl (setRow_heap _ _ _ _ _ _ HZ2.out) Try.underlying23 rfl HRT.out.info) rfl ⟨by rw [HDD.out], below_setRow HB3.out (Nat.le_refl _) _⟩

end Go.Proofs.Ytlalipomphgcoaa.Tree
