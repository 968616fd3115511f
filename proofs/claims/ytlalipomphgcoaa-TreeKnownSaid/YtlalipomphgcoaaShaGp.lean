/- The code's own: goOn walked. -/
import Derived.Test.YtlalipomphgcoaaShaGo
import Derived.Deep.Cut
namespace Go.Proofs.Ytlalipomphgcoaa.Sha
open Go.RowKit

theorem rowE_one (u : EightW) : (rowE u).all (·.oneCell') = true := by simp [rowE, Value.oneCell']

set_option maxRecDepth 100000 in
set_option maxHeartbeats 1600000 in
theorem code_goOn (s : ByteArray) (n : Nat) (hs : s.size = 64 * n) (hmax : s.size ≤ 140737488355328) (gh gk : Nat) (v0 : EightW) (hv0 : LowE v0) (w : World) (hne : gk ≠ gh)
    (hgh : w.heap[gh]? = some (.cells (rowE v0) 46 (0, 0))) (hgk : w.heap[gk]? = some (.cells (vals32 kL).toArray 48 (0, 0))) :
    Calls Try.prog 32 #[.pointer (some ⟨gh, 0, none⟩), .pointer (some ⟨gk, 0, none⟩), .string s] w
      fun e w' => e = .returned (.tuple #[]) ∧ w'.heap[gh]? = some (.cells (rowE (blocks n v0 (natsOf s))) 46 (0, 0)) ∧ But gh w w' := by
  have HGH := Lib.hid hgh
  have HGK := Lib.hid hgk
  have HS := Lib.hid hs
  clear hgh hgk hs
  go_enter Try.func32, Try.ntmps32
  go_wp2
  go_loopw [6] (fun i wr => ∃ (k m : Nat) (v : EightW), k ≤ n ∧ m = 64 * k ∧ i = .int .i64 m ∧ v = blocks k v0 (natsOf s) ∧ LowE v ∧ wr.heap[gh]? = some (.cells (rowE v) 46 (0, 0)) ∧ But gh w wr) (fun i _ => s.size - (intOf i).toNat)
  case atStart => exact ⟨0, 0, v0, by omega, rfl, rfl, rfl, hv0, HGH.out, But.refl _ _⟩
  case round =>
    obtain ⟨k, m, v, hk, hm, rfl, hvb, hlow, hrow, hbut⟩ := hrel
    have HROW := Lib.hid hrow
    have HBUT := Lib.hid hbut
    have HVB := Lib.hid hvb
    have HM := Lib.hid hm
    clear hrow hbut hvb
    by_cases hlt : k < n
    · have hm64 : m + 64 ≤ s.size := by have := HS.out; omega
      have hmlt : m < s.size := by omega
      obtain ⟨p, hp⟩ : ∃ p, s.extract m (m + 64) = p := ⟨_, rfl⟩
      have hps : p.size = 64 := by rw [← hp]; simp; omega
      have HPN := Lib.hid (show natsOf p = ((natsOf s).drop (64 * k)).take 64 by
        rw [← hp, natsOf_extract, hm]
        congr 1
        omega)
      have CW := Lib.hid (fun w => code_words p hps w)
      have HP := Lib.hid hp
      have HWL := Lib.hid (show (growW 48 (wordsL (natsOf p))).length = 64 by rw [growW_length, wordsL_length 16 _ (by rw [natsOf_length]; omega)])
      obtain ⟨ws, hws⟩ : ∃ ws, growW 48 (wordsL (natsOf p)) = ws := ⟨_, rfl⟩
      rw [hws] at CW HWL
      have HWS := Lib.hid hws
      have hsz : (vals32 ws).toArray.size = 64 := by simp [vals32, HWL.out]
      have hone : (vals32 ws).toArray.all (·.oneCell') = true := by simp [vals32, Value.oneCell']
      have HINF := Lib.hid (show (Try.prog.info? 48).map (·.size) = some (vals32 ws).toArray.size by rw [hsz]; exact info_a64)
      obtain ⟨C, hC⟩ : ∃ C, (vals32 ws).toArray = C := ⟨_, rfl⟩
      rw [hC] at CW HINF hsz hone
      have HC := Lib.hid hC
      clear hp hws hC hm hk hps hlt
      go_wp2_with fail
      rw [HP.out]
      refine (CW.out _).mono ?_
      rintro e w1 ⟨rfl, hb1⟩
      have HB1 := Lib.hid hb1
      clear hb1
      go_upto_region 4 with (refine wpList_store_row rfl 48 (.tmp 7) (.tmp 21) rfl w1.heap.size C rfl rfl 48 _ (heap_alloc_new _ _) HINF.out hsz.symm hone ?_; rw [World.setRow_alloc_new])
      have hlt1 : gh < w1.heap.size := Nat.lt_of_lt_of_le (Array.getElem?_eq_some_iff.1 HROW.out).1 HB1.out.size
      have hgk0 : gk < w.heap.size := (Array.getElem?_eq_some_iff.1 HGK.out).1
      have hgkr : gk < wr.heap.size := Nat.lt_of_lt_of_le hgk0 HBUT.out.size
      have hltk : gk < w1.heap.size := Nat.lt_of_lt_of_le hgkr HB1.out.size
      have hgr : gh < wr.heap.size := (Array.getElem?_eq_some_iff.1 HROW.out).1
      have HLG := Lib.hid (((Below.heap_alloc w1 (.cells C 48) gh hlt1).trans (HB1.out.block gh hgr)).trans HROW.out)
      have HDK := Lib.hid (dig32_of kL (((Below.heap_alloc w1 (.cells C 48) gk hltk).trans (HB1.out.block gk hgkr)).trans ((HBUT.out.block gk hgk0 hne).trans HGK.out)))
      have HDW := Lib.hid (dig32_of ws (show (w1.alloc (.cells C 48)).heap[w1.heap.size]? = some (.cells (vals32 ws).toArray 48 (0, 0)) by
        rw [HC.out]
        exact heap_alloc_new _ _))
      clear hlt1 hgk0 hgkr hltk hgr
      go_wp2_with (first | (refine wpList_load_row rfl 46 (.tmp 23) rfl gh rfl 46 (rowE v) (0, 0) _ HLG.out Try.underlying46 rfl info_a8 ?_) | (go_at_call 63; fail))
      refine (code_mix' v hlow ws HWL.out gk w1.heap.size _ HDK.out HDW.out).mono ?_
      rintro e w2 ⟨rfl, hb2⟩
      have HB2 := Lib.hid hb2
      clear hb2
      obtain ⟨u, hu⟩ : ∃ u, steps v kL ws = u := ⟨_, rfl⟩
      rw [hu]
      have HU := Lib.hid hu
      clear hu
      go_upto_region 5 with (refine wpList_store_row rfl 46 (.tmp 8) (.tmp 26) rfl w2.heap.size (rowE u) rfl rfl 46 _ (heap_alloc_new _ _) info_a8 rfl (rowE_one u) ?_; rw [World.setRow_alloc_new])
      have hb8 : w2.heap.size ≠ gh := by
        intro h
        have h1 := (Array.getElem?_eq_some_iff.1 HROW.out).1
        have h2 := HB1.out.size
        have h3 := HB2.out.size
        simp at h3
        omega
      have HBW := Lib.hid ((((HBUT.out.trans (But.below HB1.out)).trans (But.below ((Below.refl _ _).alloc (Nat.le_refl _) (.cells C 48)))).trans (But.below HB2.out)).trans (But.below ((Below.refl _ _).alloc (Nat.le_refl _) (.cells (rowE u) 46))))
      have hl1 : gh < (w1.alloc (.cells C 48)).heap.size := (Array.getElem?_eq_some_iff.1 HLG.out).1
      have HWG := Lib.hid ((Below.heap_alloc w2 (.cells (rowE u) 46) gh (Nat.lt_of_lt_of_le hl1 HB2.out.size)).trans ((HB2.out.block gh hl1).trans HLG.out))
      have HWU := Lib.hid (heap_alloc_new w2 (.cells (rowE u) 46))
      obtain ⟨B8, hB8⟩ : ∃ B, w2.heap.size = B := ⟨_, rfl⟩
      obtain ⟨wo, hwo⟩ : ∃ wo, w2.alloc (.cells (rowE u) 46) = wo := ⟨_, rfl⟩
      rw [hwo] at HBW HWG HWU
      rw [hB8] at hb8 HWU
      rw [hwo, hB8]
      clear hl1 hwo hB8
      go_wp2_with fail
      go_loopw [27] (fun i wi => ∃ j : Nat, j ≤ 8 ∧ i = .int .i64 j ∧ wi.heap[gh]? = some (.cells (mixed v u j) 46 (0, 0)) ∧ wi.heap[B8]? = some (.cells (rowE u) 46 (0, 0)) ∧ But gh wo wi) (fun i _ => 8 - (intOf i).toNat)
      case atStart => exact ⟨0, by omega, rfl, by rw [mixed_zero]; exact HWG.out, HWU.out, But.refl _ _⟩
      case round =>
        obtain ⟨j, hj, rfl, hrg, hru, hbi⟩ := hrel
        by_cases hj8 : j < 8
        · obtain ⟨x, y, hx, hy, hset⟩ := mixed_at v u j hj8
          have HSET := Lib.hid hset
          have c1 := (cell_of_row _ gh j _ _ _ hrg).trans hx
          have f1 := frozen_of_row _ gh j _ _ hrg
          have c2 := (cell_of_row _ B8 j _ _ _ hru).trans hy
          have HRG := Lib.hid hrg
          have HRU := Lib.hid hru
          have HBI := Lib.hid hbi
          have hj0 : (0 : Int) ≤ (j : Int) := by omega
          have hji : (j : Int) < 8 := by omega
          clear hset hx hy hrg hru hbi
          go_wp2_with fail
          go_region
          go_wp2_with fail
          go_roundw
          case rel =>
            refine ⟨j + 1, by omega, by go_num, ?_, ?_, ?_⟩
            · rw [← HSET.out]
              exact heap_setCell_same _ gh j _ _ _ HRG.out
            · exact (heap_setCell_other _ _ B8 _ hb8).trans HRU.out
            · exact (HBI.out.setCell j _).drew
          case measure => simp [intOf]; omega
        · have hj8' : j = 8 := by omega
          subst hj8'
          rw [mixed_eight] at hrg
          have HRG := Lib.hid hrg
          have HBI := Lib.hid hbi
          clear hrg hru hbi
          go_wp2_with fail
          go_roundw
          case rel =>
            refine ⟨k + 1, m + 64, addE v u, by have := HM.out; have := HS.out; omega, by have := HM.out; omega, by go_num, ?_, addE_low v u, HRG.out, HBW.out.trans HBI.out⟩
            rw [blocks_succ, ← HVB.out, onBlock_add, ← HPN.out, HWS.out, HU.out]
          case measure => simp [intOf]; omega
    · have hkn : k = n := by omega
      subst hkn
      have hge : s.size ≤ m := by have := HM.out; have := HS.out; omega
      clear hlt
      go_wp2_with fail
      go_returns
      exact ⟨rfl, by rw [← HVB.out]; exact HROW.out, HBUT.out⟩

end Go.Proofs.Ytlalipomphgcoaa.Sha
