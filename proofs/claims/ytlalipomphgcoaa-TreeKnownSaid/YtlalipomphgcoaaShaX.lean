/- The code's own: a block's words. -/
import Derived.Test.YtlalipomphgcoaaShaW
import Derived.Laws.CopyRow
namespace Go.Proofs.Ytlalipomphgcoaa.Sha
open Go.RowKit

/-- A text's bytes as numbers. -/
def natsOf (s : ByteArray) : List Nat := s.data.toList.map UInt8.toNat
theorem natsOf_length (s : ByteArray) : (natsOf s).length = s.size := by
  unfold natsOf
  rw [List.length_map, Array.length_toList]
  rfl
theorem natsOf_get (s : ByteArray) (i : Nat) (h : i < s.size) : (natsOf s).getD i 0 = s[i].toNat := by
  have h' : i < s.data.size := h
  simp only [natsOf, List.getD, List.getElem?_map, Array.getElem?_toList]
  rw [Array.getElem?_eq_getElem h']
  rfl
theorem natsOf_low (s : ByteArray) : ∀ x ∈ natsOf s, x < 256 := by
  intro x hx
  obtain ⟨b, _, rfl⟩ := List.mem_map.1 hx
  exact b.toNat_lt

theorem or_word (a b c d : Nat) (ha : a < 256) (hb : b < 256) (hc : c < 256) (hd : d < 256) :
    bits .or .u32 (bits .or .u32 (bits .or .u32 ((a : Int) * 16777216) ((b : Int) * 65536)) ((c : Int) * 256)) (d : Int) = ((a * 16777216 + b * 65536 + c * 256 + d : Nat) : Int) := by
  have h1 := u32_or_nat (a * 16777216) (b * 65536) (by omega) (by omega)
  rw [nat_join 24 (a * 16777216) (b * 65536) (by omega) (by omega)] at h1
  have h2 := u32_or_nat (a * 16777216 + b * 65536) (c * 256) (by omega) (by omega)
  rw [nat_join 16 (a * 16777216 + b * 65536) (c * 256) (by omega) (by omega)] at h2
  have h3 := u32_or_nat (a * 16777216 + b * 65536 + c * 256) d (by omega) (by omega)
  rw [nat_join 8 (a * 16777216 + b * 65536 + c * 256) d (by omega) (by omega)] at h3
  rw [← h3, ← h2, ← h1]
  simp only [Int.natCast_mul]
  rfl

theorem wordsL_low (l : List Nat) (h : ∀ x ∈ l, x < 256) : Low (wordsL l) := by
  induction l using wordsL.induct with
  | case1 a b c d r ih =>
    intro x hx
    rw [wordsL, List.mem_cons] at hx
    rcases hx with rfl | hx
    · have ha := h a (by simp)
      have hb := h b (by simp)
      have hc := h c (by simp)
      have hd := h d (by simp)
      omega
    · exact ih (fun y hy => h y (by simp [hy])) x hx
  | case2 l hl =>
    intro x hx
    rw [wordsL] at hx
    · simp at hx
    · exact hl
theorem growW_low (k : Nat) (X : List Nat) (h : Low X) : Low (growW k X) := by
  induction k with
  | zero => exact h
  | succ k ih =>
    rw [growW_succ]
    intro x hx
    rcases List.mem_append.1 hx with hx | hx
    · exact ih x hx
    · simp at hx
      subst hx
      exact Nat.mod_lt _ (by omega)

theorem info_a64 : (Try.prog.info? 48).map (·.size) = some 64 := by kernel_rfl
theorem sum_word (a b c d : Nat) : ((a : Int) + b + c + d) % 4294967296 = ((a + b + c + d) % 4294967296 : Nat) := by omega

set_option maxRecDepth 100000 in
set_option maxHeartbeats 1600000 in
theorem code_words (s : ByteArray) (hs : s.size = 64) (w : World) :
    Calls Try.prog 62 #[.string s] w fun e w' => e = .returned (.agg (vals32 (growW 48 (wordsL (natsOf s)))).toArray) ∧ Below w.heap.size w w' := by
  have hl := natsOf_length s
  have HLN := Lib.hid (wordsL_length 16 (natsOf s) (by omega))
  have HWG := Lib.hid (fun t (h : 4 * t + 4 ≤ (natsOf s).length) => wordsL_get (natsOf s) t h)
  have HNG := Lib.hid (natsOf_get s)
  have HL := Lib.hid hl
  clear hl
  go_enter Try.func62, Try.ntmps62
  go_wp2
  go_loopw [11] (fun i wr => ∃ k : Nat, ∃ W : World, k ≤ 16 ∧ i = .int .i64 k ∧ wr = W.alloc (.cells (row32 ((wordsL (natsOf s)).take k) 64) 48) ∧ w.heap.size = W.heap.size ∧ Below w.heap.size w W) (fun i _ => 16 - (intOf i).toNat)
  case atStart => exact ⟨0, w, by omega, rfl, rfl, rfl, Below.refl _ _⟩
  case round =>
    obtain ⟨k, W, hk, rfl, rfl, hW, hbel⟩ := hrel
    by_cases hlt : k < 16
    · obtain ⟨p, hp⟩ : ∃ p, s.extract (4 * k) (4 * k + 4) = p := ⟨_, rfl⟩
      have hps : p.size = 4 := by rw [← hp]; simp; omega
      have hpg : ∀ (i : Nat) (h : i < p.size), (natsOf s).getD (4 * k + i) 0 = p[i].toNat := by
        intro i h
        subst hp
        rw [HNG.out (4 * k + i) (by omega), ByteArray.getElem_extract]
      have h0 := hpg 0 (by omega)
      have h1 := hpg 1 (by omega)
      have h2 := hpg 2 (by omega)
      have h3 := hpg 3 (by omega)
      have b0 := p[0].toNat_lt
      have b1 := p[1].toNat_lt
      have b2 := p[2].toNat_lt
      have b3 := p[3].toNat_lt
      have ho := or_word p[0].toNat p[1].toNat p[2].toNat p[3].toNat b0 b1 b2 b3
      have hg := HWG.out k (by have := HL.out; omega)
      rw [Nat.add_zero] at h0
      rw [h0, h1, h2, h3] at hg
      obtain ⟨x, hx⟩ : ∃ x, p[0].toNat * 16777216 + p[1].toNat * 65536 + p[2].toNat * 256 + p[3].toNat = x := ⟨_, rfl⟩
      rw [hx] at hg ho
      have HLT := HLN.out
      have HS := Lib.hid (show (row32 ((wordsL (natsOf s)).take k) 64).setIfInBounds k (.int .u32 (x : Int)) = row32 ((wordsL (natsOf s)).take (k + 1)) 64 by
        rw [row32_set _ 64 k x (by rw [List.length_take]; omega) (by omega), List.take_add_one, hg]
        rfl)
      have hz := row32_size ((wordsL (natsOf s)).take k) 64 (by rw [List.length_take]; omega)
      obtain ⟨v1, hv1⟩ : ∃ v, (row32 ((wordsL (natsOf s)).take k) 64)[k]? = some v := ⟨(row32 ((wordsL (natsOf s)).take k) 64)[k]'(by omega), Array.getElem?_eq_getElem _⟩
      have hk0 : (0 : Int) ≤ (k : Int) := by omega
      have hk16 : (k : Int) < 64 := by omega
      clear hg hx hpg h0 h1 h2 h3 hz HLT
      obtain ⟨R, hR⟩ : ∃ R, row32 ((wordsL (natsOf s)).take k) 64 = R := ⟨_, rfl⟩
      rw [hR] at HS hv1
      rw [hR]
      have HP := Lib.hid hp
      clear hp hR
      go_wp2_with fail
      rw [HP.out]
      go_region
      go_wp2_with fail
      go_roundw
      case rel => exact ⟨k + 1, W.drew, by omega, by go_num, by rw [← HS.out]; rfl, hW, hbel.drew⟩
      case measure => simp [intOf]; omega
    · have hkk : k = 16 := by omega
      subst hkk
      have e16 : (wordsL (natsOf s)).take 16 = wordsL (natsOf s) := List.take_of_length_le (by rw [HLN.out]; omega)
      rw [e16]
      obtain ⟨X, hX⟩ : ∃ X, wordsL (natsOf s) = X := ⟨_, rfl⟩
      have HXL := Lib.hid (hX ▸ HLN.out)
      rw [hX]
      have HLX : Low X := hX ▸ wordsL_low (natsOf s) (natsOf_low s)
      have HXX := Lib.hid hX
      clear hX e16 HWG HNG HLN HL
      obtain ⟨W0, rfl⟩ : ∃ W0 : World, W0 = W := ⟨_, rfl⟩
      rw [show ((16 : Nat) : Int) = 16 from rfl]
      go_wp2_with fail
      go_loopw [42] (fun i wr => ∃ k : Nat, ∃ W : World, k ≤ 48 ∧ i = .int .i64 k ∧ wr = W.alloc (.cells (row32 (growW k X) 64) 48) ∧ w.heap.size = W.heap.size ∧ Below w.heap.size w W) (fun i _ => 48 - (intOf i).toNat)
      case atStart => exact ⟨0, W0, by omega, rfl, rfl, hW, hbel⟩
      case round =>
        clear hW hbel
        obtain ⟨k, W, hk, rfl, rfl, hW, hbel⟩ := hrel
        have HGL := Lib.hid (growW_length k X)
        have HLOW := Lib.hid (growW_low k X HLX)
        by_cases hlt : k < 48
        · have HNX := Lib.hid (growW_succ k X)
          obtain ⟨L, hL⟩ : ∃ L, growW k X = L := ⟨_, rfl⟩
          rw [hL] at HGL HLOW HNX
          rw [hL]
          clear hL
          have hlen : L.length = 16 + k := by rw [HGL.out, HXL.out]
          obtain ⟨x2, g2⟩ : ∃ x, L[16 + k - 2]? = some x := ⟨L[16 + k - 2]'(by omega), List.getElem?_eq_getElem _⟩
          obtain ⟨x15, g15⟩ : ∃ x, L[16 + k - 15]? = some x := ⟨L[16 + k - 15]'(by omega), List.getElem?_eq_getElem _⟩
          obtain ⟨x7, g7⟩ : ∃ x, L[16 + k - 7]? = some x := ⟨L[16 + k - 7]'(by omega), List.getElem?_eq_getElem _⟩
          obtain ⟨x16, g16⟩ : ∃ x, L[16 + k - 16]? = some x := ⟨L[16 + k - 16]'(by omega), List.getElem?_eq_getElem _⟩
          have l2 := HLOW.out x2 (List.mem_of_getElem? g2)
          have l15 := HLOW.out x15 (List.mem_of_getElem? g15)
          have r2 := row32_get L 64 _ x2 g2
          have r15 := row32_get L 64 _ x15 g15
          have r7 := row32_get L 64 _ x7 g7
          have r16 := row32_get L 64 _ x16 g16
          rw [show 16 + k - 16 = k by omega] at r16
          have hnx : nextW L (16 + k) = (s1 x2 + x7 + s0 x15 + x16) % 4294967296 := by
            simp only [nextW, List.getD, g2, g7, g15, g16, Option.getD_some]
          have HS := Lib.hid (row32_set L 64 (16 + k) (nextW L (16 + k)) hlen (by omega))
          have hz := row32_size L 64 (by omega)
          rw [hlen] at HNX
          obtain ⟨v1, hv1⟩ : ∃ v, (row32 L 64)[16 + k]? = some v := ⟨(row32 L 64)[16 + k]'(by omega), Array.getElem?_eq_getElem _⟩
          have C1 := Lib.hid (fun w => turned_lit x2 17 17 w rfl l2 (by omega))
          have C2 := Lib.hid (fun w => turned_lit x2 19 19 w rfl l2 (by omega))
          have C3 := Lib.hid (fun w => turned_lit x15 7 7 w rfl l15 (by omega))
          have C4 := Lib.hid (fun w => turned_lit x15 18 18 w rfl l15 (by omega))
          have hx1 := xor3 (turnN x2 17) (turnN x2 19) (x2 / 1024) (turnN_lt _ _ l2 (by omega)) (turnN_lt _ _ l2 (by omega)) (by omega)
          have hx2 := xor3 (turnN x15 7) (turnN x15 18) (x15 / 8) (turnN_lt _ _ l15 (by omega)) (turnN_lt _ _ l15 (by omega)) (by omega)
          have es1 : turnN x2 17 ^^^ turnN x2 19 ^^^ x2 / 1024 = s1 x2 := rfl
          have es0 : turnN x15 7 ^^^ turnN x15 18 ^^^ x15 / 8 = s0 x15 := rfl
          rw [es1] at hx1
          rw [es0] at hx2
          rw [Int.natCast_ediv] at hx1 hx2
          rw [show ((1024 : Nat) : Int) = 1024 from rfl] at hx1
          rw [show ((8 : Nat) : Int) = 8 from rfl] at hx2
          have hsum := sum_word (s1 x2) x7 (s0 x15) x16
          rw [← hnx] at hsum
          obtain ⟨T1, hT1⟩ : ∃ T, turnN x2 17 = T := ⟨_, rfl⟩
          obtain ⟨T2, hT2⟩ : ∃ T, turnN x2 19 = T := ⟨_, rfl⟩
          obtain ⟨T3, hT3⟩ : ∃ T, turnN x15 7 = T := ⟨_, rfl⟩
          obtain ⟨T4, hT4⟩ : ∃ T, turnN x15 18 = T := ⟨_, rfl⟩
          obtain ⟨S1, hS1⟩ : ∃ T, s1 x2 = T := ⟨_, rfl⟩
          obtain ⟨S0, hS0⟩ : ∃ T, s0 x15 = T := ⟨_, rfl⟩
          obtain ⟨N, hN⟩ : ∃ T, nextW L (16 + k) = T := ⟨_, rfl⟩
          rw [hT1] at C1 hx1
          rw [hT2] at C2 hx1
          rw [hT3] at C3 hx2
          rw [hT4] at C4 hx2
          rw [hS1] at hx1 hsum
          rw [hS0] at hx2 hsum
          rw [hN] at hsum HNX HS
          have hk0 : (0 : Int) ≤ (k : Int) := by omega
          have hk48 : (k : Int) < 48 := by omega
          obtain ⟨R, hR⟩ : ∃ R, row32 L 64 = R := ⟨_, rfl⟩
          rw [hR] at HS hv1 r2 r15 r7 r16
          rw [hR]
          clear hT1 hT2 hT3 hT4 hS1 hS0 hN es1 es0 hnx g2 g15 g7 g16 hz hlen hR
          go_wp2_with fail
          go_region
          go_wp2_with (go_at_call 79; first | ((with_reducible refine (C1.out _).mono ?_); rintro e w' ⟨rfl, rfl⟩) | ((with_reducible refine (C2.out _).mono ?_); rintro e w' ⟨rfl, rfl⟩) | ((with_reducible refine (C3.out _).mono ?_); rintro e w' ⟨rfl, rfl⟩) | ((with_reducible refine (C4.out _).mono ?_); rintro e w' ⟨rfl, rfl⟩))
          go_region
          go_wp2_with fail
          rw [← hW]
          go_roundw
          case rel => exact ⟨k + 1, W.drew.drew.drew.drew.drew.drew, by omega, by go_num, by rw [HNX.out, ← HS.out]; rfl, hW, hbel.drew.drew.drew.drew.drew.drew⟩
          case measure => simp [intOf]; omega
        · have hkk : k = 48 := by omega
          subst hkk
          have hfl : row32 (growW 48 X) 64 = (vals32 (growW 48 X)).toArray := row32_full _ _ (by rw [HGL.out, HXL.out])
          have hsz : (vals32 (growW 48 X)).toArray.size = 64 := by simp [vals32, HGL.out, HXL.out]
          rw [hfl]
          obtain ⟨C, hC⟩ : ∃ C, (vals32 (growW 48 X)).toArray = C := ⟨_, rfl⟩
          have hone : C.all (·.oneCell') = true := by
            rw [← hC]
            simp [vals32, Value.oneCell']
          rw [hC] at hsz
          rw [hC]
          have HCC := Lib.hid hC
          clear hfl hC
          have hg : (W.alloc (.cells C 48)).heap[w.heap.size]? = some (.cells C 48 (0, 0)) := by
            rw [hW]
            exact heap_alloc_new W _
          have hself := setRow_self (W.alloc (.cells C 48)) w.heap.size C 48 (0, 0) hg
          have hinf : (Try.prog.info? 48).map (·.size) = some C.size := by
            rw [hsz]
            exact info_a64
          have HG := Lib.hid hg
          have HSELF := Lib.hid hself
          have HINF := Lib.hid hinf
          clear hg hself hinf
          go_wp2_with (first | (refine wpList_load_row rfl 48 (.tmp 2) rfl w.heap.size rfl 48 C (0, 0) _ HG.out Try.underlying48 rfl HINF.out ?_) | (refine wpList_store_row rfl 48 (.tmp 2) (.tmp 87) rfl w.heap.size C rfl rfl 48 C HG.out HINF.out rfl hone ?_; rw [HSELF.out]))
          refine bodyPost_ret (results_cell_row (p := 2) (ty := 48) Try.results62 _ _ w.heap.size 48 C (0, 0) _ rfl HG.out Try.underlying48 rfl HINF.out) rfl ⟨by rw [← HCC.out, HXX.out], hbel.alloc (by rw [hW]; exact Nat.le_refl _) _⟩

end Go.Proofs.Ytlalipomphgcoaa.Sha
