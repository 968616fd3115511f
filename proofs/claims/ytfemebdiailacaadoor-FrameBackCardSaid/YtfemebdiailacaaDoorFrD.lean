/- frame: the document's pow, Check, Four, value. -/
import Derived.Test.YtfemebdiailacaaDoorFrC
import Derived.IntWalk
namespace Go.Proofs.YtfemebdiailacaaDoor.Frame
open Go.RowKit Go.Proofs.YtfemebdiailacaaDoor.Gr

set_option maxHeartbeats 400000 in
theorem ref_pow (n : Nat) (hn : n ≤ 31) (w : World) :
    Calls Tryd.prog 30 #[.int .i64 n] w fun e w' => e = .returned (.int .u32 (2 ^ n : Nat)) ∧ Below w.heap.size w w' := by
  go_enter Tryd.func30, Tryd.ntmps30
  go_wp2
  go_loop [3, 4] (fun x i => ∃ k : Nat, k ≤ n ∧ i = .int .i64 k ∧ x = .int .u32 (2 ^ k : Nat)) (fun _ i => n - (intOf i).toNat)
  case atStart => exact ⟨0, by omega, rfl, rfl⟩
  case round =>
    obtain ⟨k, hk, rfl, rfl⟩ := hrel
    by_cases hlt : k < n
    · have hp : 2 ^ k ≤ 2 ^ 30 := Nat.pow_le_pow_right (by omega) (by omega)
      have HS := Lib.hid (show 2 ^ (k + 1) = 2 * 2 ^ k by rw [Nat.pow_succ, Nat.mul_comm])
      generalize 2 ^ k = p at *
      go_wp2
      go_round
      case rel => exact ⟨k + 1, by omega, by go_num, by rw [HS.out]; go_num⟩
      case measure => simp [intOf]; omega
    · obtain rfl : k = n := by omega
      go_wp2
      go_ret
      exact ⟨rfl, Below.refl _ _⟩

theorem poly_lt : polyN < 4294967296 := by decide
def crcT (s : ByteArray) (i : Nat) : Nat := crcN 4294967295 (s.data.toList.take i)
theorem crcT_lt (s : ByteArray) (i : Nat) : crcT s i < 4294967296 := crcN_lt _ (by decide)
theorem crcT_succ (s : ByteArray) (i : Nat) (h : i < s.size) : crcT s (i + 1) = byteN (crcT s i) s[i].toNat := by
  unfold crcT
  rw [take_snoc s i h, crcN_append]
  rfl

set_option maxRecDepth 100000 in
set_option maxHeartbeats 1600000 in
theorem ref_Check (s : ByteArray) (w : World) (hs : s.size ≤ maxLen) :
    Calls Tryd.prog 17 #[.string s] w fun e w' => e = .returned (.int .u32 (checkN s.data.toList : Nat)) ∧ Below w.heap.size w w' := by
  unfold maxLen at hs
  go_enter Tryd.func17, Tryd.ntmps17
  go_wp2
  go_loopw [3, 4] (fun r i wr => ∃ k : Nat, k ≤ s.size ∧ i = .int .i64 k ∧ r = .int .u32 (crcT s k : Nat) ∧ Below w.heap.size w wr) (fun _ i _ => s.size - (intOf i).toNat)
  case atStart => exact ⟨0, by omega, rfl, rfl, Below.refl _ _⟩
  case round =>
    obtain ⟨k, hk, rfl, rfl, hbel⟩ := hrel
    have HBEL := Lib.hid hbel
    clear hbel
    by_cases hlt : k < s.size
    · have HS := Lib.hid (crcT_succ s k hlt)
      have hR := crcT_lt s k
      generalize crcT s k = R at *
      have hc := s[k].toNat_lt
      have HR0 := Lib.hid (regN_zero R s[k].toNat)
      have HR8 := Lib.hid (regN_eight R s[k].toNat hc)
      rw [← HR0.out]
      obtain ⟨c, hcc⟩ : ∃ c, c = s[k].toNat := ⟨_, rfl⟩
      rw [← hcc] at hc HS HR0 HR8
      rw [← hcc]
      go_wp2
      go_loopw [3, 5] (fun r i wr => ∃ b : Nat, b ≤ 8 ∧ i = .int .i64 b ∧ r = .int .u32 (regN R c b : Nat) ∧ Below w.heap.size w wr) (fun _ i _ => 8 - (intOf i).toNat)
      case atStart => exact ⟨0, by omega, rfl, rfl, HBEL.out⟩
      case round =>
        obtain ⟨b, hb, rfl, rfl, hbel2⟩ := hrel
        have HBEL2 := Lib.hid hbel2
        clear hbel2
        by_cases hb8 : b < 8
        · have HSB := Lib.hid (regN_succ R c b)
          have hG := regN_lt R c b hR hc
          generalize regN R c b = G at *
          have HPW := Lib.hid (fun W => ref_pow b (by omega) W)
          have hp1 : 1 ≤ 2 ^ b := Nat.pow_pos (by omega)
          have hp2 : 2 ^ b ≤ 2 ^ 8 := Nat.pow_le_pow_right (by omega) (by omega)
          generalize 2 ^ b = p at *
          have hw1 : IntKind.u32.wrap ((s[k].toNat : Nat) : Int) = (s[k].toNat : Int) := IntWalk.u32_in _ ⟨by omega, by omega⟩
          have hp0 : ¬ (p : Int) = 0 := by omega
          have hp0' : ¬ p = 0 := by omega
          have hq256 : c / p < 256 := Nat.lt_of_le_of_lt (Nat.div_le_self _ _) hc
          have hqe : (s[k].toNat : Int) / (p : Int) = ((c / p : Nat) : Int) := by rw [← hcc]; rfl
          generalize c / p = q at *
          have hw2 : IntKind.u32.wrap ((s[k].toNat : Int) / (p : Int)) = (q : Int) := by
            rw [hqe]
            exact IntWalk.u32_in _ ⟨by omega, by omega⟩
          clear hqe
          obtain ⟨m, hm⟩ : ∃ m, q % 2 = m := ⟨_, rfl⟩
          obtain ⟨o, ho⟩ : ∃ o, G % 2 = o := ⟨_, rfl⟩
          have hmi : (q : Int).tmod 2 = (m : Int) := by rw [← hm]; rfl
          have hoi : (G : Int) % 2 = (o : Int) := by rw [← ho]; rfl
          rw [hm, ho] at HSB
          clear hm ho
          by_cases hmo : m = o
          · subst hmo
            have HZ := Lib.hid (show regN R c (b + 1) = G / 2 by rw [HSB.out, if_pos rfl, Nat.xor_zero])
            go_wp2_with fail
            refine wp_region_quiet_below (by kernel_rfl) (by kernel_rfl) ?_
            repeat (quiet_step (with_reducible exact Calls.regrown_of (HPW.out _)))
            refine wpQuiet_nil ?_
            intro _ hw'
            obtain ⟨⟨dq, osq⟩, hw''⟩ := hw'
            subst hw''
            have hbq := below_regrown wr dq osq
            have HB3 := Lib.hid (HBEL2.out.trans (hbq.mono HBEL2.out.size))
            clear hbq
            dsimp only
            generalize Sort.grow (redrawn wr dq) osq = w3 at HB3 ⊢
            clear hw1 hw2 hmi
            go_wp2
            go_roundw
            case rel => exact ⟨b + 1, by omega, by go_num, by rw [HZ.out]; go_num, HB3.out⟩
            case measure => simp [intOf]; omega
          · have hx := u32_xor_nat (G / 2) polyN (by omega) poly_lt
            have hxi : bits .xor .u32 ((G : Int) / 2) 2197175160 = ((G / 2 ^^^ polyN : Nat) : Int) := hx
            have HZ := Lib.hid (show regN R c (b + 1) = G / 2 ^^^ polyN by rw [HSB.out, if_neg hmo])
            clear hx
            generalize G / 2 ^^^ polyN = z at *
            go_wp2_with fail
            refine wp_region_quiet_below (by kernel_rfl) (by kernel_rfl) ?_
            repeat (quiet_step (with_reducible exact Calls.regrown_of (HPW.out _)))
            refine wpQuiet_nil ?_
            intro _ hw'
            obtain ⟨⟨dq, osq⟩, hw''⟩ := hw'
            subst hw''
            have hbq := below_regrown wr dq osq
            have HB3 := Lib.hid (HBEL2.out.trans (hbq.mono HBEL2.out.size))
            clear hbq
            dsimp only
            generalize Sort.grow (redrawn wr dq) osq = w3 at HB3 ⊢
            clear hw1 hw2 hmi
            go_wp2
            go_roundw
            case rel => exact ⟨b + 1, by omega, by go_num, by rw [HZ.out], HB3.out⟩
            case measure => simp [intOf]; omega
        · obtain rfl : b = 8 := by omega
          have HBEL3 := HBEL2
          go_wp2
          go_roundw
          case rel => exact ⟨k + 1, by omega, by go_num, by rw [HS.out, ← HR8.out], HBEL3.out⟩
          case measure => simp [intOf]; omega
    · obtain rfl : k = s.size := by omega
      have e : crcT s s.size = crcN 4294967295 s.data.toList := by
        unfold crcT
        rw [List.take_of_length_le (by rw [Array.length_toList]; exact Nat.le_refl _)]
      have hx := u32_xor_nat (crcN 4294967295 s.data.toList) 4294967295 (crcN_lt _ (by decide)) (by decide)
      have hxi : bits .xor .u32 (crcN 4294967295 s.data.toList : Int) 4294967295 = ((checkN s.data.toList : Nat) : Int) := hx
      clear hx
      rw [e]
      clear e
      generalize crcN 4294967295 s.data.toList = y at *
      go_wp2
      go_ret
      exact ⟨rfl, HBEL.out⟩

set_option maxHeartbeats 400000 in
theorem ref_Four (n : Nat) (w : World) (h : n < 4294967296) :
    Calls Tryd.prog 29 #[.int .u32 n] w fun e w' => e = .returned (.string (bs (fourL n))) ∧ Below w.heap.size w w' := by
  have hk : ∀ (a b c d : Int), (convert 40 9 (.slice (some ⟨w.heap.size, 0, none⟩) 4 4)).run Tryd.prog (w.alloc (.cells #[.int .u8 a, .int .u8 b, .int .u8 c, .int .u8 d] 5)) = .ok (.string (strOfNums [a, b, c, d])) (w.alloc (.cells #[.int .u8 a, .int .u8 b, .int .u8 c, .int .u8 d] 5)) :=
    fun a b c d => conv_new w [a, b, c, d] _ 4 4 rfl
  go_enter Tryd.func29, Tryd.ntmps29
  go_wp2
  go_ret
  refine ⟨ret_str (str_eq ?_), (Below.refl _ _).alloc (Nat.le_refl _) _⟩
  simp only [List.map_cons, List.map_nil, fourL]
  have e : ∀ x : Nat, UInt8.ofNat ((x : Int) % 256).toNat = UInt8.ofNat x := fun x => u8_mod x
  have c : ∀ {a b : UInt8} {l k : List UInt8}, a = b → l = k → a :: l = b :: k := fun h g => by rw [h, g]
  exact c rfl (c (e (n / 65536)) (c (e (n / 256)) (c (e n) rfl)))

theorem val_four_bytes (a b c d : UInt8) : ((a.toNat * 16777216 + b.toNat * 65536 + c.toNat * 256 + d.toNat : Nat)) = valL [a, b, c, d] := by
  simp only [valL, List.foldl_cons, List.foldl_nil]
  omega
theorem valK_four (s : ByteArray) (h : 4 ≤ s.size) : valK s 0 4 = s[0].toNat * 16777216 + s[1].toNat * 65536 + s[2].toNat * 256 + s[3].toNat := by
  have h0 := valK_succ s 0 0 (by omega)
  have h1 := valK_succ s 0 1 (by omega)
  have h2 := valK_succ s 0 2 (by omega)
  have h3 := valK_succ s 0 3 (by omega)
  have hz : valK s 0 0 = 0 := rfl
  simp only [Nat.zero_add] at h0 h1 h2 h3
  rw [h3, h2, h1, h0, hz]
  omega
set_option maxHeartbeats 400000 in
theorem ref_value (s : ByteArray) (w : World) (h : 4 ≤ s.size) (hs : s.size ≤ maxLen) :
    Calls Tryd.prog 31 #[.string s] w fun e w' => e = .returned (.int .u32 (valK s 0 4 : Nat)) ∧ Below w.heap.size w w' := by
  unfold maxLen at hs
  have HV := Lib.hid (valK_four s h)
  have b0 := s[0].toNat_lt
  have b1 := s[1].toNat_lt
  have b2 := s[2].toNat_lt
  have b3 := s[3].toNat_lt
  generalize hx0 : s[0].toNat = x0 at *
  generalize hx1 : s[1].toNat = x1 at *
  generalize hx2 : s[2].toNat = x2 at *
  generalize hx3 : s[3].toNat = x3 at *
  have w0 : IntKind.u32.wrap (x0 : Int) = (x0 : Int) := IntWalk.u32_in _ ⟨by omega, by omega⟩
  have w1 : IntKind.u32.wrap (x1 : Int) = (x1 : Int) := IntWalk.u32_in _ ⟨by omega, by omega⟩
  have w2 : IntKind.u32.wrap (x2 : Int) = (x2 : Int) := IntWalk.u32_in _ ⟨by omega, by omega⟩
  have w3 : IntKind.u32.wrap (x3 : Int) = (x3 : Int) := IntWalk.u32_in _ ⟨by omega, by omega⟩
  have m0 : IntKind.u32.wrap ((x0 : Int) * 16777216) = (x0 : Int) * 16777216 := IntWalk.u32_in _ ⟨by omega, by omega⟩
  have m1 : IntKind.u32.wrap ((x1 : Int) * 65536) = (x1 : Int) * 65536 := IntWalk.u32_in _ ⟨by omega, by omega⟩
  have m2 : IntKind.u32.wrap ((x2 : Int) * 256) = (x2 : Int) * 256 := IntWalk.u32_in _ ⟨by omega, by omega⟩
  have a1 : IntKind.u32.wrap ((x0 : Int) * 16777216 + (x1 : Int) * 65536) = (x0 : Int) * 16777216 + (x1 : Int) * 65536 := IntWalk.u32_in _ ⟨by omega, by omega⟩
  have a2 : IntKind.u32.wrap ((x0 : Int) * 16777216 + (x1 : Int) * 65536 + (x2 : Int) * 256) = (x0 : Int) * 16777216 + (x1 : Int) * 65536 + (x2 : Int) * 256 := IntWalk.u32_in _ ⟨by omega, by omega⟩
  have a3 : IntKind.u32.wrap ((x0 : Int) * 16777216 + (x1 : Int) * 65536 + (x2 : Int) * 256 + (x3 : Int)) = ((x0 * 16777216 + x1 * 65536 + x2 * 256 + x3 : Nat) : Int) := by
    rw [IntWalk.u32_in _ ⟨by omega, by omega⟩]
    omega
  have i0 : 0 < s.size := by omega
  have i1 : 1 < s.size := by omega
  have i2 : 2 < s.size := by omega
  have i3 : 3 < s.size := by omega
  have j1 : (1 : Int) < (s.size : Int) := by omega
  have j2 : (2 : Int) < (s.size : Int) := by omega
  have j3 : (3 : Int) < (s.size : Int) := by omega
  go_enter Tryd.func31, Tryd.ntmps31
  go_wp2_with fail
  refine wp_region_quiet_below (by kernel_rfl) (by kernel_rfl) ?_
  repeat (quiet_step (fail))
  refine wpQuiet_nil ?_
  intro _ hw'
  obtain ⟨⟨dq, osq⟩, hw''⟩ := hw'
  subst hw''
  have hbq := below_regrown w dq osq
  dsimp only
  generalize Sort.grow (redrawn w dq) osq = wz at hbq ⊢
  go_wp2
  go_ret
  exact ⟨ret_int (a := (x0 : Int) * 16777216 + (x1 : Int) * 65536 + (x2 : Int) * 256 + (x3 : Int)) (by rw [HV.out]; omega), hbq⟩
end Go.Proofs.YtfemebdiailacaaDoor.Frame
