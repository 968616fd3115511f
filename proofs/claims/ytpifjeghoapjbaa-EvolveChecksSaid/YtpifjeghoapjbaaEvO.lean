/- evolve: the document's Check. -/
import Derived.Test.YtpifjeghoapjbaaQFl
import Derived.Test.YtpifjeghoapjbaaEvO0
namespace Go.Proofs.Ytpifjeghoapjbaa.Evolve
open Go.RowKit Go.Proofs.Ytpifjeghoapjbaa.Sha Go.Proofs.Ytpifjeghoapjbaa.Tree Go.Proofs.Ytpifjeghoapjbaa.Once

theorem text_at (sig : ByteArray) (o n : Nat) (hn : n < 32) (ho : o + 32 ≤ sig.size) : ((sig.data.toList.drop o).take 32)[n]? = some (sig[o + n]'(by omega)) := by
  rw [List.getElem?_take_of_lt hn, List.getElem?_drop, Array.getElem?_toList, Array.getElem?_eq_getElem (by rw [show sig.data.size = sig.size from rfl]; omega)]
  rfl
/-- Of an array the first k bytes, noughts behind them. -/
def rowP (s : List UInt8) (k : Nat) : Array Value := (valsB (s.take k ++ List.replicate (32 - k) 0)).toArray
theorem rowP_size (s : List UInt8) (k : Nat) (hs : s.length = 32) (hk : k ≤ 32) : (rowP s k).size = 32 := by
  simp [rowP, valsB, hs]; omega
theorem rowP_set (s : List UInt8) (k : Nat) (b : UInt8) (hs : s.length = 32) (hk : k < 32) (hb : s[k]? = some b) : (rowP s k).setIfInBounds k (.int .u8 (b.toNat : Int)) = rowP s (k + 1) := by
  unfold rowP
  rw [List.setIfInBounds_toArray]
  congr 1
  unfold valsB
  rw [List.map_append, List.map_append, List.set_append_right _ _ (by simp [hs]; omega), List.length_map, List.length_take, hs, Nat.min_eq_left (by omega), Nat.sub_self]
  rw [show 32 - k = (32 - (k + 1)) + 1 by omega, List.replicate_succ, List.map_cons, List.set_cons_zero, List.take_add_one, hb]
  simp
theorem rowP_all (s : List UInt8) (hs : s.length = 32) : rowP s 32 = (valsB s).toArray := by
  unfold rowP
  rw [List.take_of_length_le (by omega)]
  simp
theorem rowP_none (s : List UInt8) : rowP s 0 = (valsB zeroL).toArray := by simp [rowP, zeroL]

set_option maxRecDepth 100000 in
set_option maxHeartbeats 3200000 in
theorem ref_CheckE_no (pub m : List UInt8) (hp : pub.length = 32) (hm : m.length = 32) (d p : Int) (sig : ByteArray) (w : World) (hno : ¬ (wayP d p ∧ (sig.size : Int) = 1024 + 32 * d)) :
    Calls Try.prog 26 #[.agg (valsB pub).toArray, .int .i64 d, .int .i64 p, .agg (valsB m).toArray, .string sig] w fun e w' => e = .returned (.bool false) ∧ Below w.heap.size w w' := by
  have HRP := Lib.hid (row32 pub hp)
  have HRM := Lib.hid (row32 m hm)
  obtain ⟨CP, hCP⟩ : ∃ C, (valsB pub).toArray = C := ⟨_, rfl⟩
  obtain ⟨CM, hCM⟩ : ∃ C, (valsB m).toArray = C := ⟨_, rfl⟩
  rw [hCP] at HRP
  rw [hCM] at HRM
  rw [hCP, hCM]
  clear hCP hCM hp hm
  by_cases h0 : d < 0
  · have u1 : decide (d < 0) = true := by simp [h0]
    go_enter Try.func26, Try.ntmps26
    go_upto_region 1 with (fail)
    have HA0 := Lib.hid (heap_alloc2_old w (.cells CP 23) (.cells CM 23))
    have HA1 := Lib.hid (heap_alloc2_new w (.cells CP 23) (.cells CM 23))
    have HBW := Lib.hid (show Below w.heap.size w ((w.alloc (.cells CP 23)).alloc (.cells CM 23)) from ((Below.refl _ _).alloc (Nat.le_refl _) _).alloc (by simp) _)
    have hs0 : ((w.alloc (.cells CP 23)).alloc (.cells CM 23)).heap.size = w.heap.size + 2 := by simp
    generalize ((w.alloc (.cells CP 23)).alloc (.cells CM 23)) = W at HA0 HA1 HBW hs0 ⊢
    obtain ⟨g5, hg5⟩ : ∃ x, w.heap.size = x := ⟨_, rfl⟩
    obtain ⟨g8, hg8⟩ : ∃ x, g5 + 1 = x := ⟨_, rfl⟩
    rw [hg5] at HA0 HA1 HBW hs0
    rw [hg8] at HA1
    rw [hg5, hg8]
    have HGE := Lib.hid hg5
    have HLT := Lib.hid (show g5 < g8 ∧ g8 < W.heap.size by omega)
    clear hg5 hg8 hs0
    go_wp2_with fail
    go_ret
    exact ⟨rfl, HGE.out ▸ HBW.out⟩
  obtain ⟨d, rfl⟩ : ∃ dn : Nat, d = dn := ⟨d.toNat, by omega⟩
  have u1 : decide ((d : Int) < 0) = false := by simp
  by_cases h4 : 4 < d
  · have u2 : decide ((4 : Int) < (d : Int)) = true := by simp; omega
    go_enter Try.func26, Try.ntmps26
    go_upto_region 1 with (fail)
    have HA0 := Lib.hid (heap_alloc2_old w (.cells CP 23) (.cells CM 23))
    have HA1 := Lib.hid (heap_alloc2_new w (.cells CP 23) (.cells CM 23))
    have HBW := Lib.hid (show Below w.heap.size w ((w.alloc (.cells CP 23)).alloc (.cells CM 23)) from ((Below.refl _ _).alloc (Nat.le_refl _) _).alloc (by simp) _)
    have hs0 : ((w.alloc (.cells CP 23)).alloc (.cells CM 23)).heap.size = w.heap.size + 2 := by simp
    generalize ((w.alloc (.cells CP 23)).alloc (.cells CM 23)) = W at HA0 HA1 HBW hs0 ⊢
    obtain ⟨g5, hg5⟩ : ∃ x, w.heap.size = x := ⟨_, rfl⟩
    obtain ⟨g8, hg8⟩ : ∃ x, g5 + 1 = x := ⟨_, rfl⟩
    rw [hg5] at HA0 HA1 HBW hs0
    rw [hg8] at HA1
    rw [hg5, hg8]
    have HGE := Lib.hid hg5
    have HLT := Lib.hid (show g5 < g8 ∧ g8 < W.heap.size by omega)
    clear hg5 hg8 hs0
    go_wp2_with fail
    go_ret
    exact ⟨rfl, HGE.out ▸ HBW.out⟩
  have u2 : decide ((4 : Int) < (d : Int)) = false := by simp; omega
  by_cases hp : p < 0
  · have u3 : decide (p < 0) = true := by simp [hp]
    go_enter Try.func26, Try.ntmps26
    go_upto_region 1 with (fail)
    have HA0 := Lib.hid (heap_alloc2_old w (.cells CP 23) (.cells CM 23))
    have HA1 := Lib.hid (heap_alloc2_new w (.cells CP 23) (.cells CM 23))
    have HBW := Lib.hid (show Below w.heap.size w ((w.alloc (.cells CP 23)).alloc (.cells CM 23)) from ((Below.refl _ _).alloc (Nat.le_refl _) _).alloc (by simp) _)
    have hs0 : ((w.alloc (.cells CP 23)).alloc (.cells CM 23)).heap.size = w.heap.size + 2 := by simp
    generalize ((w.alloc (.cells CP 23)).alloc (.cells CM 23)) = W at HA0 HA1 HBW hs0 ⊢
    obtain ⟨g5, hg5⟩ : ∃ x, w.heap.size = x := ⟨_, rfl⟩
    obtain ⟨g8, hg8⟩ : ∃ x, g5 + 1 = x := ⟨_, rfl⟩
    rw [hg5] at HA0 HA1 HBW hs0
    rw [hg8] at HA1
    rw [hg5, hg8]
    have HGE := Lib.hid hg5
    have HLT := Lib.hid (show g5 < g8 ∧ g8 < W.heap.size by omega)
    clear hg5 hg8 hs0
    go_wp2_with fail
    go_ret
    exact ⟨rfl, HGE.out ▸ HBW.out⟩
  obtain ⟨p, rfl⟩ : ∃ pn : Nat, p = pn := ⟨p.toNat, by omega⟩
  have u3 : decide ((p : Int) < 0) = false := by simp
  obtain ⟨q, hq⟩ : ∃ q : Nat, 2 ^ d = q := ⟨_, rfl⟩
  have hq16 : q ≤ 16 := by rw [← hq]; exact Nat.le_trans (Nat.pow_le_pow_right (by omega) (show d ≤ 4 by omega)) (by decide)
  have hqi : IntKind.i64.wrap ((2 : Int) ^ d) = (q : Int) := by
    rw [show ((2 : Int) ^ d) = (q : Int) by rw [← hq]; push_cast; rfl]
    unfold IntKind.wrap
    simp [IntKind.bits, IntKind.signed]
    omega
  by_cases hpq : q ≤ p
  · have u4 : decide (q ≤ p) = true := by simp [hpq]
    have u5 : decide ((q : Int) ≤ (p : Int)) = true := by simp [hpq]
    clear hq
    go_enter Try.func26, Try.ntmps26
    go_upto_region 1 with (fail)
    have HA0 := Lib.hid (heap_alloc2_old w (.cells CP 23) (.cells CM 23))
    have HA1 := Lib.hid (heap_alloc2_new w (.cells CP 23) (.cells CM 23))
    have HBW := Lib.hid (show Below w.heap.size w ((w.alloc (.cells CP 23)).alloc (.cells CM 23)) from ((Below.refl _ _).alloc (Nat.le_refl _) _).alloc (by simp) _)
    have hs0 : ((w.alloc (.cells CP 23)).alloc (.cells CM 23)).heap.size = w.heap.size + 2 := by simp
    generalize ((w.alloc (.cells CP 23)).alloc (.cells CM 23)) = W at HA0 HA1 HBW hs0 ⊢
    obtain ⟨g5, hg5⟩ : ∃ x, w.heap.size = x := ⟨_, rfl⟩
    obtain ⟨g8, hg8⟩ : ∃ x, g5 + 1 = x := ⟨_, rfl⟩
    rw [hg5] at HA0 HA1 HBW hs0
    rw [hg8] at HA1
    rw [hg5, hg8]
    have HGE := Lib.hid hg5
    have HLT := Lib.hid (show g5 < g8 ∧ g8 < W.heap.size by omega)
    clear hg5 hg8 hs0
    go_wp2_with fail
    go_ret
    exact ⟨rfl, HGE.out ▸ HBW.out⟩
  have u4 : decide (q ≤ p) = false := by simp; omega
  have u5 : decide ((q : Int) ≤ (p : Int)) = false := by simp; omega
  have hne : ¬ (sig.size : Int) = 1024 + 32 * (d : Int) := fun h => hno ⟨⟨⟨by omega, by omega⟩, by omega, by
    have : (p : Int) < ((2 ^ d : Nat) : Int) := by omega
    rw [Int.toNat_natCast]; push_cast at this; exact this⟩, h⟩
  have u6 : ((sig.size : Int) != 1024 + 32 * (d : Int)) = true := by simp [hne]
  have u7 : ((sig.size : Int) == 1024 + 32 * (d : Int)) = false := by simp [hne]
  clear hq hno
  go_enter Try.func26, Try.ntmps26
  go_upto_region 1 with (fail)
  have HA0 := Lib.hid (heap_alloc2_old w (.cells CP 23) (.cells CM 23))
  have HA1 := Lib.hid (heap_alloc2_new w (.cells CP 23) (.cells CM 23))
  have HBW := Lib.hid (show Below w.heap.size w ((w.alloc (.cells CP 23)).alloc (.cells CM 23)) from ((Below.refl _ _).alloc (Nat.le_refl _) _).alloc (by simp) _)
  have hs0 : ((w.alloc (.cells CP 23)).alloc (.cells CM 23)).heap.size = w.heap.size + 2 := by simp
  generalize ((w.alloc (.cells CP 23)).alloc (.cells CM 23)) = W at HA0 HA1 HBW hs0 ⊢
  obtain ⟨g5, hg5⟩ : ∃ x, w.heap.size = x := ⟨_, rfl⟩
  obtain ⟨g8, hg8⟩ : ∃ x, g5 + 1 = x := ⟨_, rfl⟩
  rw [hg5] at HA0 HA1 HBW hs0
  rw [hg8] at HA1
  rw [hg5, hg8]
  have HGE := Lib.hid hg5
  have HLT := Lib.hid (show g5 < g8 ∧ g8 < W.heap.size by omega)
  clear hg5 hg8 hs0
  go_wp2_with fail
  go_ret
  exact ⟨rfl, HGE.out ▸ HBW.out⟩

set_option maxRecDepth 100000 in
set_option maxHeartbeats 6400000 in
theorem ref_CheckE (pub m : List UInt8) (hp : pub.length = 32) (hm : m.length = 32) (d p : Nat) (hd : d ≤ 4) (hp2 : p < 2 ^ d) (sig : ByteArray) (hz : sig.size = 1024 + 32 * d) (w : World) :
    Calls Try.prog 26 #[.agg (valsB pub).toArray, .int .i64 d, .int .i64 p, .agg (valsB m).toArray, .string sig] w fun e w' => e = .returned (.bool (checkE pub d p m sig)) ∧ Below w.heap.size w w' := by
  have hp16 : p < 16 := Nat.lt_of_lt_of_le hp2 (Nat.le_trans (Nat.pow_le_pow_right (by omega) hd) (by decide))
  have HT := Lib.hid (fun w => ref_TellsA m hm (sig.extract 0 1024) w)
  have htl := told_first m sig d hz
  rw [htl.1, htl.2] at HT
  obtain ⟨T, hT⟩ : ∃ T, tellK m (sig.extract 0 1024).data.toList = T := ⟨_, rfl⟩
  have hTl : T.length = 32 := by rw [← hT]; rfl
  rw [hT] at HT
  have hck : checkE pub d p m sig = (overE (digitsE d p) (sideL sig d) 0 d T == pub) := by rw [← hT]; rfl
  have HOV := Lib.hid (fun aw cw ad cs w h1 h2 => ref_Over T hTl aw d cw (digitsE d p) ad d cs (sideL sig d) 0 w h1 (digitsE_len d p) h2 (sideL_len sig d) (sideL_32 sig d hz) (Nat.le_refl _) (by omega) (by omega))
  have HDG := Lib.hid (fun w => ref_Digits d p (by omega) (by omega) w)
  have HWL := Lib.hid (digitsE_len d p)
  obtain ⟨O, hO⟩ : ∃ O, overE (digitsE d p) (sideL sig d) 0 d T = O := ⟨_, rfl⟩
  have hOl : O.length = 32 := by rw [← hO]; exact overE_len _ _ _ _ _ hTl
  rw [hO] at HOV hck
  obtain ⟨way, hway⟩ : ∃ x, digitsE d p = x := ⟨_, rfl⟩
  rw [hway] at HDG HOV HWL
  have HEQ := Lib.hid (fun w => eqIn_hash O pub hOl hp w)
  obtain ⟨SG, hSG⟩ : ∃ X, sig.extract 0 1024 = X := ⟨_, rfl⟩
  rw [hSG] at HT
  have HSG := Lib.hid hSG
  obtain ⟨b, hb⟩ : ∃ b, (O == pub) = b := ⟨_, rfl⟩
  rw [hb] at hck HEQ
  rw [hck]
  have HRO := Lib.hid (row32 O hOl)
  have HRT := Lib.hid (row32 T hTl)
  have HRP := Lib.hid (row32 pub hp)
  have HRM := Lib.hid (row32 m hm)
  obtain ⟨CP, hCP⟩ : ∃ C, (valsB pub).toArray = C := ⟨_, rfl⟩
  obtain ⟨CM, hCM⟩ : ∃ C, (valsB m).toArray = C := ⟨_, rfl⟩
  rw [hCP] at HRP
  rw [hCM] at HRM
  rw [hCP, hCM]
  obtain ⟨CO, hCO⟩ : ∃ C, (valsB O).toArray = C := ⟨_, rfl⟩
  obtain ⟨CT, hCT⟩ : ∃ C, (valsB T).toArray = C := ⟨_, rfl⟩
  rw [hCO] at HOV HRO
  rw [hCT] at HT HOV HRT
  rw [hCO, hCP] at HEQ
  rw [hCM] at HT
  have h1024 : (1024 : Int) ≤ (sig.size : Int) := by omega
  have hsz : (sig.size : Int) = 1024 + 32 * (d : Int) := by omega
  clear hCP hCM hp hm hT hO hSG hb hCO hCT htl hck hTl hOl hway
  have u1 : decide ((d : Int) < 0) = false := by simp
  have u2 : decide ((4 : Int) < (d : Int)) = false := by simp; omega
  have u3 : decide ((p : Int) < 0) = false := by simp
  obtain ⟨q, hq⟩ : ∃ q : Nat, 2 ^ d = q := ⟨_, rfl⟩
  have hq16 : q ≤ 16 := by rw [← hq]; exact Nat.le_trans (Nat.pow_le_pow_right (by omega) hd) (by decide)
  have hqi : IntKind.i64.wrap ((2 : Int) ^ d) = (q : Int) := by
    rw [show ((2 : Int) ^ d) = (q : Int) by rw [← hq]; push_cast; rfl]
    unfold IntKind.wrap
    simp [IntKind.bits, IntKind.signed]
    omega
  have u4 : decide (q ≤ p) = false := by simp; omega
  have u5 : decide ((q : Int) ≤ (p : Int)) = false := by simp; omega
  clear hq
  go_enter Try.func26, Try.ntmps26
  go_upto_region 1 with (fail)
  have HA0 := Lib.hid (heap_alloc2_old w (.cells CP 23) (.cells CM 23))
  have HA1 := Lib.hid (heap_alloc2_new w (.cells CP 23) (.cells CM 23))
  have HBW := Lib.hid (show Below w.heap.size w ((w.alloc (.cells CP 23)).alloc (.cells CM 23)) from ((Below.refl _ _).alloc (Nat.le_refl _) _).alloc (by simp) _)
  have hs0 : ((w.alloc (.cells CP 23)).alloc (.cells CM 23)).heap.size = w.heap.size + 2 := by simp
  generalize ((w.alloc (.cells CP 23)).alloc (.cells CM 23)) = W at HA0 HA1 HBW hs0 ⊢
  obtain ⟨g5, hg5⟩ : ∃ x, w.heap.size = x := ⟨_, rfl⟩
  obtain ⟨g8, hg8⟩ : ∃ x, g5 + 1 = x := ⟨_, rfl⟩
  rw [hg5] at HA0 HA1 HBW hs0
  rw [hg8] at HA1
  rw [hg5, hg8]
  have HGE := Lib.hid hg5
  have HLT := Lib.hid (show g5 < g8 ∧ g8 < W.heap.size by omega)
  clear hg5 hg8 hs0
  have HA8 := HA1
  have HL8 := Lib.hid HLT.out.2
  have HZT := Lib.hid (show (List.replicate 32 (Value.int .u8 0)).toArray.size = CT.size by rw [HRT.out.size]; rfl)
  go_upto_region 3 with (fail)
  clear u1 u2 u3 u4 u5 hqi
  refine QT.wp_region_facts_late 8 6 7 (by kernel_rfl) (fun w' => Below W.heap.size W w') (fun n v w' => (([.val (.agg CM), .val (.string sig), .val (.string SG), .val (.tuple #[.agg CT, .int .i64 0]), .val (.tuple #[.agg CT, .int .i64 0]), .val (.agg CT), .val (.int .i64 0), .fresh W.heap.size (List.replicate 32 (Value.int .u8 0)).toArray 23] : List Fact).getD n (.val undef) : Fact).holds v w') (fun a w' => Below W.heap.size W w' ∧ ∃ g, a.eval (.tmp 11) = .pointer (some ⟨g, 0, none⟩) ∧ W.heap.size ≤ g ∧ w'.heap[g]? = some (.cells CT 23 (0, 0))) (by kernel_rfl) (by kernel_rfl) (Below.refl _ _).drew (fun w1 w2 h1 hb => h1.trans (hb.mono h1.size)) (fun n v w1 w2 h hb => Fact.kept _ v w1 w2 h hb) (fun i v w w' hi hif h => (match i, hi, hif, h with | 0, _, _, h => h | 1, _, _, h => h | 2, _, _, h => h | 3, _, _, h => h | 4, _, _, h => h | 5, _, _, h => h | 6, _, _, h => h | 7, _, hif, _ => absurd rfl hif | n + 8, hi, _, _ => by omega)) (fun a w w' d' v hd' ⟨hb, g, ha, hl, hg⟩ hb' => by
    obtain rfl : 47 = d' := Option.some.inj hd'
    exact ⟨hb.trans (hb'.mono hb.size), g, by rw [QT.eval_put_other (by decide)]; exact ha, hl, (hb'.block g (Array.getElem?_eq_some_iff.1 hg).1).trans hg⟩) (fun n o hn ho a wz hI hag hdep => ?_) (fun o ho a wz hJ hag hdep => ?_) (fun o ho a wz hI hag hf => ?_) (fun a wz hJ hag hf => ?_)
  · have t4 : a.eval (.tmp 4) = .string sig := hag.old 4 _ (by kernel_rfl) rfl
    have t8 : a.eval (.tmp 8) = .pointer (some ⟨g8, 0, none⟩) := hag.old 8 _ (by kernel_rfl) rfl
    match n, ho with
    | 0, ho =>
      obtain rfl := (Option.some.inj ho).symm
      exact ⟨rfl, wp_load_row 23 (.tmp 8) rfl g8 t8 23 CM (0, 0) _ ((hI.block g8 HL8.out).trans HA8.out) Try.underlying23 rfl HRM.out.info ⟨_, rfl, rfl, Below.refl _ _⟩⟩
    | 1, ho =>
      obtain rfl := (Option.some.inj ho).symm
      exact ⟨rfl, QT.wp_value (BigFrame.run_move (.tmp 4) rfl wz) ⟨_, rfl, t4, Below.refl _ _⟩⟩
    | 2, ho =>
      obtain rfl := (Option.some.inj ho).symm
      have d43 : a.eval (.tmp 43) = .string sig := hdep _ (Array.mem_of_getElem? (i := 0) rfl) rfl _ _ rfl rfl
      exact ⟨rfl, QT.wp_value (v := .string SG) (by simp [go_sem, QT.nf d43, h1024, HSG.out]) ⟨_, rfl, rfl, Below.refl _ _⟩⟩
    | 3, ho =>
      obtain rfl := (Option.some.inj ho).symm
      have d42 : a.eval (.tmp 42) = .agg CM := hdep _ (Array.mem_of_getElem? (i := 0) rfl) rfl _ _ rfl rfl
      have d44 : a.eval (.tmp 44) = .string SG := hdep _ (Array.mem_of_getElem? (i := 1) rfl) rfl _ _ rfl rfl
      exact ⟨rfl, QT.wp_enter (f := 48) (args := #[.agg CM, .string SG]) (by simp [go_sem, QT.nf d42, QT.nf d44]) (HT.out wz) fun w' hb => ⟨_, rfl, rfl, hb⟩⟩
    | 4, ho =>
      obtain rfl := (Option.some.inj ho).symm
      have d45 : a.eval (.tmp 45) = .tuple #[.agg CT, .int .i64 0] := hdep _ (Array.mem_of_getElem? (i := 0) rfl) rfl _ _ rfl rfl
      exact ⟨rfl, QT.wp_value (BigFrame.run_move (.tmp 45) rfl wz) ⟨_, rfl, d45, Below.refl _ _⟩⟩
    | 5, ho =>
      obtain rfl := (Option.some.inj ho).symm
      have d41 : a.eval (.tmp 41) = .tuple #[.agg CT, .int .i64 0] := hdep _ (Array.mem_of_getElem? (i := 0) rfl) rfl _ _ rfl rfl
      exact ⟨rfl, QT.wp_value (v := .agg CT) (by simp [go_sem, QT.nf d41]) ⟨_, rfl, rfl, Below.refl _ _⟩⟩
    | 6, ho =>
      obtain rfl := (Option.some.inj ho).symm
      have d41 : a.eval (.tmp 41) = .tuple #[.agg CT, .int .i64 0] := hdep _ (Array.mem_of_getElem? (i := 0) rfl) rfl _ _ rfl rfl
      exact ⟨rfl, QT.wp_value (v := .int .i64 0) (by simp [go_sem, QT.nf d41]) ⟨_, rfl, rfl, Below.refl _ _⟩⟩
    | 7, ho =>
      obtain rfl := (Option.some.inj ho).symm
      exact ⟨rfl, wp_runTo (.pointer (some ⟨wz.heap.size, 0, none⟩)) (wz.alloc (.cells (List.replicate 32 (Value.int .u8 0)).toArray 23)) (by kernel_rfl) ⟨_, rfl, ⟨_, rfl, hI.size, heap_alloc_new _ _⟩, (Below.refl _ _).alloc (Nat.le_refl _) _⟩⟩
    | n + 8, ho => omega
  · obtain rfl := (Option.some.inj ho).symm
    have d41 : a.eval (.tmp 41) = .tuple #[.agg CT, .int .i64 0] := hdep _ (Array.mem_of_getElem? (i := 0) rfl) rfl _ _ rfl rfl (by decide)
    exact ⟨rfl, QT.wp_value (v := .int .i64 0) (by simp [go_sem, QT.nf d41]) ⟨_, rfl, rfl, Below.refl _ _⟩⟩
  · obtain rfl := (Option.some.inj ho).symm
    have f5 : a.eval (.tmp 46) = .agg CT := hf 5 _ _ (by omega) (by decide) rfl rfl
    have f7' : ((.fresh W.heap.size (List.replicate 32 (Value.int .u8 0)).toArray 23) : Fact).holds (a.eval (.tmp 11)) wz := hf 7 _ _ (by omega) (by decide) rfl rfl
    obtain ⟨q7, f7, y7⟩ := f7'
    exact ⟨rfl, wp_store_row 23 (.tmp 11) (.tmp 46) rfl q7 CT f7 f5 23 _ y7.2 HRT.out.info HZT.out HRT.out.one ⟨rfl, below_setRow hI y7.1 CT, q7, f7, y7.1, setRow_heap _ _ _ _ _ _ y7.2⟩⟩
  · have f0 : a.eval (.tmp 42) = .agg CM := hf 0 _ _ (by omega) (by decide) rfl rfl
    have f1 : a.eval (.tmp 43) = .string sig := hf 1 _ _ (by omega) (by decide) rfl rfl
    have f2 : a.eval (.tmp 44) = .string SG := hf 2 _ _ (by omega) (by decide) rfl rfl
    have f3 : a.eval (.tmp 45) = .tuple #[.agg CT, .int .i64 0] := hf 3 _ _ (by omega) (by decide) rfl rfl
    have f4 : a.eval (.tmp 41) = .tuple #[.agg CT, .int .i64 0] := hf 4 _ _ (by omega) (by decide) rfl rfl
    have f5 : a.eval (.tmp 46) = .agg CT := hf 5 _ _ (by omega) (by decide) rfl rfl
    have f6 : a.eval (.tmp 47) = .int .i64 0 := hf 6 _ _ (by omega) (by decide) rfl rfl
    obtain ⟨hI, q7, f7, yl7, yg7⟩ := hJ
    have ha := hag.puts [(42, .agg CM), (43, .string sig), (44, .string SG), (45, .tuple #[.agg CT, .int .i64 0]), (41, .tuple #[.agg CT, .int .i64 0]), (46, .agg CT), (47, .int .i64 0), (11, .pointer (some ⟨q7, 0, none⟩))] rfl (by simp) (by simp only [List.forall_mem_cons, List.not_mem_nil, false_implies, implies_true, and_true]; exact ⟨f0, f1, f2, f3, f4, f5, f6, f7⟩)
    subst ha
    clear hag hf f0 f1 f2 f3 f4 f5 f6 f7
    simp only [List.foldl_cons, List.foldl_nil, Act.put, List.drop_succ_cons, List.drop_zero, List.setIfInBounds_toArray, List.set_cons_succ, List.set_cons_zero]
    have HQ := Lib.hid yg7
    have HZ5 := Lib.hid ((hI.block g5 (by have := HLT.out; omega)).trans HA0.out)
    have HBZ := Lib.hid (HBW.out.trans (hI.mono (by have := HLT.out; omega)))
    have HLZ := Lib.hid (show g5 < q7 ∧ q7 < wz.heap.size by have := HLT.out; have := (Array.getElem?_eq_some_iff.1 yg7).1; omega)
    obtain ⟨B, hB⟩ : ∃ B, wz.heap.size = B := ⟨_, rfl⟩
    rw [hB] at HLZ
    have HB := Lib.hid hB
    clear yl7 yg7 hI hB
    go_wp2_with fail
    go_loopw [13, 14] (fun sv iv wr => ∃ i : Nat, i ≤ d ∧ iv = .int .i64 i ∧ OwnH B sv (sideL sig i) wr ∧ Below B wz wr) (fun _ iv _ => d - (intOf iv).toNat)
    case atStart => exact ⟨0, by omega, rfl, OwnH.nil _ _, Below.refl _ _⟩
    case round =>
      obtain ⟨i, hi, rfl, hown, hbr⟩ := hrel
      have HOWN := Lib.hid hown
      have HBR := Lib.hid hbr
      have HSZ := Lib.hid (show B ≤ wr.heap.size by have := hbr.size; have := HB.out; omega)
      clear hown hbr
      by_cases hlt : i < d
      · have HSU := Lib.hid (sideL_succ sig i)
        have hta := fun n hn => text_at sig (1024 + 32 * i) n hn (by omega)
        obtain ⟨s, hs⟩ : ∃ s, (sig.data.toList.drop (1024 + 32 * i)).take 32 = s := ⟨_, rfl⟩
        have hsl : s.length = 32 := by
          rw [← hs, List.length_take, List.length_drop, Array.length_toList, show sig.data.size = sig.size from rfl]
          omega
        rw [hs] at HSU hta
        have HTA := Lib.hid hta
        have HSLN := Lib.hid hsl
        have HBZ0 := Lib.hid (fun a : Act => (show Try.prog.built 23 ((#[] : Array (Nat × Operand)).map fun (i, x) => (i, a.eval x)).toList = some (valsB zeroL).toArray by kernel_rfl))
        rw [← rowP_none s] at HBZ0
        have HI0 := Lib.hid (show (Try.prog.info? 23).map (·.size) = some (rowP s 0).size by rw [rowP_none]; exact (row32 zeroL rfl).info)
        have HZ0 := Lib.hid (show (List.replicate 32 (Value.int .u8 0)).toArray.size = (rowP s 0).size by rw [rowP_none]; rfl)
        have HO0 := Lib.hid (show (rowP s 0).all (·.oneCell') = true by rw [rowP_none]; exact (row32 zeroL rfl).one)
        have hii : (i : Int) < (d : Int) := by omega
        obtain ⟨R0, hR0⟩ : ∃ R, rowP s 0 = R := ⟨_, rfl⟩
        rw [hR0] at HBZ0 HI0 HZ0 HO0
        have HR0 := Lib.hid hR0
        clear hs hta hsl hR0
        go_upto_region 11 with (first
          | (refine wpList_build_as rfl 23 #[] rfl R0 (HBZ0.out _) ?_)
          | (refine wpList_store_row rfl 23 (.tmp 15) (.tmp 55) rfl wr.heap.size R0 rfl rfl 23 (List.replicate 32 (Value.int .u8 0)).toArray (heap_alloc_new _ _) HI0.out HZ0.out HO0.out ?_; rw [World.setRow_alloc_new]))
        go_wp2_with fail
        go_loopw [16] (fun nv wq => ∃ n : Nat, n ≤ 32 ∧ nv = .int .i64 n ∧ wq = wr.alloc (.cells (rowP s n) 23)) (fun nv _ => 32 - (intOf nv).toNat)
        case atStart => exact ⟨0, by omega, rfl, by rw [HR0.out]⟩
        case round =>
          obtain ⟨n, hn, rfl, rfl⟩ := hrel
          by_cases hn32 : n < 32
          · have hta := HTA.out n hn32
            have hni : (n : Int) < 32 := by omega
            have hn0 : (0 : Int) ≤ (n : Int) := by omega
            have hn2 : n < (rowP s n).size := by rw [rowP_size s n HSLN.out hn]; exact hn32
            have hc : (wr.alloc (.cells (rowP s n) 23)).cell? ⟨wr.heap.size, n, none⟩ = some (rowP s n)[n] := by
              rw [Lib.cell_of_heap (heap_alloc_new wr _)]
              exact Array.getElem?_eq_getElem hn2
            have hf : (wr.alloc (.cells (rowP s n) 23)).frozen? ⟨wr.heap.size, n, none⟩ = false := Lib.frozen_of_heap (heap_alloc_new wr _) n
            go_upto_region 13 with (fail)
            rw [rowP_set s n _ HSLN.out hn32 hta]
            clear hc hf
            go_wp2_with fail
            go_roundw
            case rel => exact ⟨n + 1, by omega, by go_num, rfl⟩
            case measure => simp [intOf]; omega
          · obtain rfl : n = 32 := by omega
            rw [rowP_all s HSLN.out]
            have hb5 : Below wr.heap.size wr (wr.alloc (.cells (valsB s).toArray 23)) := (Below.refl _ _).alloc (Nat.le_refl _) _
            have H15 := Lib.hid (heap_alloc_new wr (.cells (valsB s).toArray 23))
            have HRS := Lib.hid (row32 s HSLN.out)
            obtain ⟨CS, hCS⟩ : ∃ C, (valsB s).toArray = C := ⟨_, rfl⟩
            have HCS := Lib.hid (show Value.agg CS = Value.agg (valsB s).toArray by rw [hCS])
            rw [hCS] at H15 HRS hb5
            rw [hCS]
            have HO5 := Lib.hid (HOWN.out.kept hb5)
            have HB5 := Lib.hid (HBR.out.trans (hb5.mono HSZ.out))
            have HS5 := Lib.hid (Nat.le_trans HSZ.out hb5.size)
            have HPL := Lib.hid (show (sideL sig i).length ≤ 1099511627776 by rw [sideL_len]; omega)
            clear hCS hb5
            generalize wr.alloc (.cells CS 23) = w5 at H15 HO5 HB5 HS5 ⊢
            go_upto_region 9 with (first
              | (refine wpList_load_row rfl 23 (.tmp 15) rfl wr.heap.size rfl 23 CS (0, 0) _ H15.out Try.underlying23 rfl HRS.out.info ?_)
              | (refine wpList_build_hash1 rfl (.tmp 70) rfl s HSLN.out HCS.out ?_; intro w6 hr6 hb6 _ _; refine wpList_append_one rfl (.tmp 69) (.tmp 71) rfl B _ (sideL sig i) rfl (HO5.out.kept hb6) _ 1 s rfl hr6 HPL.out (Nat.le_trans HS5.out hb6.size) ?_; intro v7 w7 ho7 hg7 _; have hb7 := (HB5.out.trans (hb6.mono HS5.out)).grown hg7 (Nat.le_trans HS5.out hb6.size) (fun k hk => (own_lt HO5.out k hk).1)))
            have HO7 := Lib.hid ho7
            have HB7 := Lib.hid hb7
            clear ho7 hg7 hb7 hr6 hb6
            go_wp2_with fail
            go_roundw
            case rel => exact ⟨i + 1, by omega, by go_num, by rw [HSU.out]; exact HO7.out, HB7.out⟩
            case measure => simp [intOf]; omega
      · obtain rfl : d = i := by omega
        obtain ⟨ad, cs, hsv⟩ := own_formE HOWN.out
        rw [sideL_len] at hsv
        have HHS := Lib.hid (hsv ▸ HOWN.out.hashes)
        subst hsv
        have HQ7 := Lib.hid ((HBR.out.block q7 HLZ.out.2).trans HQ.out)
        have HQ5 := Lib.hid ((HBR.out.block g5 (by have := HLZ.out; omega)).trans HZ5.out)
        have HLQ := Lib.hid (Nat.lt_of_lt_of_le HLZ.out.2 HSZ.out)
        have HLP := Lib.hid (show g5 < wr.heap.size by have := HLZ.out; have := HSZ.out; omega)
        have HBW2 := Lib.hid (HBZ.out.trans (HBR.out.mono (by have := HLZ.out; omega)))
        have hci : ¬ (d : Int) < (d : Int) := by omega
        go_upto_region 16 with (fail)
        refine QT.wp_region_facts_tail 8 (by kernel_rfl) (fun w' => Below wr.heap.size wr w') (fun n v w' => (([.val (.agg CT), .val (.int .i64 d), .val (.int .i64 p), .bl way, .val (.slice ad d cs), .val (.agg CO), .val (.agg CP), .val (.bool b)] : List FactB).getD n (.val undef) : FactB).holds v w') (by kernel_rfl) (by kernel_rfl) (Below.refl _ _).drew (fun w1 w2 h1 hb => h1.trans (hb.mono h1.size)) (fun n v w1 w2 h hb => FactB.kept _ v w1 w2 h hb) (fun n o hn ho a wz hI hag hdep => ?_) (fun a wz hI hag hf => ?_)
        · have t1 : a.eval (.tmp 1) = .int .i64 d := hag.old 1 _ (by kernel_rfl) rfl
          have t2 : a.eval (.tmp 2) = .int .i64 p := hag.old 2 _ (by kernel_rfl) rfl
          have t5 : a.eval (.tmp 5) = .pointer (some ⟨g5, 0, none⟩) := hag.old 5 _ (by kernel_rfl) rfl
          have t11 : a.eval (.tmp 11) = .pointer (some ⟨q7, 0, none⟩) := hag.old 11 _ (by kernel_rfl) rfl
          have t13 : a.eval (.tmp 13) = .slice ad d cs := hag.old 13 _ (by kernel_rfl) rfl
          match n, ho with
          | 0, ho =>
            obtain rfl := (Option.some.inj ho).symm
            exact ⟨rfl, wp_load_row 23 (.tmp 11) rfl q7 t11 23 CT (0, 0) _ ((hI.block q7 HLQ.out).trans HQ7.out) Try.underlying23 rfl HRT.out.info ⟨_, rfl, rfl, Below.refl _ _⟩⟩
          | 1, ho =>
            obtain rfl := (Option.some.inj ho).symm
            exact ⟨rfl, QT.wp_value (BigFrame.run_move (.tmp 1) rfl wz) ⟨_, rfl, t1, Below.refl _ _⟩⟩
          | 2, ho =>
            obtain rfl := (Option.some.inj ho).symm
            exact ⟨rfl, QT.wp_value (BigFrame.run_move (.tmp 2) rfl wz) ⟨_, rfl, t2, Below.refl _ _⟩⟩
          | 3, ho =>
            obtain rfl := (Option.some.inj ho).symm
            have d74 : a.eval (.tmp 74) = .int .i64 d := hdep _ (Array.mem_of_getElem? (i := 0) rfl) rfl _ _ rfl rfl
            have d75 : a.eval (.tmp 75) = .int .i64 p := hdep _ (Array.mem_of_getElem? (i := 1) rfl) rfl _ _ rfl rfl
            exact ⟨rfl, wp_enter_any (f := 38) (args := #[.int .i64 d, .int .i64 p]) (by simp [go_sem, QT.nf d74, QT.nf d75]) (HDG.out wz) fun v w' ⟨hown, hb⟩ => by
              obtain ⟨aa, cc, rfl⟩ := OwnBl.form hown
              exact ⟨_, rfl, ⟨aa, cc, rfl, hown.bools⟩, hb⟩⟩
          | 4, ho =>
            obtain rfl := (Option.some.inj ho).symm
            exact ⟨rfl, QT.wp_value (BigFrame.run_move (.tmp 13) rfl wz) ⟨_, rfl, t13, Below.refl _ _⟩⟩
          | 5, ho =>
            obtain rfl := (Option.some.inj ho).symm
            have d73 : a.eval (.tmp 73) = .agg CT := hdep _ (Array.mem_of_getElem? (i := 0) rfl) rfl _ _ rfl rfl
            have d76 : ((.bl way) : FactB).holds (a.eval (.tmp 76)) wz := hdep _ (Array.mem_of_getElem? (i := 1) rfl) rfl _ _ rfl rfl
            have d77 : a.eval (.tmp 77) = .slice ad d cs := hdep _ (Array.mem_of_getElem? (i := 2) rfl) rfl _ _ rfl rfl
            obtain ⟨aw, cw, d76', y76⟩ := d76
            rw [HWL.out] at d76' y76
            exact ⟨rfl, QT.wp_enter (f := 42) (args := #[.agg CT, .slice aw d cw, .slice ad d cs, .int .i64 0]) (by simp [go_sem, QT.nf d73, QT.nf d76', QT.nf d77]) (HOV.out aw cw ad cs wz y76 (HHS.out.kept hI)) fun w' hb => ⟨_, rfl, rfl, hb⟩⟩
          | 6, ho =>
            obtain rfl := (Option.some.inj ho).symm
            exact ⟨rfl, wp_load_row 23 (.tmp 5) rfl g5 t5 23 CP (0, 0) _ ((hI.block g5 HLP.out).trans HQ5.out) Try.underlying23 rfl HRP.out.info ⟨_, rfl, rfl, Below.refl _ _⟩⟩
          | 7, ho =>
            obtain rfl := (Option.some.inj ho).symm
            have d78 : a.eval (.tmp 78) = .agg CO := hdep _ (Array.mem_of_getElem? (i := 0) rfl) rfl _ _ rfl rfl
            have d79 : a.eval (.tmp 79) = .agg CP := hdep _ (Array.mem_of_getElem? (i := 1) rfl) rfl _ _ rfl rfl
            exact ⟨rfl, QT.wp_value (v := .bool b) (by simp [go_sem, QT.nf d78, QT.nf d79, HEQ.out]) ⟨_, rfl, rfl, Below.refl _ _⟩⟩
          | n + 8, ho => omega
        · have f0 : a.eval (.tmp 73) = .agg CT := hf 0 _ _ (by omega) rfl rfl
          have f1 : a.eval (.tmp 74) = .int .i64 d := hf 1 _ _ (by omega) rfl rfl
          have f2 : a.eval (.tmp 75) = .int .i64 p := hf 2 _ _ (by omega) rfl rfl
          have f3' : ((.bl way) : FactB).holds (a.eval (.tmp 76)) wz := hf 3 _ _ (by omega) rfl rfl
          obtain ⟨q3, c3, f3, y3⟩ := f3'
          have f4 : a.eval (.tmp 77) = .slice ad d cs := hf 4 _ _ (by omega) rfl rfl
          have f5 : a.eval (.tmp 78) = .agg CO := hf 5 _ _ (by omega) rfl rfl
          have f6 : a.eval (.tmp 79) = .agg CP := hf 6 _ _ (by omega) rfl rfl
          have f7 : a.eval (.tmp 80) = .bool b := hf 7 _ _ (by omega) rfl rfl
          have ha := hag.puts [(73, .agg CT), (74, .int .i64 d), (75, .int .i64 p), (76, .slice q3 way.length c3), (77, .slice ad d cs), (78, .agg CO), (79, .agg CP), (80, .bool b)] rfl (by simp) (by simp only [List.forall_mem_cons, List.not_mem_nil, false_implies, implies_true, and_true]; exact ⟨f0, f1, f2, f3, f4, f5, f6, f7⟩)
          subst ha
          clear hag hf f0 f1 f2 f3 f4 f5 f6 f7
          simp only [List.foldl_cons, List.foldl_nil, Act.put, List.drop_succ_cons, List.drop_zero, List.setIfInBounds_toArray, List.set_cons_succ, List.set_cons_zero]
          have HBF := Lib.hid (HBW2.out.trans (hI.mono (Nat.le_of_lt HLP.out)))
          clear hI
          go_wp2_with fail
          go_ret
          exact ⟨rfl, HGE.out ▸ HBF.out⟩

end Go.Proofs.Ytpifjeghoapjbaa.Evolve
