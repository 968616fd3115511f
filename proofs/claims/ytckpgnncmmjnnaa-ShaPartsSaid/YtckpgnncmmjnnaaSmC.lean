/- The document's own Sum: a block's words. -/
import Derived.Test.YtckpgnncmmjnnaaSmA
namespace Go.Proofs.Ytckpgnncmmjnnaa.Sha
open Go.RowKit

set_option maxRecDepth 100000 in
set_option maxHeartbeats 3200000 in
theorem sum_words {u0 u1 u2 u4 u5 u9 u10 u11 u12 u13 u14 u15 u16 u17 u18 u19 u20 u21 u22 u23 u24 u25 u26 u27 u28 u29 u30 u31 u32 u33 u34 u35 u36 u37 u38 u39 u40 u41 u42 u43 u44 u45 u46 u47 u48 u49 u50 u51 u52 u53 u54 u55 u56 u57 u58 u59 u60 u61 u62 u63 u64 u65 u66 u67 u68 u69 u70 u71 u72 u73 u74 u75 u76 u77 u78 u79 u80 u81 u82 u83 u84 u85 u86 u87 u88 u89 u90 u91 u92 u93 u94 u95 u96 u97 u98 u99 u100 u101 u102 u103 u104 u105 u106 u107 u108 u109 u110 u111 u112 u113 u114 u115 u116 u117 u118 u119 u120 u121 u122 u123 u124 u125 u126 u127 u128 u129 u130 u131 u132 u133 u134 u135 u136 u137 u138 u139 u140 u141 u142 u143 u144 u145 u146 u147 u148 u149 u150 u151 u152 u153 u154 u155 u156 u157 u158 u159 u160 u161 u162 u163 u164 u165 u166 u167 u168 u169 u170 u171 u172 u173 u174 u175 u176 u177 u178 u179 u180 u181 u182 u183 u184 u185 u186 u187 u188 u189 u190 u191 u192 u193 u194 u195 u196 u197 u198 u199 u200 u201 u202 u203 u204 u205 u206 u207 u208 u209 u210 u211 u212 u213 u214 u215 u216 u217 u218 u219 u220 u221 u222 u223 u224 u225 u226 u227 u228 u229 u230 u231 u232 u233 u234 u235 u236 u237 u238 u239 u240 u241 u242 u243 u244 u245 u246 u247 u248 u249 u250 u251 u252 u253 u254 u255 u256 u257 u258 u259 u260 u261 u262 u263 u264 u265 u266 u267 u268 : Value} {w W0 : World} {B g6 gv gk gw N cap6 m : Nat} {D : List UInt8} {vs X WS blk : List Nat} (hA : Apart g6 gv gk gw) (hB : B ≤ w.heap.size) (hrs : RS W0 B g6 gv gk gw D vs X w) (hm64 : m + 64 ≤ N) (hN : N ≤ 2000000000) (hbg : ∀ i, i < 64 → ∃ b : UInt8, D[m + i]? = some b ∧ blk.getD i 0 = b.toNat) (hf : ∀ t, t < 16 → WS[t]? = some (blk.getD (4 * t) 0 * 16777216 + blk.getD (4 * t + 1) 0 * 65536 + blk.getD (4 * t + 2) 0 * 256 + blk.getD (4 * t + 3) 0)) (hnx : ∀ t x2 x7 x15 x16, 16 ≤ t → t < 64 → WS[t - 2]? = some x2 → WS[t - 7]? = some x7 → WS[t - 15]? = some x15 → WS[t - 16]? = some x16 → WS[t]? = some ((s1 x2 + x7 + s0 x15 + x16) % 4294967296)) (hwl : WS.length = 64) (hwlow : Low WS) (Q0 : Exit → Act → World → Prop)
    (hexit : ∀ (w' : World) (x8 x9 x10 x11 x50 x51 x52 x53 x54 x55 x56 x57 x58 x59 x60 x61 x62 x63 x64 x65 x66 x67 x68 x69 x70 x71 x72 x73 x74 x75 x76 x77 x78 x79 x80 x81 x82 x83 x84 x85 x86 x87 x88 x89 x90 x91 x92 x93 x94 x95 x96 x97 x98 x99 x100 x101 x102 x103 x104 x105 x106 x107 x108 x109 x110 x111 x112 x113 x114 x115 x116 x117 x118 x119 x120 x121 x122 x123 x124 x125 x126 x127 x128 x129 x130 x131 x132 x133 : Value), RS W0 B g6 gv gk gw D vs WS w' ∧ B ≤ w'.heap.size → Q0 .normal ⟨#[u0, u1, u2, .slice (some ⟨g6, 0, none⟩) N cap6, u4, u5, .slice (some ⟨gw, 0, none⟩) 64 64, .int .i64 (m : Int), x8, x9, x10, x11, u12, u13, u14, u15, u16, u17, u18, u19, u20, u21, u22, u23, u24, u25, u26, u27, u28, u29, u30, u31, u32, u33, u34, u35, u36, u37, u38, u39, u40, u41, u42, u43, u44, u45, u46, u47, u48, u49, x50, x51, x52, x53, x54, x55, x56, x57, x58, x59, x60, x61, x62, x63, x64, x65, x66, x67, x68, x69, x70, x71, x72, x73, x74, x75, x76, x77, x78, x79, x80, x81, x82, x83, x84, x85, x86, x87, x88, x89, x90, x91, x92, x93, x94, x95, x96, x97, x98, x99, x100, x101, x102, x103, x104, x105, x106, x107, x108, x109, x110, x111, x112, x113, x114, x115, x116, x117, x118, x119, x120, x121, x122, x123, x124, x125, x126, x127, x128, x129, x130, x131, x132, x133, u134, u135, u136, u137, u138, u139, u140, u141, u142, u143, u144, u145, u146, u147, u148, u149, u150, u151, u152, u153, u154, u155, u156, u157, u158, u159, u160, u161, u162, u163, u164, u165, u166, u167, u168, u169, u170, u171, u172, u173, u174, u175, u176, u177, u178, u179, u180, u181, u182, u183, u184, u185, u186, u187, u188, u189, u190, u191, u192, u193, u194, u195, u196, u197, u198, u199, u200, u201, u202, u203, u204, u205, u206, u207, u208, u209, u210, u211, u212, u213, u214, u215, u216, u217, u218, u219, u220, u221, u222, u223, u224, u225, u226, u227, u228, u229, u230, u231, u232, u233, u234, u235, u236, u237, u238, u239, u240, u241, u242, u243, u244, u245, u246, u247, u248, u249, u250, u251, u252, u253, u254, u255, u256, u257, u258, u259, u260, u261, u262, u263, u264, u265, u266, u267, u268], []⟩ w') :
    (blkS 4).wp Try.prog Q0 ⟨#[u0, u1, u2, .slice (some ⟨g6, 0, none⟩) N cap6, u4, u5, .slice (some ⟨gw, 0, none⟩) 64 64, .int .i64 (m : Int), .int .i64 0, u9, u10, u11, u12, u13, u14, u15, u16, u17, u18, u19, u20, u21, u22, u23, u24, u25, u26, u27, u28, u29, u30, u31, u32, u33, u34, u35, u36, u37, u38, u39, u40, u41, u42, u43, u44, u45, u46, u47, u48, u49, u50, u51, u52, u53, u54, u55, u56, u57, u58, u59, u60, u61, u62, u63, u64, u65, u66, u67, u68, u69, u70, u71, u72, u73, u74, u75, u76, u77, u78, u79, u80, u81, u82, u83, u84, u85, u86, u87, u88, u89, u90, u91, u92, u93, u94, u95, u96, u97, u98, u99, u100, u101, u102, u103, u104, u105, u106, u107, u108, u109, u110, u111, u112, u113, u114, u115, u116, u117, u118, u119, u120, u121, u122, u123, u124, u125, u126, u127, u128, u129, u130, u131, u132, u133, u134, u135, u136, u137, u138, u139, u140, u141, u142, u143, u144, u145, u146, u147, u148, u149, u150, u151, u152, u153, u154, u155, u156, u157, u158, u159, u160, u161, u162, u163, u164, u165, u166, u167, u168, u169, u170, u171, u172, u173, u174, u175, u176, u177, u178, u179, u180, u181, u182, u183, u184, u185, u186, u187, u188, u189, u190, u191, u192, u193, u194, u195, u196, u197, u198, u199, u200, u201, u202, u203, u204, u205, u206, u207, u208, u209, u210, u211, u212, u213, u214, u215, u216, u217, u218, u219, u220, u221, u222, u223, u224, u225, u226, u227, u228, u229, u230, u231, u232, u233, u234, u235, u236, u237, u238, u239, u240, u241, u242, u243, u244, u245, u246, u247, u248, u249, u250, u251, u252, u253, u254, u255, u256, u257, u258, u259, u260, u261, u262, u263, u264, u265, u266, u267, u268], []⟩ w := by
  have HX := Lib.hid hexit
  clear hexit
  conv => arg 2; whnf
  have HRS := Lib.hid hrs
  have HA := Lib.hid hA
  have HBG := Lib.hid hbg
  have HF := Lib.hid hf
  have HNX := Lib.hid hnx
  have HWL := Lib.hid hwl
  have HWLow := Lib.hid hwlow
  clear hrs hA hbg hf hnx hwl hwlow
  go_wp2_with fail
  go_loopw [8] (fun i wi => ∃ (t : Nat) (X : List Nat), i = .int .i64 t ∧ t ≤ 64 ∧ (∀ j, j < t → X[j]? = WS[j]?) ∧ B ≤ wi.heap.size ∧ RS W0 B g6 gv gk gw D vs X wi) (fun i _ => 64 - (intOf i).toNat)
  case atStart => exact ⟨0, X, rfl, by omega, by omega, hB, HRS.out⟩
  case round =>
    clear hB HRS
    obtain ⟨t, X, rfl, ht, hpre, hwB, hrs⟩ := hrel
    by_cases ht64 : t < 64
    · by_cases ht16 : t < 16
      · obtain ⟨q, hq⟩ : ∃ q, m + 4 * t = q := ⟨_, rfl⟩
        obtain ⟨b0, e0, d0⟩ := HBG.out (4 * t) (by omega)
        obtain ⟨b1, e1, d1⟩ := HBG.out (4 * t + 1) (by omega)
        obtain ⟨b2, e2, d2⟩ := HBG.out (4 * t + 2) (by omega)
        obtain ⟨b3, e3, d3⟩ := HBG.out (4 * t + 3) (by omega)
        have hfirst := HF.out t ht16
        rw [d0, d1, d2, d3] at hfirst
        have l0 := b0.toNat_lt
        have l1 := b1.toNat_lt
        have l2 := b2.toNat_lt
        have l3 := b3.toNat_lt
        have ho := or_word b0.toNat b1.toNat b2.toNat b3.toNat l0 l1 l2 l3
        obtain ⟨x, hx⟩ : ∃ x, b0.toNat * 16777216 + b1.toNat * 65536 + b2.toNat * 256 + b3.toNat = x := ⟨_, rfl⟩
        rw [hx] at hfirst ho
        have c0 := hrs.bytes q b0 (by rw [← hq]; exact e0)
        have c1 := hrs.bytes (q + 1) b1 (by rw [← hq]; exact e1)
        have c2 := hrs.bytes (q + 2) b2 (by rw [← hq]; exact e2)
        have c3 := hrs.bytes (q + 3) b3 (by rw [← hq]; exact e3)
        obtain ⟨xo, hxo⟩ : ∃ x, X[t]? = some x := ⟨_, List.getElem?_eq_getElem (by rw [hrs.xl]; exact ht64)⟩
        have cx := hrs.cellX t xo hxo
        have fx := hrs.frozX t
        have hqi : (m : Int) + 4 * (t : Int) = (q : Int) := by omega
        have hq3 : (q : Int) + 3 < (N : Int) := by omega
        have hq2 : (q : Int) + 2 < (N : Int) := by omega
        have hq1 : (q : Int) + 1 < (N : Int) := by omega
        have hqq : (q : Int) < (N : Int) := by omega
        have hq0 : (0 : Int) ≤ (q : Int) := by omega
        have ht0 : (0 : Int) ≤ (t : Int) := by omega
        have hti : (t : Int) < 16 := by omega
        have hti4 : (t : Int) < 64 := by omega
        have HRI := Lib.hid hrs
        have HPRE := Lib.hid hpre
        have HFI := Lib.hid hfirst
        clear hrs hpre hfirst e0 e1 e2 e3 d0 d1 d2 d3 hx hxo hq
        go_wp2_with fail
        refine QT.wp_region_drew_tail 32 (by kernel_rfl) (by kernel_rfl) ?_
        simp only [List.take_succ_cons, List.take_zero, List.drop_succ_cons, List.drop_zero]
        repeat (go_big_quiet_step (fail))
        refine wpQuiet_nil ?_
        intro _ hw'
        obtain ⟨nq, hw''⟩ := hw'
        subst hw''
        go_wp2_with fail
        go_roundw
        case rel =>
          refine ⟨t + 1, X.set t x, by go_num, by omega, ?_, ?_, ?_⟩
          · intro j hj
            by_cases hjt : j = t
            · subst hjt
              rw [List.getElem?_set_self (by rw [HRI.out.xl]; exact ht64), HFI.out]
            · rw [List.getElem?_set_ne (fun h => hjt h.symm)]
              exact HPRE.out j (by omega)
          · simpa using hwB
          · exact (HRI.out.drewN nq).setX HA.out t x
        case measure => simp [intOf]; omega
      · obtain ⟨j2, hj2⟩ : ∃ n, t - 2 = n := ⟨_, rfl⟩
        obtain ⟨j7, hj7⟩ : ∃ n, t - 7 = n := ⟨_, rfl⟩
        obtain ⟨j15, hj15⟩ : ∃ n, t - 15 = n := ⟨_, rfl⟩
        obtain ⟨j16, hj16⟩ : ∃ n, t - 16 = n := ⟨_, rfl⟩
        have xl := hrs.xl
        obtain ⟨x2, g2'⟩ : ∃ x, WS[t - 2]? = some x := ⟨_, List.getElem?_eq_getElem (by rw [HWL.out]; omega)⟩
        obtain ⟨x7, g7⟩ : ∃ x, WS[t - 7]? = some x := ⟨_, List.getElem?_eq_getElem (by rw [HWL.out]; omega)⟩
        obtain ⟨x15, g15⟩ : ∃ x, WS[t - 15]? = some x := ⟨_, List.getElem?_eq_getElem (by rw [HWL.out]; omega)⟩
        obtain ⟨x16, g16⟩ : ∃ x, WS[t - 16]? = some x := ⟨_, List.getElem?_eq_getElem (by rw [HWL.out]; omega)⟩
        have hnext := HNX.out t x2 x7 x15 x16 (by omega) ht64 g2' g7 g15 g16
        have l2 := HWLow.out x2 (List.mem_of_getElem? g2')
        have l15 := HWLow.out x15 (List.mem_of_getElem? g15)
        have c2 := hrs.cellX j2 x2 (by rw [hpre _ (by omega), ← hj2]; exact g2')
        have c7 := hrs.cellX j7 x7 (by rw [hpre _ (by omega), ← hj7]; exact g7)
        have c15 := hrs.cellX j15 x15 (by rw [hpre _ (by omega), ← hj15]; exact g15)
        have c16 := hrs.cellX j16 x16 (by rw [hpre _ (by omega), ← hj16]; exact g16)
        obtain ⟨xo, hxo⟩ : ∃ x, X[t]? = some x := ⟨_, List.getElem?_eq_getElem (by rw [hrs.xl]; exact ht64)⟩
        have cx := hrs.cellX t xo hxo
        have fx := hrs.frozX t
        have T1 := Lib.hid (fun w k => turn_quiet x2 17 17 w k rfl l2 (by omega))
        have T2 := Lib.hid (fun w k => turn_quiet x2 19 19 w k rfl l2 (by omega))
        have T3 := Lib.hid (fun w k => turn_quiet x15 7 7 w k rfl l15 (by omega))
        have T4 := Lib.hid (fun w k => turn_quiet x15 18 18 w k rfl l15 (by omega))
        have hs1 : bits .xor .u32 (bits .xor .u32 ((turnN x2 17 : Nat) : Int) ((turnN x2 19 : Nat) : Int)) ((x2 : Int) / 1024) = ((s1 x2 : Nat) : Int) := by
          rw [show (x2 : Int) / 1024 = ((x2 / 2 ^ 10 : Nat) : Int) by omega, xor3 _ _ _ (turnN_lt x2 17 l2 (by omega)) (turnN_lt x2 19 l2 (by omega)) (by omega)]
          rfl
        have hs0 : bits .xor .u32 (bits .xor .u32 ((turnN x15 7 : Nat) : Int) ((turnN x15 18 : Nat) : Int)) ((x15 : Int) / 8) = ((s0 x15 : Nat) : Int) := by
          rw [show (x15 : Int) / 8 = ((x15 / 2 ^ 3 : Nat) : Int) by omega, xor3 _ _ _ (turnN_lt x15 7 l15 (by omega)) (turnN_lt x15 18 l15 (by omega)) (by omega)]
          rfl
        have hsum := sum_word (s1 x2) x7 (s0 x15) x16
        obtain ⟨x, hx⟩ : ∃ x, (s1 x2 + x7 + s0 x15 + x16) % 4294967296 = x := ⟨_, rfl⟩
        rw [hx] at hsum hnext
        have i2 : (t : Int) - 2 = (j2 : Int) := by omega
        have m2 : (0 : Int) ≤ (j2 : Int) := by omega
        have n2 : (j2 : Int) < 64 := by omega
        have i7 : (t : Int) - 7 = (j7 : Int) := by omega
        have m7 : (0 : Int) ≤ (j7 : Int) := by omega
        have n7 : (j7 : Int) < 64 := by omega
        have i15 : (t : Int) - 15 = (j15 : Int) := by omega
        have m15 : (0 : Int) ≤ (j15 : Int) := by omega
        have n15 : (j15 : Int) < 64 := by omega
        have i16 : (t : Int) - 16 = (j16 : Int) := by omega
        have m16 : (0 : Int) ≤ (j16 : Int) := by omega
        have n16 : (j16 : Int) < 64 := by omega
        have v7 : IntKind.i64.wrap ((t : Int) - 7) = (j7 : Int) := by rw [IntWalk.i64_in _ ⟨by omega, by omega⟩]; omega
        have v16 : IntKind.i64.wrap ((t : Int) - 16) = (j16 : Int) := by rw [IntWalk.i64_in _ ⟨by omega, by omega⟩]; omega
        have ht0 : (0 : Int) ≤ (t : Int) := by omega
        have hti : ¬ (t : Int) < 16 := by omega
        have hti4 : (t : Int) < 64 := by omega
        have HRI := Lib.hid hrs
        have HPRE := Lib.hid hpre
        have HFI := Lib.hid hnext
        clear hrs hpre hnext g2' g7 g15 g16 hx hxo hj2 hj7 hj15 hj16 xl
        go_wp2_with fail
        refine QT.wp_region_drew_tail 32 (by kernel_rfl) (by kernel_rfl) ?_
        simp only [List.take_succ_cons, List.take_zero, List.drop_succ_cons, List.drop_zero]
        repeat (go_big_quiet_step ((go_at_call 36; first | with_reducible exact T1.out _ _ | with_reducible exact T2.out _ _ | with_reducible exact T3.out _ _ | with_reducible exact T4.out _ _)))
        refine wpQuiet_nil ?_
        intro _ hw'
        obtain ⟨nq, hw''⟩ := hw'
        subst hw''
        clear T1 T2 T3 T4
        go_wp2_with fail
        go_roundw
        case rel =>
          refine ⟨t + 1, X.set t x, by go_num, by omega, ?_, ?_, ?_⟩
          · intro j hj
            by_cases hjt : j = t
            · subst hjt
              rw [List.getElem?_set_self (by rw [HRI.out.xl]; exact ht64), HFI.out]
            · rw [List.getElem?_set_ne (fun h => hjt h.symm)]
              exact HPRE.out j (by omega)
          · simpa using hwB
          · exact (HRI.out.drewN nq).setX HA.out t x
        case measure => simp [intOf]; omega
    · obtain rfl : t = 64 := by omega
      have hXW : X = WS := List.ext_getElem? fun j => by
        by_cases hj : j < 64
        · exact hpre j hj
        · rw [List.getElem?_eq_none (by rw [hrs.xl]; omega), List.getElem?_eq_none (by rw [HWL.out]; omega)]
      rw [hXW] at hrs
      have HR := Lib.hid hrs
      clear hXW hrs hpre ht64 ht
      go_wp2_with fail
      exact HX.out _ _ _ _ _ _ _ _ _ _ _ _ _ _ _ _ _ _ _ _ _ _ _ _ _ _ _ _ _ _ _ _ _ _ _ _ _ _ _ _ _ _ _ _ _ _ _ _ _ _ _ _ _ _ _ _ _ _ _ _ _ _ _ _ _ _ _ _ _ _ _ _ _ _ _ _ _ _ _ _ _ _ _ _ _ _ _ _ _ ⟨HR.out, hwB⟩

end Go.Proofs.Ytckpgnncmmjnnaa.Sha
