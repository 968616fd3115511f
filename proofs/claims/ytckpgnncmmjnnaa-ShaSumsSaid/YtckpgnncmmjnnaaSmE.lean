/- The document's own Sum: all rounds. -/
import Derived.Test.YtckpgnncmmjnnaaSmD
namespace Go.Proofs.Ytckpgnncmmjnnaa.Sha
open Go.RowKit

set_option maxRecDepth 100000 in
set_option maxHeartbeats 3200000 in
theorem sum_rounds {u0 u1 u2 u3 u7 u8 u9 u10 u11 u12 u14 u15 u16 u17 u18 u19 u20 u21 u22 u23 u24 u25 u26 u27 u28 u29 u30 u31 u32 u33 u34 u35 u36 u37 u38 u39 u40 u41 u42 u43 u44 u45 u46 u47 u48 u49 u50 u51 u52 u53 u54 u55 u56 u57 u58 u59 u60 u61 u62 u63 u64 u65 u66 u67 u68 u69 u70 u71 u72 u73 u74 u75 u76 u77 u78 u79 u80 u81 u82 u83 u84 u85 u86 u87 u88 u89 u90 u91 u92 u93 u94 u95 u96 u97 u98 u99 u100 u101 u102 u103 u104 u105 u106 u107 u108 u109 u110 u111 u112 u113 u114 u115 u116 u117 u118 u119 u120 u121 u122 u123 u124 u125 u126 u127 u128 u129 u130 u131 u132 u133 u134 u135 u136 u137 u138 u139 u140 u141 u142 u143 u144 u145 u146 u147 u148 u149 u150 u151 u152 u153 u154 u155 u156 u157 u158 u159 u160 u161 u162 u163 u164 u165 u166 u167 u168 u169 u170 u171 u172 u173 u174 u175 u176 u177 u178 u179 u180 u181 u182 u183 u184 u185 u186 u187 u188 u189 u190 u191 u192 u193 u194 u195 u196 u197 u198 u199 u200 u201 u202 u203 u204 u205 u206 u207 u208 u209 u210 u211 u212 u213 u214 u215 u216 u217 u218 u219 u220 u221 u222 u223 u224 u225 u226 u227 u228 u229 u230 u231 u232 u233 u234 u235 u236 u237 u238 u239 u240 u241 u242 u243 u244 u245 u246 u247 u248 u249 u250 u251 u252 u253 u254 u255 u256 u257 u258 u259 u260 u261 u262 u263 u264 u265 u266 u267 u268 : Value} {w W0 : World} {B gb gv gk gw g1 capk : Nat} {D : List UInt8} {V : EightW} {WS ys : List Nat} (hA : Apart gb gv gk gw) (hg1 : gv ≠ g1) (hB : B ≤ w.heap.size) (hwl : WS.length = 64) (hlow : LowE V) (hrs : RS W0 B gb gv gk gw D (vL V) WS w) (hys : Dig32 w g1 ys) (Q0 : Exit → Act → World → Prop)
    (hexit : ∀ (w' : World) (x13 x14 x15 x16 x17 x18 x137 x138 x139 x140 x141 x142 x143 x144 x145 x146 x147 x148 x149 x150 x151 x152 x153 x154 x155 x156 x157 x158 x159 x160 x161 x162 x163 x164 x165 x166 x167 x168 x169 x170 x171 x172 x173 x174 x175 x176 x177 x178 x179 x180 x181 x182 x183 x184 x185 x186 x187 x188 x189 x190 x191 x192 x193 x194 x195 x196 x197 x198 x199 x200 x201 x202 x203 x204 x205 x206 x207 x208 x209 x210 x211 x212 x213 x214 x215 x216 x217 x218 x219 x220 x221 x222 x223 x224 x225 x226 x227 x228 x229 x230 x231 x232 x233 : Value), RS W0 B gb gv gk gw D (vL (steps V kL WS)) WS w' ∧ Dig32 w' g1 ys ∧ B ≤ w'.heap.size ∧ LowE (steps V kL WS) → Q0 .normal ⟨#[u0, u1, u2, u3, .slice (some ⟨gv, 0, none⟩) 8 8, .slice (some ⟨gk, 0, none⟩) 64 capk, .slice (some ⟨gw, 0, none⟩) 64 64, u7, u8, u9, u10, u11, u12, x13, x14, x15, x16, x17, x18, u19, u20, u21, u22, u23, u24, u25, u26, u27, u28, u29, u30, u31, u32, u33, u34, u35, u36, u37, u38, u39, u40, u41, u42, u43, u44, u45, u46, u47, u48, u49, u50, u51, u52, u53, u54, u55, u56, u57, u58, u59, u60, u61, u62, u63, u64, u65, u66, u67, u68, u69, u70, u71, u72, u73, u74, u75, u76, u77, u78, u79, u80, u81, u82, u83, u84, u85, u86, u87, u88, u89, u90, u91, u92, u93, u94, u95, u96, u97, u98, u99, u100, u101, u102, u103, u104, u105, u106, u107, u108, u109, u110, u111, u112, u113, u114, u115, u116, u117, u118, u119, u120, u121, u122, u123, u124, u125, u126, u127, u128, u129, u130, u131, u132, u133, u134, u135, u136, x137, x138, x139, x140, x141, x142, x143, x144, x145, x146, x147, x148, x149, x150, x151, x152, x153, x154, x155, x156, x157, x158, x159, x160, x161, x162, x163, x164, x165, x166, x167, x168, x169, x170, x171, x172, x173, x174, x175, x176, x177, x178, x179, x180, x181, x182, x183, x184, x185, x186, x187, x188, x189, x190, x191, x192, x193, x194, x195, x196, x197, x198, x199, x200, x201, x202, x203, x204, x205, x206, x207, x208, x209, x210, x211, x212, x213, x214, x215, x216, x217, x218, x219, x220, x221, x222, x223, x224, x225, x226, x227, x228, x229, x230, x231, x232, x233, u234, u235, u236, u237, u238, u239, u240, u241, u242, u243, u244, u245, u246, u247, u248, u249, u250, u251, u252, u253, u254, u255, u256, u257, u258, u259, u260, u261, u262, u263, u264, u265, u266, u267, u268], []⟩ w') :
    (blkS 6).wp Try.prog Q0 ⟨#[u0, u1, u2, u3, .slice (some ⟨gv, 0, none⟩) 8 8, .slice (some ⟨gk, 0, none⟩) 64 capk, .slice (some ⟨gw, 0, none⟩) 64 64, u7, u8, u9, u10, u11, u12, .int .i64 0, u14, u15, u16, u17, u18, u19, u20, u21, u22, u23, u24, u25, u26, u27, u28, u29, u30, u31, u32, u33, u34, u35, u36, u37, u38, u39, u40, u41, u42, u43, u44, u45, u46, u47, u48, u49, u50, u51, u52, u53, u54, u55, u56, u57, u58, u59, u60, u61, u62, u63, u64, u65, u66, u67, u68, u69, u70, u71, u72, u73, u74, u75, u76, u77, u78, u79, u80, u81, u82, u83, u84, u85, u86, u87, u88, u89, u90, u91, u92, u93, u94, u95, u96, u97, u98, u99, u100, u101, u102, u103, u104, u105, u106, u107, u108, u109, u110, u111, u112, u113, u114, u115, u116, u117, u118, u119, u120, u121, u122, u123, u124, u125, u126, u127, u128, u129, u130, u131, u132, u133, u134, u135, u136, u137, u138, u139, u140, u141, u142, u143, u144, u145, u146, u147, u148, u149, u150, u151, u152, u153, u154, u155, u156, u157, u158, u159, u160, u161, u162, u163, u164, u165, u166, u167, u168, u169, u170, u171, u172, u173, u174, u175, u176, u177, u178, u179, u180, u181, u182, u183, u184, u185, u186, u187, u188, u189, u190, u191, u192, u193, u194, u195, u196, u197, u198, u199, u200, u201, u202, u203, u204, u205, u206, u207, u208, u209, u210, u211, u212, u213, u214, u215, u216, u217, u218, u219, u220, u221, u222, u223, u224, u225, u226, u227, u228, u229, u230, u231, u232, u233, u234, u235, u236, u237, u238, u239, u240, u241, u242, u243, u244, u245, u246, u247, u248, u249, u250, u251, u252, u253, u254, u255, u256, u257, u258, u259, u260, u261, u262, u263, u264, u265, u266, u267, u268], []⟩ w := by
  have HX := Lib.hid hexit
  clear hexit
  conv => arg 2; whnf
  have HA := Lib.hid hA
  have HG1 := Lib.hid hg1
  have HWL := Lib.hid hwl
  have HR0 := Lib.hid hrs
  have HW0 := Lib.hid hys
  have HLOW := Lib.hid hlow
  clear hA hg1 hwl hrs hys hlow
  go_wp2_with fail
  go_loopw [13] (fun i wi => ∃ (t : Nat) (U : EightW), i = .int .i64 t ∧ t ≤ 64 ∧ U = steps V (kL.take t) (WS.take t) ∧ LowE U ∧ B ≤ wi.heap.size ∧ RS W0 B gb gv gk gw D (vL U) WS wi ∧ Dig32 wi g1 ys) (fun i _ => 64 - (intOf i).toNat)
  case atStart => exact ⟨0, V, rfl, by omega, rfl, HLOW.out, hB, HR0.out, HW0.out⟩
  case round =>
    clear hB HR0 HW0
    obtain ⟨t, U, rfl, ht, hU, hlowU, hwB4, hrs4, hwas⟩ := hrel
    have HRS := Lib.hid hrs4
    have HWAS := Lib.hid hwas
    have HLU := Lib.hid hlowU
    have HU := Lib.hid hU
    clear hrs4 hwas hlowU hU
    by_cases ht64 : t < 64
    · obtain ⟨kk, gkk⟩ : ∃ x, kL[t]? = some x := ⟨kL[t]'ht64, List.getElem?_eq_getElem _⟩
      obtain ⟨ww, gww⟩ : ∃ x, WS[t]? = some x := ⟨_, List.getElem?_eq_getElem (by rw [HWL.out]; exact ht64)⟩
      have HST := Lib.hid (show step U kk ww = steps V (kL.take (t + 1)) (WS.take (t + 1)) by
        rw [List.take_add_one, List.take_add_one, gkk, gww]
        show _ = steps _ (kL.take t ++ [kk]) (WS.take t ++ [ww])
        rw [steps_snoc _ _ _ _ _ (by rw [List.length_take, List.length_take, HWL.out]; rfl), ← HU.out])
      have HK := Lib.hid gkk
      have HWW := Lib.hid gww
      have hti4 : (t : Int) < 64 := by omega
      clear gkk gww
      go_upto_block 7 with fail
      refine sum_round HA.out HG1.out hwB4 ht64 HK.out HWW.out HLU.out HRS.out HWAS.out _ ?_
      intro w7 x14 x15 x16 x17 x18 x141 x142 x143 x144 x145 x146 x147 x148 x149 x150 x151 x152 x153 x154 x155 x156 x157 x158 x159 x160 x161 x162 x163 x164 x165 x166 x167 x168 x169 x170 x171 x172 x173 x174 x175 x176 x177 x178 x179 x180 x181 x182 x183 x184 x185 x186 x187 x188 x189 x190 x191 x192 x193 x194 x195 x196 x197 x198 x199 x200 x201 x202 x203 x204 x205 x206 x207 x208 x209 x210 x211 x212 x213 x214 x215 x216 x217 x218 x219 x220 x221 x222 x223 x224 x225 x226 x227 x228 x229 x230 x231 x232 x233
      rintro ⟨hrs8, hys8, hwB8⟩
      have HR8 := Lib.hid hrs8
      have HW8 := Lib.hid hys8
      clear hrs8 hys8
      go_wp2_with fail
      go_roundw
      case rel => exact ⟨t + 1, step U kk ww, by go_num, by omega, HST.out, step_low _ kk ww HLU.out, hwB8, HR8.out, HW8.out⟩
      case measure => simp [intOf]; omega
    · obtain rfl : t = 64 := by omega
      have HV := Lib.hid (show vL U = vL (steps V kL WS) by
        rw [HU.out, List.take_of_length_le (by decide), List.take_of_length_le (by rw [HWL.out]; omega)])
      go_wp2_with fail
      refine HX.out _ _ _ _ _ _ _ _ _ _ _ _ _ _ _ _ _ _ _ _ _ _ _ _ _ _ _ _ _ _ _ _ _ _ _ _ _ _ _ _ _ _ _ _ _ _ _ _ _ _ _ _ _ _ _ _ _ _ _ _ _ _ _ _ _ _ _ _ _ _ _ _ _ _ _ _ _ _ _ _ _ _ _ _ _ _ _ _ _ _ _ _ _ _ _ _ _ _ _ _ _ _ _ _ ⟨?_, HWAS.out, hwB4, ?_⟩
      · rw [← HV.out]; exact HRS.out
      · have h1 := HLU.out
        rw [HU.out, List.take_of_length_le (by decide), List.take_of_length_le (by rw [HWL.out]; omega)] at h1
        exact h1

end Go.Proofs.Ytckpgnncmmjnnaa.Sha
