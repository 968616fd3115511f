/- The document's own Sum: a row moved up. -/
import Derived.Test.YtckpgnncmmjnnaaSmA
namespace Go.Proofs.Ytckpgnncmmjnnaa.Sha
open Go.RowKit

set_option maxRecDepth 100000 in
set_option maxHeartbeats 3200000 in
theorem sum_shift {u0 u1 u2 u3 u5 u6 u7 u8 u9 u10 u11 u12 u13 u14 u15 u16 u17 u19 u20 u21 u22 u23 u24 u25 u26 u27 u28 u29 u30 u31 u32 u33 u34 u35 u36 u37 u38 u39 u40 u41 u42 u43 u44 u45 u46 u47 u48 u49 u50 u51 u52 u53 u54 u55 u56 u57 u58 u59 u60 u61 u62 u63 u64 u65 u66 u67 u68 u69 u70 u71 u72 u73 u74 u75 u76 u77 u78 u79 u80 u81 u82 u83 u84 u85 u86 u87 u88 u89 u90 u91 u92 u93 u94 u95 u96 u97 u98 u99 u100 u101 u102 u103 u104 u105 u106 u107 u108 u109 u110 u111 u112 u113 u114 u115 u116 u117 u118 u119 u120 u121 u122 u123 u124 u125 u126 u127 u128 u129 u130 u131 u132 u133 u134 u135 u136 u137 u138 u139 u140 u141 u142 u143 u144 u145 u146 u147 u148 u149 u150 u151 u152 u153 u154 u155 u156 u157 u158 u159 u160 u161 u162 u163 u164 u165 u166 u167 u168 u169 u170 u171 u172 u173 u174 u175 u176 u177 u178 u179 u180 u181 u182 u183 u184 u185 u186 u187 u188 u189 u190 u191 u192 u193 u194 u195 u196 u197 u198 u199 u200 u201 u202 u203 u204 u205 u206 u207 u208 u209 u210 u211 u212 u213 u214 u215 u216 u217 u218 u219 u220 u221 u222 u223 u224 u225 u226 u227 u228 u229 u230 u231 u232 u233 u234 u235 u236 u237 u238 u239 u240 u241 u242 u243 u244 u245 u246 u247 u248 u249 u250 u251 u252 u253 u254 u255 u256 u257 u258 u259 u260 u261 u262 u263 u264 u265 u266 u267 u268 : Value} {w W0 : World} {B gb gv gk gw g1 : Nat} {D : List UInt8} {V : EightW} {X ys : List Nat} (hA : Apart gb gv gk gw) (hg1 : gv ≠ g1) (hB : B ≤ w.heap.size) (hrs : RS W0 B gb gv gk gw D (shv (vL V) 7) X w) (hys : Dig32 w g1 ys) (Q0 : Exit → Act → World → Prop)
    (hexit : ∀ (w' : World) (x18 x210 x211 x212 x213 x214 x215 x216 x217 x218 x219 x220 x221 : Value), RS W0 B gb gv gk gw D (shv (vL V) 0) X w' ∧ Dig32 w' g1 ys ∧ B ≤ w'.heap.size → Q0 .normal ⟨#[u0, u1, u2, u3, .slice (some ⟨gv, 0, none⟩) 8 8, u5, u6, u7, u8, u9, u10, u11, u12, u13, u14, u15, u16, u17, x18, u19, u20, u21, u22, u23, u24, u25, u26, u27, u28, u29, u30, u31, u32, u33, u34, u35, u36, u37, u38, u39, u40, u41, u42, u43, u44, u45, u46, u47, u48, u49, u50, u51, u52, u53, u54, u55, u56, u57, u58, u59, u60, u61, u62, u63, u64, u65, u66, u67, u68, u69, u70, u71, u72, u73, u74, u75, u76, u77, u78, u79, u80, u81, u82, u83, u84, u85, u86, u87, u88, u89, u90, u91, u92, u93, u94, u95, u96, u97, u98, u99, u100, u101, u102, u103, u104, u105, u106, u107, u108, u109, u110, u111, u112, u113, u114, u115, u116, u117, u118, u119, u120, u121, u122, u123, u124, u125, u126, u127, u128, u129, u130, u131, u132, u133, u134, u135, u136, u137, u138, u139, u140, u141, u142, u143, u144, u145, u146, u147, u148, u149, u150, u151, u152, u153, u154, u155, u156, u157, u158, u159, u160, u161, u162, u163, u164, u165, u166, u167, u168, u169, u170, u171, u172, u173, u174, u175, u176, u177, u178, u179, u180, u181, u182, u183, u184, u185, u186, u187, u188, u189, u190, u191, u192, u193, u194, u195, u196, u197, u198, u199, u200, u201, u202, u203, u204, u205, u206, u207, u208, u209, x210, x211, x212, x213, x214, x215, x216, x217, x218, x219, x220, x221, u222, u223, u224, u225, u226, u227, u228, u229, u230, u231, u232, u233, u234, u235, u236, u237, u238, u239, u240, u241, u242, u243, u244, u245, u246, u247, u248, u249, u250, u251, u252, u253, u254, u255, u256, u257, u258, u259, u260, u261, u262, u263, u264, u265, u266, u267, u268], []⟩ w') :
    (blkS 8).wp Try.prog Q0 ⟨#[u0, u1, u2, u3, .slice (some ⟨gv, 0, none⟩) 8 8, u5, u6, u7, u8, u9, u10, u11, u12, u13, u14, u15, u16, u17, .int .i64 7, u19, u20, u21, u22, u23, u24, u25, u26, u27, u28, u29, u30, u31, u32, u33, u34, u35, u36, u37, u38, u39, u40, u41, u42, u43, u44, u45, u46, u47, u48, u49, u50, u51, u52, u53, u54, u55, u56, u57, u58, u59, u60, u61, u62, u63, u64, u65, u66, u67, u68, u69, u70, u71, u72, u73, u74, u75, u76, u77, u78, u79, u80, u81, u82, u83, u84, u85, u86, u87, u88, u89, u90, u91, u92, u93, u94, u95, u96, u97, u98, u99, u100, u101, u102, u103, u104, u105, u106, u107, u108, u109, u110, u111, u112, u113, u114, u115, u116, u117, u118, u119, u120, u121, u122, u123, u124, u125, u126, u127, u128, u129, u130, u131, u132, u133, u134, u135, u136, u137, u138, u139, u140, u141, u142, u143, u144, u145, u146, u147, u148, u149, u150, u151, u152, u153, u154, u155, u156, u157, u158, u159, u160, u161, u162, u163, u164, u165, u166, u167, u168, u169, u170, u171, u172, u173, u174, u175, u176, u177, u178, u179, u180, u181, u182, u183, u184, u185, u186, u187, u188, u189, u190, u191, u192, u193, u194, u195, u196, u197, u198, u199, u200, u201, u202, u203, u204, u205, u206, u207, u208, u209, u210, u211, u212, u213, u214, u215, u216, u217, u218, u219, u220, u221, u222, u223, u224, u225, u226, u227, u228, u229, u230, u231, u232, u233, u234, u235, u236, u237, u238, u239, u240, u241, u242, u243, u244, u245, u246, u247, u248, u249, u250, u251, u252, u253, u254, u255, u256, u257, u258, u259, u260, u261, u262, u263, u264, u265, u266, u267, u268], []⟩ w := by
  have HX := Lib.hid hexit
  clear hexit
  conv => arg 2; whnf
  go_wp2_with fail
  go_loopw [18] (fun i wi => ∃ k : Nat, i = .int .i64 k ∧ k ≤ 7 ∧ B ≤ wi.heap.size ∧ RS W0 B gb gv gk gw D (shv (vL V) k) X wi ∧ Dig32 wi g1 ys) (fun i _ => (intOf i).toNat)
  case atStart => exact ⟨7, rfl, by omega, hB, hrs, hys⟩
  case round =>
    obtain ⟨k, rfl, hk, hwB7, hrs7, hw7⟩ := hrel
    have HG1 := Lib.hid hg1
    have HA := Lib.hid hA
    clear hrs hys hg1 hA hB
    by_cases hk0 : 0 < k
    · obtain ⟨j, rfl⟩ : ∃ j, k = j + 1 := ⟨k - 1, by omega⟩
      obtain ⟨a, b, ha, hb, hset⟩ := shv_at (vL V) rfl j (by omega)
      have c1 := hrs7.cellV j a ha
      have c2 := hrs7.cellV (j + 1) b hb
      have f2 := hrs7.frozV (j + 1)
      have ij : ((j + 1 : Nat) : Int) - 1 = (j : Int) := by omega
      obtain ⟨k, hkk⟩ : ∃ k, j + 1 = k := ⟨_, rfl⟩
      rw [hkk] at hset c2 f2 ij hk0
      rw [hkk]
      have HSET := Lib.hid hset
      have HR7 := Lib.hid hrs7
      have HW7 := Lib.hid hw7
      have hj0 : (0 : Int) ≤ (j : Int) := by omega
      have hj8 : (j : Int) < 8 := by omega
      have hk0' : (0 : Int) < (k : Int) := by omega
      have hk0'' : (0 : Int) ≤ (k : Int) := by omega
      have hk8 : (k : Int) < 8 := by omega
      clear hset hrs7 hw7 ha hb
      go_wp2_with fail
      go_roundw
      case rel =>
        refine ⟨j, rfl, by omega, by simpa using hwB7, ?_, fun i x hx => (cell_setCell_far wr _ _ _ HG1.out.symm).trans (HW7.out i x hx)⟩
        have h := HR7.out.setV HA.out k a
        rw [hkk, HSET.out] at h
        exact h
      case measure => simp [intOf]; omega
    · obtain rfl : k = 0 := by omega
      have HR7 := Lib.hid hrs7
      have HW7 := Lib.hid hw7
      have hz : ((0 : Nat) : Int) = 0 := rfl
      clear hrs7 hw7 hk0
      go_wp2_with fail
      exact HX.out _ _ _ _ _ _ _ _ _ _ _ _ _ _ ⟨HR7.out, HW7.out, hwB7⟩

end Go.Proofs.Ytckpgnncmmjnnaa.Sha
