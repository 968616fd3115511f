/- The document's own Sum: what was is added. -/
import Derived.Test.YtckpgnncmmjnnaaSmA
namespace Go.Proofs.Ytckpgnncmmjnnaa.Sha
open Go.RowKit

/-- Eight words of which the first k are led on. -/
def mixL (u v : EightW) (k : Nat) : List Nat := (vL (addE v u)).take k ++ (vL u).drop k
theorem mixL_at (u v : EightW) (k : Nat) (hk : k < 8) : ∃ x y : Nat, (mixL u v k)[k]? = some x ∧ (vL v)[k]? = some y ∧ (mixL u v k).set k ((x + y) % 4294967296) = mixL u v (k + 1) := by
  have h : k = 0 ∨ k = 1 ∨ k = 2 ∨ k = 3 ∨ k = 4 ∨ k = 5 ∨ k = 6 ∨ k = 7 := by omega
  rcases h with rfl | rfl | rfl | rfl | rfl | rfl | rfl | rfl
  · exact ⟨u.a, v.a, rfl, rfl, rfl⟩
  · exact ⟨u.b, v.b, rfl, rfl, rfl⟩
  · exact ⟨u.c, v.c, rfl, rfl, rfl⟩
  · exact ⟨u.d, v.d, rfl, rfl, rfl⟩
  · exact ⟨u.e, v.e, rfl, rfl, rfl⟩
  · exact ⟨u.f, v.f, rfl, rfl, rfl⟩
  · exact ⟨u.g, v.g, rfl, rfl, rfl⟩
  · exact ⟨u.h, v.h, rfl, rfl, rfl⟩

set_option maxRecDepth 100000 in
set_option maxHeartbeats 3200000 in
theorem sum_adds {u0 u1 u2 u3 u5 u6 u7 u8 u9 u10 u11 u13 u14 u15 u16 u17 u18 u20 u21 u22 u23 u24 u25 u26 u27 u28 u29 u30 u31 u32 u33 u34 u35 u36 u37 u38 u39 u40 u41 u42 u43 u44 u45 u46 u47 u48 u49 u50 u51 u52 u53 u54 u55 u56 u57 u58 u59 u60 u61 u62 u63 u64 u65 u66 u67 u68 u69 u70 u71 u72 u73 u74 u75 u76 u77 u78 u79 u80 u81 u82 u83 u84 u85 u86 u87 u88 u89 u90 u91 u92 u93 u94 u95 u96 u97 u98 u99 u100 u101 u102 u103 u104 u105 u106 u107 u108 u109 u110 u111 u112 u113 u114 u115 u116 u117 u118 u119 u120 u121 u122 u123 u124 u125 u126 u127 u128 u129 u130 u131 u132 u133 u134 u135 u136 u137 u138 u139 u140 u141 u142 u143 u144 u145 u146 u147 u148 u149 u150 u151 u152 u153 u154 u155 u156 u157 u158 u159 u160 u161 u162 u163 u164 u165 u166 u167 u168 u169 u170 u171 u172 u173 u174 u175 u176 u177 u178 u179 u180 u181 u182 u183 u184 u185 u186 u187 u188 u189 u190 u191 u192 u193 u194 u195 u196 u197 u198 u199 u200 u201 u202 u203 u204 u205 u206 u207 u208 u209 u210 u211 u212 u213 u214 u215 u216 u217 u218 u219 u220 u221 u222 u223 u224 u225 u226 u227 u228 u229 u230 u231 u232 u233 u234 u235 u236 u237 u238 u239 u240 u241 u242 u243 u244 u245 u246 u247 u248 u249 u250 u251 u252 u253 u254 u255 u256 u257 u258 u259 u260 u261 u262 u263 u264 u265 u266 u267 u268 : Value} {w W0 : World} {B gb gv gk gw g1 cap1 : Nat} {D : List UInt8} {U V : EightW} {X : List Nat} (hA : Apart gb gv gk gw) (hg1 : gv ≠ g1) (hB : B ≤ w.heap.size) (hrs : RS W0 B gb gv gk gw D (vL U) X w) (hys : Dig32 w g1 (vL V)) (Q0 : Exit → Act → World → Prop)
    (hexit : ∀ (w' : World) (x19 x234 x235 x236 x237 x238 x239 x240 x241 x242 x243 x244 x245 x246 x247 x248 x249 : Value), RS W0 B gb gv gk gw D (vL (addE V U)) X w' ∧ B ≤ w'.heap.size → Q0 .normal ⟨#[u0, u1, u2, u3, .slice (some ⟨gv, 0, none⟩) 8 8, u5, u6, u7, u8, u9, u10, u11, .slice (some ⟨g1, 0, none⟩) 8 cap1, u13, u14, u15, u16, u17, u18, x19, u20, u21, u22, u23, u24, u25, u26, u27, u28, u29, u30, u31, u32, u33, u34, u35, u36, u37, u38, u39, u40, u41, u42, u43, u44, u45, u46, u47, u48, u49, u50, u51, u52, u53, u54, u55, u56, u57, u58, u59, u60, u61, u62, u63, u64, u65, u66, u67, u68, u69, u70, u71, u72, u73, u74, u75, u76, u77, u78, u79, u80, u81, u82, u83, u84, u85, u86, u87, u88, u89, u90, u91, u92, u93, u94, u95, u96, u97, u98, u99, u100, u101, u102, u103, u104, u105, u106, u107, u108, u109, u110, u111, u112, u113, u114, u115, u116, u117, u118, u119, u120, u121, u122, u123, u124, u125, u126, u127, u128, u129, u130, u131, u132, u133, u134, u135, u136, u137, u138, u139, u140, u141, u142, u143, u144, u145, u146, u147, u148, u149, u150, u151, u152, u153, u154, u155, u156, u157, u158, u159, u160, u161, u162, u163, u164, u165, u166, u167, u168, u169, u170, u171, u172, u173, u174, u175, u176, u177, u178, u179, u180, u181, u182, u183, u184, u185, u186, u187, u188, u189, u190, u191, u192, u193, u194, u195, u196, u197, u198, u199, u200, u201, u202, u203, u204, u205, u206, u207, u208, u209, u210, u211, u212, u213, u214, u215, u216, u217, u218, u219, u220, u221, u222, u223, u224, u225, u226, u227, u228, u229, u230, u231, u232, u233, x234, x235, x236, x237, x238, x239, x240, x241, x242, x243, x244, x245, x246, x247, x248, x249, u250, u251, u252, u253, u254, u255, u256, u257, u258, u259, u260, u261, u262, u263, u264, u265, u266, u267, u268], []⟩ w') :
    (blkS 10).wp Try.prog Q0 ⟨#[u0, u1, u2, u3, .slice (some ⟨gv, 0, none⟩) 8 8, u5, u6, u7, u8, u9, u10, u11, .slice (some ⟨g1, 0, none⟩) 8 cap1, u13, u14, u15, u16, u17, u18, .int .i64 0, u20, u21, u22, u23, u24, u25, u26, u27, u28, u29, u30, u31, u32, u33, u34, u35, u36, u37, u38, u39, u40, u41, u42, u43, u44, u45, u46, u47, u48, u49, u50, u51, u52, u53, u54, u55, u56, u57, u58, u59, u60, u61, u62, u63, u64, u65, u66, u67, u68, u69, u70, u71, u72, u73, u74, u75, u76, u77, u78, u79, u80, u81, u82, u83, u84, u85, u86, u87, u88, u89, u90, u91, u92, u93, u94, u95, u96, u97, u98, u99, u100, u101, u102, u103, u104, u105, u106, u107, u108, u109, u110, u111, u112, u113, u114, u115, u116, u117, u118, u119, u120, u121, u122, u123, u124, u125, u126, u127, u128, u129, u130, u131, u132, u133, u134, u135, u136, u137, u138, u139, u140, u141, u142, u143, u144, u145, u146, u147, u148, u149, u150, u151, u152, u153, u154, u155, u156, u157, u158, u159, u160, u161, u162, u163, u164, u165, u166, u167, u168, u169, u170, u171, u172, u173, u174, u175, u176, u177, u178, u179, u180, u181, u182, u183, u184, u185, u186, u187, u188, u189, u190, u191, u192, u193, u194, u195, u196, u197, u198, u199, u200, u201, u202, u203, u204, u205, u206, u207, u208, u209, u210, u211, u212, u213, u214, u215, u216, u217, u218, u219, u220, u221, u222, u223, u224, u225, u226, u227, u228, u229, u230, u231, u232, u233, u234, u235, u236, u237, u238, u239, u240, u241, u242, u243, u244, u245, u246, u247, u248, u249, u250, u251, u252, u253, u254, u255, u256, u257, u258, u259, u260, u261, u262, u263, u264, u265, u266, u267, u268], []⟩ w := by
  have HX := Lib.hid hexit
  clear hexit
  conv => arg 2; whnf
  have HA := Lib.hid hA
  have HG1 := Lib.hid hg1
  have HR0 := Lib.hid hrs
  have HW0 := Lib.hid hys
  clear hA hg1 hrs hys
  go_wp2_with fail
  go_loopw [19] (fun i wi => ∃ k : Nat, i = .int .i64 k ∧ k ≤ 8 ∧ B ≤ wi.heap.size ∧ RS W0 B gb gv gk gw D (mixL U V k) X wi ∧ Dig32 wi g1 (vL V)) (fun i _ => 8 - (intOf i).toNat)
  case atStart => exact ⟨0, rfl, by omega, hB, HR0.out, HW0.out⟩
  case round =>
    clear hB HR0 HW0
    obtain ⟨k, rfl, hk, hwB, hrs, hys⟩ := hrel
    have HR := Lib.hid hrs
    have HW := Lib.hid hys
    by_cases hlt : k < 8
    · obtain ⟨x, y, h1, h2, h3⟩ := mixL_at U V k hlt
      have c1 := hrs.cellV k x h1
      have f1 := hrs.frozV k
      have c2 := hys k y h2
      have HS := Lib.hid h3
      obtain ⟨z, hz⟩ : ∃ z : Nat, (x + y) % 4294967296 = z := ⟨_, rfl⟩
      have hzi : ((x : Int) + (y : Int)) % 4294967296 = (z : Int) := by omega
      have HZ := Lib.hid hz
      have hk0 : (0 : Int) ≤ (k : Int) := by omega
      have hk8 : (k : Int) < 8 := by omega
      clear hrs hys h1 h2 h3 hz
      go_wp2_with fail
      refine QT.wp_region_drew_tail 12 (by kernel_rfl) (by kernel_rfl) ?_
      simp only [List.take_succ_cons, List.take_zero, List.drop_succ_cons, List.drop_zero]
      repeat (go_big_quiet_step (fail))
      refine wpQuiet_nil ?_
      intro _ hw'
      obtain ⟨nq, hw''⟩ := hw'
      subst hw''
      go_wp2_with fail
      go_roundw
      case rel =>
        refine ⟨k + 1, by go_num, by omega, by simpa using hwB, ?_, fun i x hx => (cell_setCell_far _ _ _ _ HG1.out.symm).trans (HW.out i x hx)⟩
        have h := (HR.out.drewN nq).setV HA.out k z
        rw [← HZ.out, HS.out] at h
        rw [← HZ.out]
        exact h
      case measure => simp [intOf]; omega
    · obtain rfl : k = 8 := by omega
      clear hrs hys
      go_wp2_with fail
      exact HX.out _ _ _ _ _ _ _ _ _ _ _ _ _ _ _ _ _ _ ⟨HR.out, hwB⟩

end Go.Proofs.Ytckpgnncmmjnnaa.Sha
