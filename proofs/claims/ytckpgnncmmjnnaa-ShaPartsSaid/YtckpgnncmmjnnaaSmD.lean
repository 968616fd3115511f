/- The document's own Sum: a round. -/
import Derived.Test.YtckpgnncmmjnnaaSmB
import Derived.Deep.CutBlock
namespace Go.Proofs.Ytckpgnncmmjnnaa.Sha
open Go.RowKit

set_option maxRecDepth 100000 in
set_option maxHeartbeats 3200000 in
theorem sum_round {u0 u1 u2 u3 u7 u8 u9 u10 u11 u12 u14 u15 u16 u17 u18 u19 u20 u21 u22 u23 u24 u25 u26 u27 u28 u29 u30 u31 u32 u33 u34 u35 u36 u37 u38 u39 u40 u41 u42 u43 u44 u45 u46 u47 u48 u49 u50 u51 u52 u53 u54 u55 u56 u57 u58 u59 u60 u61 u62 u63 u64 u65 u66 u67 u68 u69 u70 u71 u72 u73 u74 u75 u76 u77 u78 u79 u80 u81 u82 u83 u84 u85 u86 u87 u88 u89 u90 u91 u92 u93 u94 u95 u96 u97 u98 u99 u100 u101 u102 u103 u104 u105 u106 u107 u108 u109 u110 u111 u112 u113 u114 u115 u116 u117 u118 u119 u120 u121 u122 u123 u124 u125 u126 u127 u128 u129 u130 u131 u132 u133 u134 u135 u136 u137 u138 u139 u140 u141 u142 u143 u144 u145 u146 u147 u148 u149 u150 u151 u152 u153 u154 u155 u156 u157 u158 u159 u160 u161 u162 u163 u164 u165 u166 u167 u168 u169 u170 u171 u172 u173 u174 u175 u176 u177 u178 u179 u180 u181 u182 u183 u184 u185 u186 u187 u188 u189 u190 u191 u192 u193 u194 u195 u196 u197 u198 u199 u200 u201 u202 u203 u204 u205 u206 u207 u208 u209 u210 u211 u212 u213 u214 u215 u216 u217 u218 u219 u220 u221 u222 u223 u224 u225 u226 u227 u228 u229 u230 u231 u232 u233 u234 u235 u236 u237 u238 u239 u240 u241 u242 u243 u244 u245 u246 u247 u248 u249 u250 u251 u252 u253 u254 u255 u256 u257 u258 u259 u260 u261 u262 u263 u264 u265 u266 u267 u268 : Value} {w W0 : World} {B gb gv gk gw g1 t capk kk ww : Nat} {D : List UInt8} {U : EightW} {WS ys : List Nat} (hA : Apart gb gv gk gw) (hg1 : gv ≠ g1) (hB : B ≤ w.heap.size) (ht64 : t < 64) (gkk : kL[t]? = some kk) (gww : WS[t]? = some ww) (hlow : LowE U) (hrs : RS W0 B gb gv gk gw D (vL U) WS w) (hys : Dig32 w g1 ys) (Q0 : Exit → Act → World → Prop)
    (hexit : ∀ (w' : World) (x14 x15 x16 x17 x18 x141 x142 x143 x144 x145 x146 x147 x148 x149 x150 x151 x152 x153 x154 x155 x156 x157 x158 x159 x160 x161 x162 x163 x164 x165 x166 x167 x168 x169 x170 x171 x172 x173 x174 x175 x176 x177 x178 x179 x180 x181 x182 x183 x184 x185 x186 x187 x188 x189 x190 x191 x192 x193 x194 x195 x196 x197 x198 x199 x200 x201 x202 x203 x204 x205 x206 x207 x208 x209 x210 x211 x212 x213 x214 x215 x216 x217 x218 x219 x220 x221 x222 x223 x224 x225 x226 x227 x228 x229 x230 x231 x232 x233 : Value), RS W0 B gb gv gk gw D (vL (step U kk ww)) WS w' ∧ Dig32 w' g1 ys ∧ B ≤ w'.heap.size → Q0 .normal ⟨#[u0, u1, u2, u3, .slice (some ⟨gv, 0, none⟩) 8 8, .slice (some ⟨gk, 0, none⟩) 64 capk, .slice (some ⟨gw, 0, none⟩) 64 64, u7, u8, u9, u10, u11, u12, .int .i64 (t : Int), x14, x15, x16, x17, x18, u19, u20, u21, u22, u23, u24, u25, u26, u27, u28, u29, u30, u31, u32, u33, u34, u35, u36, u37, u38, u39, u40, u41, u42, u43, u44, u45, u46, u47, u48, u49, u50, u51, u52, u53, u54, u55, u56, u57, u58, u59, u60, u61, u62, u63, u64, u65, u66, u67, u68, u69, u70, u71, u72, u73, u74, u75, u76, u77, u78, u79, u80, u81, u82, u83, u84, u85, u86, u87, u88, u89, u90, u91, u92, u93, u94, u95, u96, u97, u98, u99, u100, u101, u102, u103, u104, u105, u106, u107, u108, u109, u110, u111, u112, u113, u114, u115, u116, u117, u118, u119, u120, u121, u122, u123, u124, u125, u126, u127, u128, u129, u130, u131, u132, u133, u134, u135, u136, u137, u138, u139, u140, x141, x142, x143, x144, x145, x146, x147, x148, x149, x150, x151, x152, x153, x154, x155, x156, x157, x158, x159, x160, x161, x162, x163, x164, x165, x166, x167, x168, x169, x170, x171, x172, x173, x174, x175, x176, x177, x178, x179, x180, x181, x182, x183, x184, x185, x186, x187, x188, x189, x190, x191, x192, x193, x194, x195, x196, x197, x198, x199, x200, x201, x202, x203, x204, x205, x206, x207, x208, x209, x210, x211, x212, x213, x214, x215, x216, x217, x218, x219, x220, x221, x222, x223, x224, x225, x226, x227, x228, x229, x230, x231, x232, x233, u234, u235, u236, u237, u238, u239, u240, u241, u242, u243, u244, u245, u246, u247, u248, u249, u250, u251, u252, u253, u254, u255, u256, u257, u258, u259, u260, u261, u262, u263, u264, u265, u266, u267, u268], []⟩ w') :
    (blkS 7).wp Try.prog Q0 ⟨#[u0, u1, u2, u3, .slice (some ⟨gv, 0, none⟩) 8 8, .slice (some ⟨gk, 0, none⟩) 64 capk, .slice (some ⟨gw, 0, none⟩) 64 64, u7, u8, u9, u10, u11, u12, .int .i64 (t : Int), u14, u15, u16, u17, u18, u19, u20, u21, u22, u23, u24, u25, u26, u27, u28, u29, u30, u31, u32, u33, u34, u35, u36, u37, u38, u39, u40, u41, u42, u43, u44, u45, u46, u47, u48, u49, u50, u51, u52, u53, u54, u55, u56, u57, u58, u59, u60, u61, u62, u63, u64, u65, u66, u67, u68, u69, u70, u71, u72, u73, u74, u75, u76, u77, u78, u79, u80, u81, u82, u83, u84, u85, u86, u87, u88, u89, u90, u91, u92, u93, u94, u95, u96, u97, u98, u99, u100, u101, u102, u103, u104, u105, u106, u107, u108, u109, u110, u111, u112, u113, u114, u115, u116, u117, u118, u119, u120, u121, u122, u123, u124, u125, u126, u127, u128, u129, u130, u131, u132, u133, u134, u135, u136, u137, u138, u139, u140, u141, u142, u143, u144, u145, u146, u147, u148, u149, u150, u151, u152, u153, u154, u155, u156, u157, u158, u159, u160, u161, u162, u163, u164, u165, u166, u167, u168, u169, u170, u171, u172, u173, u174, u175, u176, u177, u178, u179, u180, u181, u182, u183, u184, u185, u186, u187, u188, u189, u190, u191, u192, u193, u194, u195, u196, u197, u198, u199, u200, u201, u202, u203, u204, u205, u206, u207, u208, u209, u210, u211, u212, u213, u214, u215, u216, u217, u218, u219, u220, u221, u222, u223, u224, u225, u226, u227, u228, u229, u230, u231, u232, u233, u234, u235, u236, u237, u238, u239, u240, u241, u242, u243, u244, u245, u246, u247, u248, u249, u250, u251, u252, u253, u254, u255, u256, u257, u258, u259, u260, u261, u262, u263, u264, u265, u266, u267, u268], []⟩ w := by
  have HX := Lib.hid hexit
  clear hexit
  conv => arg 2; whnf
  obtain ⟨va, vb, vc, vd, ve, vf, vg, vh⟩ := U
  have HLOW := Lib.hid hlow
  obtain ⟨la, lb, lc, ld, le, lf, lg, lh⟩ := hlow
  simp only at la lb lc ld le lf lg lh
  have c0 := hrs.cellV 0 va rfl
  have c1 := hrs.cellV 1 vb rfl
  have c2 := hrs.cellV 2 vc rfl
  have c4 := hrs.cellV 4 ve rfl
  have c5 := hrs.cellV 5 vf rfl
  have c6 := hrs.cellV 6 vg rfl
  have c7 := hrs.cellV 7 vh rfl
  have ck := hrs.k t kk gkk
  have cw := hrs.cellX t ww gww
  have T1 := Lib.hid (fun w k => turn_quiet ve 6 6 w k rfl le (by omega))
  have T2 := Lib.hid (fun w k => turn_quiet ve 11 11 w k rfl le (by omega))
  have T3 := Lib.hid (fun w k => turn_quiet ve 25 25 w k rfl le (by omega))
  have T4 := Lib.hid (fun w k => turn_quiet va 2 2 w k rfl la (by omega))
  have T5 := Lib.hid (fun w k => turn_quiet va 13 13 w k rfl la (by omega))
  have T6 := Lib.hid (fun w k => turn_quiet va 22 22 w k rfl la (by omega))
  have ht0 : (0 : Int) ≤ (t : Int) := by omega
  have hti4 : (t : Int) < 64 := by omega
  have HR4 := Lib.hid hrs
  have HW4 := Lib.hid hys
  have HG1 := Lib.hid hg1
  have HA := Lib.hid hA
  clear hrs hys gkk gww hg1 hA
  go_upto_region 26 with fail
  go_quiet ((go_at_call 36; first | with_reducible exact T1.out _ _ | with_reducible exact T2.out _ _ | with_reducible exact T3.out _ _))
  have HR5 := Lib.hid (HR4.out.drewN nq)
  have HW5 := Lib.hid (show Dig32 (w.drewN nq) g1 ys from fun i x hx => HW4.out i x hx)
  have hwB5 : B ≤ (w.drewN nq).heap.size := hB
  rw [mix_x ve vf vg vh kk ww le lf lg]
  obtain ⟨x, hx⟩ : ∃ x, (vh + S1 ve + ch ve vf vg + kk + ww) % 4294967296 = x := ⟨_, rfl⟩
  rw [hx]
  have HX' := Lib.hid hx
  clear hx c0 c1 c2 c4 c5 c6 c7 ck cw HR4 HW4 hB
  generalize w.drewN nq = w5 at HR5 HW5 hwB5 ⊢
  go_upto_region 27 with fail
  have hR5 := HR5.out
  have c0 := hR5.cellV 0 va rfl
  have c1 := hR5.cellV 1 vb rfl
  have c2 := hR5.cellV 2 vc rfl
  go_quiet ((go_at_call 36; first | with_reducible exact T4.out _ _ | with_reducible exact T5.out _ _ | with_reducible exact T6.out _ _))
  rw [mix_y va vb vc la lb lc]
  obtain ⟨y, hy⟩ : ∃ y, (S0 va + maj va vb vc) % 4294967296 = y := ⟨_, rfl⟩
  rw [hy]
  have HY := Lib.hid hy
  have HR6 := Lib.hid (HR5.out.drewN nq)
  have HW6 := Lib.hid (show Dig32 (w5.drewN nq) g1 ys from fun i x hx => HW5.out i x hx)
  have hwB6 : B ≤ (w5.drewN nq).heap.size := hwB5
  clear hy hR5 c0 c1 c2 HR5 HW5 hwB5 T1 T2 T3 T4 T5 T6
  generalize w5.drewN nq = w6 at HR6 HW6 hwB6 ⊢
  go_upto_block 8 with fail
  refine sum_shift (V := ⟨va, vb, vc, vd, ve, vf, vg, vh⟩) HA.out HG1.out hwB6 HR6.out HW6.out _ ?_
  intro w7 x18 x210 x211 x212 x213 x214 x215 x216 x217 x218 x219 x220 x221
  rintro ⟨hrs8, hys8, hwB8⟩
  have c4 := hrs8.cellV 4 vd rfl
  have f4 := hrs8.frozV 4
  have c0 := hrs8.cellV 0 va rfl
  have f0 := hrs8.frozV 0
  obtain ⟨e', he'⟩ : ∃ e : Nat, (vd + x) % 4294967296 = e := ⟨_, rfl⟩
  obtain ⟨a', ha'⟩ : ∃ a : Nat, (x + y) % 4294967296 = a := ⟨_, rfl⟩
  have ie : ((vd : Int) + (x : Int)) % 4294967296 = (e' : Int) := by omega
  have ia : ((x : Int) + (y : Int)) % 4294967296 = (a' : Int) := by omega
  have HV := Lib.hid (show ((shv (vL ⟨va, vb, vc, vd, ve, vf, vg, vh⟩) 0).set 4 e').set 0 a' = vL (step ⟨va, vb, vc, vd, ve, vf, vg, vh⟩ kk ww) by
    have h1 := HX'.out
    have h2 := HY.out
    have q1 : a' = (vh + S1 ve + ch ve vf vg + kk + ww + (S0 va + maj va vb vc)) % 4294967296 := by omega
    have q2 : e' = (vd + (vh + S1 ve + ch ve vf vg + kk + ww)) % 4294967296 := by omega
    rw [q1, q2]
    rfl)
  have HR8 := Lib.hid hrs8
  have HW8 := Lib.hid hys8
  clear he' ha' hrs8 hys8
  go_wp2_with fail
  refine HX.out _ _ _ _ _ _ _ _ _ _ _ _ _ _ _ _ _ _ _ _ _ _ _ _ _ _ _ _ _ _ _ _ _ _ _ _ _ _ _ _ _ _ _ _ _ _ _ _ _ _ _ _ _ _ _ _ _ _ _ _ _ _ _ _ _ _ _ _ _ _ _ _ _ _ _ _ _ _ _ _ _ _ _ _ _ _ _ _ _ _ _ _ _ _ _ _ _ _ _ ⟨?_, ?_, by simpa using hwB8⟩
  · have h := (HR8.out.setV HA.out 4 e').setV HA.out 0 a'
    rw [HV.out] at h
    exact h
  · exact fun i x hx => (cell_setCell_far _ _ _ _ HG1.out.symm).trans ((cell_setCell_far _ _ _ _ HG1.out.symm).trans (HW8.out i x hx))

end Go.Proofs.Ytckpgnncmmjnnaa.Sha
