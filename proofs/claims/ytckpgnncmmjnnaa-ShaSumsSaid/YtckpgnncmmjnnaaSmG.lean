/- The document's own Sum: the words as bytes. -/
import Derived.Test.YtckpgnncmmjnnaaSmA
namespace Go.Proofs.Ytckpgnncmmjnnaa.Sha
open Go.RowKit

set_option maxRecDepth 100000 in
set_option maxHeartbeats 3200000 in
theorem sum_bytes {u0 u1 u2 u3 u5 u6 u7 u8 u9 u10 u11 u12 u13 u14 u15 u16 u17 u18 u19 u22 u23 u24 u25 u26 u27 u28 u29 u30 u31 u32 u33 u34 u35 u36 u37 u38 u39 u40 u41 u42 u43 u44 u45 u46 u47 u48 u49 u50 u51 u52 u53 u54 u55 u56 u57 u58 u59 u60 u61 u62 u63 u64 u65 u66 u67 u68 u69 u70 u71 u72 u73 u74 u75 u76 u77 u78 u79 u80 u81 u82 u83 u84 u85 u86 u87 u88 u89 u90 u91 u92 u93 u94 u95 u96 u97 u98 u99 u100 u101 u102 u103 u104 u105 u106 u107 u108 u109 u110 u111 u112 u113 u114 u115 u116 u117 u118 u119 u120 u121 u122 u123 u124 u125 u126 u127 u128 u129 u130 u131 u132 u133 u134 u135 u136 u137 u138 u139 u140 u141 u142 u143 u144 u145 u146 u147 u148 u149 u150 u151 u152 u153 u154 u155 u156 u157 u158 u159 u160 u161 u162 u163 u164 u165 u166 u167 u168 u169 u170 u171 u172 u173 u174 u175 u176 u177 u178 u179 u180 u181 u182 u183 u184 u185 u186 u187 u188 u189 u190 u191 u192 u193 u194 u195 u196 u197 u198 u199 u200 u201 u202 u203 u204 u205 u206 u207 u208 u209 u210 u211 u212 u213 u214 u215 u216 u217 u218 u219 u220 u221 u222 u223 u224 u225 u226 u227 u228 u229 u230 u231 u232 u233 u234 u235 u236 u237 u238 u239 u240 u241 u242 u243 u244 u245 u246 u247 u248 u249 u250 u251 u252 u253 u254 u255 u256 u257 u258 u259 u260 u261 u262 u263 u264 u265 u266 u267 u268 : Value} {w W0 : World} {B gv go : Nat} {v : EightW} (hv : LowE v) (hB : B ≤ w.heap.size) (hbel : Below B W0 w) (hne : go ≠ gv) (hgo : B ≤ go) (hgv : w.heap[gv]? = some (.cells (vals32 (vL v)).toArray 43 (0, 0))) (hout : w.heap[go]? = some (.cells (row8 [] 32) 24 (0, 0))) (Q0 : Exit → Act → World → Prop)
    (hexit : ∀ (w' : World) (x21 x251 x252 x253 x254 x255 x256 x257 x258 x259 x260 x261 x262 x263 x264 x265 x266 x267 : Value), w'.heap[go]? = some (.cells (valsB (hashB v)).toArray 24 (0, 0)) ∧ Below B W0 w' ∧ B ≤ w'.heap.size → Q0 .normal ⟨#[u0, u1, u2, u3, .slice (some ⟨gv, 0, none⟩) 8 8, u5, u6, u7, u8, u9, u10, u11, u12, u13, u14, u15, u16, u17, u18, u19, .pointer (some ⟨go, 0, none⟩), x21, u22, u23, u24, u25, u26, u27, u28, u29, u30, u31, u32, u33, u34, u35, u36, u37, u38, u39, u40, u41, u42, u43, u44, u45, u46, u47, u48, u49, u50, u51, u52, u53, u54, u55, u56, u57, u58, u59, u60, u61, u62, u63, u64, u65, u66, u67, u68, u69, u70, u71, u72, u73, u74, u75, u76, u77, u78, u79, u80, u81, u82, u83, u84, u85, u86, u87, u88, u89, u90, u91, u92, u93, u94, u95, u96, u97, u98, u99, u100, u101, u102, u103, u104, u105, u106, u107, u108, u109, u110, u111, u112, u113, u114, u115, u116, u117, u118, u119, u120, u121, u122, u123, u124, u125, u126, u127, u128, u129, u130, u131, u132, u133, u134, u135, u136, u137, u138, u139, u140, u141, u142, u143, u144, u145, u146, u147, u148, u149, u150, u151, u152, u153, u154, u155, u156, u157, u158, u159, u160, u161, u162, u163, u164, u165, u166, u167, u168, u169, u170, u171, u172, u173, u174, u175, u176, u177, u178, u179, u180, u181, u182, u183, u184, u185, u186, u187, u188, u189, u190, u191, u192, u193, u194, u195, u196, u197, u198, u199, u200, u201, u202, u203, u204, u205, u206, u207, u208, u209, u210, u211, u212, u213, u214, u215, u216, u217, u218, u219, u220, u221, u222, u223, u224, u225, u226, u227, u228, u229, u230, u231, u232, u233, u234, u235, u236, u237, u238, u239, u240, u241, u242, u243, u244, u245, u246, u247, u248, u249, u250, x251, x252, x253, x254, x255, x256, x257, x258, x259, x260, x261, x262, x263, x264, x265, x266, x267, u268], []⟩ w') :
    (blkS 12).wp Try.prog Q0 ⟨#[u0, u1, u2, u3, .slice (some ⟨gv, 0, none⟩) 8 8, u5, u6, u7, u8, u9, u10, u11, u12, u13, u14, u15, u16, u17, u18, u19, .pointer (some ⟨go, 0, none⟩), .int .i64 0, u22, u23, u24, u25, u26, u27, u28, u29, u30, u31, u32, u33, u34, u35, u36, u37, u38, u39, u40, u41, u42, u43, u44, u45, u46, u47, u48, u49, u50, u51, u52, u53, u54, u55, u56, u57, u58, u59, u60, u61, u62, u63, u64, u65, u66, u67, u68, u69, u70, u71, u72, u73, u74, u75, u76, u77, u78, u79, u80, u81, u82, u83, u84, u85, u86, u87, u88, u89, u90, u91, u92, u93, u94, u95, u96, u97, u98, u99, u100, u101, u102, u103, u104, u105, u106, u107, u108, u109, u110, u111, u112, u113, u114, u115, u116, u117, u118, u119, u120, u121, u122, u123, u124, u125, u126, u127, u128, u129, u130, u131, u132, u133, u134, u135, u136, u137, u138, u139, u140, u141, u142, u143, u144, u145, u146, u147, u148, u149, u150, u151, u152, u153, u154, u155, u156, u157, u158, u159, u160, u161, u162, u163, u164, u165, u166, u167, u168, u169, u170, u171, u172, u173, u174, u175, u176, u177, u178, u179, u180, u181, u182, u183, u184, u185, u186, u187, u188, u189, u190, u191, u192, u193, u194, u195, u196, u197, u198, u199, u200, u201, u202, u203, u204, u205, u206, u207, u208, u209, u210, u211, u212, u213, u214, u215, u216, u217, u218, u219, u220, u221, u222, u223, u224, u225, u226, u227, u228, u229, u230, u231, u232, u233, u234, u235, u236, u237, u238, u239, u240, u241, u242, u243, u244, u245, u246, u247, u248, u249, u250, u251, u252, u253, u254, u255, u256, u257, u258, u259, u260, u261, u262, u263, u264, u265, u266, u267, u268], []⟩ w := by
  have HX := Lib.hid hexit
  clear hexit
  conv => arg 2; whnf
  have HAT := Lib.hid (hashB_at v hv)
  have HHL := Lib.hid (hashB_length v)
  obtain ⟨A, hA⟩ : ∃ A, rowE v = A := ⟨_, rfl⟩
  rw [hA] at HAT
  have HC := Lib.hid (show ∀ (i : Nat) (x : Nat), A[i]? = some (.int .u32 (x : Int)) → w.cell? ⟨gv, i, none⟩ = some (.int .u32 (x : Int)) from fun i x hx => by
    rw [cell_of_row w gv i _ _ _ hgv, ← rowE_vals, hA]
    exact hx)
  obtain ⟨H, hH⟩ : ∃ H, hashB v = H := ⟨_, rfl⟩
  rw [hH] at HAT HHL
  have hfin : ∀ (w' : World) (x21 x251 x252 x253 x254 x255 x256 x257 x258 x259 x260 x261 x262 x263 x264 x265 x266 x267 : Value), w'.heap[go]? = some (.cells (valsB H).toArray 24 (0, 0)) ∧ Below B W0 w' ∧ B ≤ w'.heap.size → Q0 .normal ⟨#[u0, u1, u2, u3, .slice (some ⟨gv, 0, none⟩) 8 8, u5, u6, u7, u8, u9, u10, u11, u12, u13, u14, u15, u16, u17, u18, u19, .pointer (some ⟨go, 0, none⟩), x21, u22, u23, u24, u25, u26, u27, u28, u29, u30, u31, u32, u33, u34, u35, u36, u37, u38, u39, u40, u41, u42, u43, u44, u45, u46, u47, u48, u49, u50, u51, u52, u53, u54, u55, u56, u57, u58, u59, u60, u61, u62, u63, u64, u65, u66, u67, u68, u69, u70, u71, u72, u73, u74, u75, u76, u77, u78, u79, u80, u81, u82, u83, u84, u85, u86, u87, u88, u89, u90, u91, u92, u93, u94, u95, u96, u97, u98, u99, u100, u101, u102, u103, u104, u105, u106, u107, u108, u109, u110, u111, u112, u113, u114, u115, u116, u117, u118, u119, u120, u121, u122, u123, u124, u125, u126, u127, u128, u129, u130, u131, u132, u133, u134, u135, u136, u137, u138, u139, u140, u141, u142, u143, u144, u145, u146, u147, u148, u149, u150, u151, u152, u153, u154, u155, u156, u157, u158, u159, u160, u161, u162, u163, u164, u165, u166, u167, u168, u169, u170, u171, u172, u173, u174, u175, u176, u177, u178, u179, u180, u181, u182, u183, u184, u185, u186, u187, u188, u189, u190, u191, u192, u193, u194, u195, u196, u197, u198, u199, u200, u201, u202, u203, u204, u205, u206, u207, u208, u209, u210, u211, u212, u213, u214, u215, u216, u217, u218, u219, u220, u221, u222, u223, u224, u225, u226, u227, u228, u229, u230, u231, u232, u233, u234, u235, u236, u237, u238, u239, u240, u241, u242, u243, u244, u245, u246, u247, u248, u249, u250, x251, x252, x253, x254, x255, x256, x257, x258, x259, x260, x261, x262, x263, x264, x265, x266, x267, u268], []⟩ w' := by
    rw [← hH]
    exact HX.out
  have HX := Lib.hid hfin
  have HBg := Lib.hid (show B ≤ w.heap.size ∧ Below B W0 w ∧ go ≠ gv ∧ B ≤ go from ⟨hB, hbel, hne, hgo⟩)
  have HGO := Lib.hid hout
  clear hA hH hfin hgv hbel hne hgo hout hB
  go_wp2_with fail
  go_loopw [21] (fun i wr => ∃ k : Nat, k ≤ 32 ∧ i = .int .i64 k ∧ wr.heap[go]? = some (.cells (row8 (H.take k) 32) 24 (0, 0)) ∧ Below B W0 wr ∧ B ≤ wr.heap.size ∧ (∀ (i : Nat) (x : Nat), A[i]? = some (.int .u32 (x : Int)) → wr.cell? ⟨gv, i, none⟩ = some (.int .u32 (x : Int)))) (fun i _ => 32 - (intOf i).toNat)
  case atStart => exact ⟨0, by omega, rfl, HGO.out, HBg.out.2.1, HBg.out.1, HC.out⟩
  case round =>
    clear HC HGO
    obtain ⟨k, hk, rfl, hrow, hbel, hB, hcA⟩ := hrel
    have HROW := Lib.hid hrow
    have HBEL := Lib.hid hbel
    have HCA := Lib.hid hcA
    by_cases hlt : k < 32
    · obtain ⟨x, hAx, hx, hHx⟩ := HAT.out k hlt
      have HL := HHL.out
      have HS := Lib.hid (show (row8 (H.take k) 32).setIfInBounds k (.int .u8 ((UInt8.ofNat (x / 2 ^ (24 - 8 * (k % 4)))).toNat : Int)) = row8 (H.take (k + 1)) 32 by
        rw [row8_set _ 32 k _ (by rw [List.length_take]; omega) (by omega), List.take_add_one, hHx]
        rfl)
      have hz := row8_size (H.take k) 32 (by rw [List.length_take]; omega)
      obtain ⟨v1, hv1⟩ : ∃ v, (row8 (H.take k) 32)[k]? = some v := ⟨(row8 (H.take k) 32)[k]'(by omega), Array.getElem?_eq_getElem _⟩
      have cgo := (cell_of_row wr go k _ _ _ hrow).trans hv1
      have fgo := frozen_of_row wr go k _ _ hrow
      have hk0 : (0 : Int) ≤ (k : Int) := by omega
      have hk32 : (k : Int) < 32 := by omega
      obtain ⟨j, hj⟩ : ∃ j, k / 4 = j := ⟨_, rfl⟩
      have hq : (k : Int) / 4 = (j : Int) := by omega
      have hj8 : (j : Int) < 8 := by omega
      have hj0 : (0 : Int) ≤ (j : Int) := by omega
      rw [hj] at hAx
      have cA := hcA j x hAx
      have hr : k % 4 = 0 ∨ k % 4 = 1 ∨ k % 4 = 2 ∨ k % 4 = 3 := by omega
      clear hHx HL hz hj hAx hv1 hrow hbel hcA
      rcases hr with r | r | r | r
      all_goals
        have hm : (k : Int) % 4 = ((k % 4 : Nat) : Int) := by omega
        rw [r] at hm HS
        clear r
        simp only [UInt8.toNat_ofNat'] at HS
        go_wp2_with fail
        go_roundw
        case rel =>
          refine ⟨k + 1, by omega, by go_num, ?_, HBEL.out.setCell (p := ⟨go, k, none⟩) HBg.out.2.2.2 _, by simpa using hB, fun i x hx => (cell_setCell_far _ _ _ _ HBg.out.2.2.1.symm).trans (HCA.out i x hx)⟩
          rw [heap_setCell_same wr go k _ _ _ HROW.out, ← HS.out]
          simp [show (x : Int) / 16777216 % 256 = (x : Int) / 16777216 by omega]
        case measure => simp [intOf]; omega
    · have hkk : k = 32 := by omega
      subst hkk
      clear hrow hbel hcA
      go_wp2_with fail
      refine HX.out _ _ _ _ _ _ _ _ _ _ _ _ _ _ _ _ _ _ _ ⟨?_, HBEL.out, hB⟩
      have h := HROW.out
      rw [List.take_of_length_le (Nat.le_of_eq HHL.out), row8_full H 32 HHL.out] at h
      exact h

end Go.Proofs.Ytckpgnncmmjnnaa.Sha
