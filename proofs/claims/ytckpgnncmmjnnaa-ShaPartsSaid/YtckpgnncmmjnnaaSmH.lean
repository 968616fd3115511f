/- The document's own Sum: all blocks. -/
import Derived.Test.YtckpgnncmmjnnaaSmC
import Derived.Test.YtckpgnncmmjnnaaSmE
import Derived.Test.YtckpgnncmmjnnaaSmF
import Derived.Test.YtckpgnncmmjnnaaShaTd
namespace Go.Proofs.Ytckpgnncmmjnnaa.Sha
open Go.RowKit

theorem blk_get (D : List UInt8) (P : List Nat) (hD : D.map UInt8.toNat = P) (m i : Nat) (hi : i < 64) (h : m + 64 ≤ D.length) : ∃ b : UInt8, D[m + i]? = some b ∧ ((P.drop m).take 64).getD i 0 = b.toNat := by
  subst hD
  have hlt : m + i < D.length := by omega
  refine ⟨D[m + i], List.getElem?_eq_getElem hlt, ?_⟩
  simp [hi, List.getElem?_drop, List.getElem?_map, List.getElem?_eq_getElem hlt]

set_option maxRecDepth 100000 in
set_option maxHeartbeats 6400000 in
theorem sum_blocks {u0 u1 u2 u8 u9 u10 u11 u12 u13 u14 u15 u16 u17 u18 u19 u20 u21 u22 u23 u24 u25 u26 u27 u28 u29 u30 u31 u32 u33 u34 u35 u36 u37 u38 u39 u40 u41 u42 u43 u44 u45 u46 u47 u48 u49 u50 u51 u52 u53 u54 u55 u56 u57 u58 u59 u60 u61 u62 u63 u64 u65 u66 u67 u68 u69 u70 u71 u72 u73 u74 u75 u76 u77 u78 u79 u80 u81 u82 u83 u84 u85 u86 u87 u88 u89 u90 u91 u92 u93 u94 u95 u96 u97 u98 u99 u100 u101 u102 u103 u104 u105 u106 u107 u108 u109 u110 u111 u112 u113 u114 u115 u116 u117 u118 u119 u120 u121 u122 u123 u124 u125 u126 u127 u128 u129 u130 u131 u132 u133 u134 u135 u136 u137 u138 u139 u140 u141 u142 u143 u144 u145 u146 u147 u148 u149 u150 u151 u152 u153 u154 u155 u156 u157 u158 u159 u160 u161 u162 u163 u164 u165 u166 u167 u168 u169 u170 u171 u172 u173 u174 u175 u176 u177 u178 u179 u180 u181 u182 u183 u184 u185 u186 u187 u188 u189 u190 u191 u192 u193 u194 u195 u196 u197 u198 u199 u200 u201 u202 u203 u204 u205 u206 u207 u208 u209 u210 u211 u212 u213 u214 u215 u216 u217 u218 u219 u220 u221 u222 u223 u224 u225 u226 u227 u228 u229 u230 u231 u232 u233 u234 u235 u236 u237 u238 u239 u240 u241 u242 u243 u244 u245 u246 u247 u248 u249 u250 u251 u252 u253 u254 u255 u256 u257 u258 u259 u260 u261 u262 u263 u264 u265 u266 u267 u268 : Value} {w W0 : World} {B g6 gv gk gw N cap6 capk : Nat} {D : List UInt8} {P X : List Nat} {V0 : EightW} (hA : Apart g6 gv gk gw) (hB : B ≤ w.heap.size) (hN : N ≤ 2000000000) (hN64 : N % 64 = 0) (hND : N = D.length) (hpad : D.map UInt8.toNat = P) (hlow : LowE V0) (hrs : RS W0 B g6 gv gk gw D (vL V0) X w) (Q0 : Exit → Act → World → Prop)
    (hexit : ∀ (w' : World) (x7 x8 x9 x10 x11 x12 x13 x14 x15 x16 x17 x18 x19 x44 x45 x46 x47 x48 x49 x50 x51 x52 x53 x54 x55 x56 x57 x58 x59 x60 x61 x62 x63 x64 x65 x66 x67 x68 x69 x70 x71 x72 x73 x74 x75 x76 x77 x78 x79 x80 x81 x82 x83 x84 x85 x86 x87 x88 x89 x90 x91 x92 x93 x94 x95 x96 x97 x98 x99 x100 x101 x102 x103 x104 x105 x106 x107 x108 x109 x110 x111 x112 x113 x114 x115 x116 x117 x118 x119 x120 x121 x122 x123 x124 x125 x126 x127 x128 x129 x130 x131 x132 x133 x134 x135 x136 x137 x138 x139 x140 x141 x142 x143 x144 x145 x146 x147 x148 x149 x150 x151 x152 x153 x154 x155 x156 x157 x158 x159 x160 x161 x162 x163 x164 x165 x166 x167 x168 x169 x170 x171 x172 x173 x174 x175 x176 x177 x178 x179 x180 x181 x182 x183 x184 x185 x186 x187 x188 x189 x190 x191 x192 x193 x194 x195 x196 x197 x198 x199 x200 x201 x202 x203 x204 x205 x206 x207 x208 x209 x210 x211 x212 x213 x214 x215 x216 x217 x218 x219 x220 x221 x222 x223 x224 x225 x226 x227 x228 x229 x230 x231 x232 x233 x234 x235 x236 x237 x238 x239 x240 x241 x242 x243 x244 x245 x246 x247 x248 x249 : Value), (∃ X' : List Nat, RS W0 B g6 gv gk gw D (vL (blocks (N / 64) V0 P)) X' w' ∧ LowE (blocks (N / 64) V0 P) ∧ B ≤ w'.heap.size) → Q0 .normal ⟨#[u0, u1, u2, .slice (some ⟨g6, 0, none⟩) N cap6, .slice (some ⟨gv, 0, none⟩) 8 8, .slice (some ⟨gk, 0, none⟩) 64 capk, .slice (some ⟨gw, 0, none⟩) 64 64, x7, x8, x9, x10, x11, x12, x13, x14, x15, x16, x17, x18, x19, u20, u21, u22, u23, u24, u25, u26, u27, u28, u29, u30, u31, u32, u33, u34, u35, u36, u37, u38, u39, u40, u41, u42, u43, x44, x45, x46, x47, x48, x49, x50, x51, x52, x53, x54, x55, x56, x57, x58, x59, x60, x61, x62, x63, x64, x65, x66, x67, x68, x69, x70, x71, x72, x73, x74, x75, x76, x77, x78, x79, x80, x81, x82, x83, x84, x85, x86, x87, x88, x89, x90, x91, x92, x93, x94, x95, x96, x97, x98, x99, x100, x101, x102, x103, x104, x105, x106, x107, x108, x109, x110, x111, x112, x113, x114, x115, x116, x117, x118, x119, x120, x121, x122, x123, x124, x125, x126, x127, x128, x129, x130, x131, x132, x133, x134, x135, x136, x137, x138, x139, x140, x141, x142, x143, x144, x145, x146, x147, x148, x149, x150, x151, x152, x153, x154, x155, x156, x157, x158, x159, x160, x161, x162, x163, x164, x165, x166, x167, x168, x169, x170, x171, x172, x173, x174, x175, x176, x177, x178, x179, x180, x181, x182, x183, x184, x185, x186, x187, x188, x189, x190, x191, x192, x193, x194, x195, x196, x197, x198, x199, x200, x201, x202, x203, x204, x205, x206, x207, x208, x209, x210, x211, x212, x213, x214, x215, x216, x217, x218, x219, x220, x221, x222, x223, x224, x225, x226, x227, x228, x229, x230, x231, x232, x233, x234, x235, x236, x237, x238, x239, x240, x241, x242, x243, x244, x245, x246, x247, x248, x249, u250, u251, u252, u253, u254, u255, u256, u257, u258, u259, u260, u261, u262, u263, u264, u265, u266, u267, u268], []⟩ w') :
    (blkS 2).wp Try.prog Q0 ⟨#[u0, u1, u2, .slice (some ⟨g6, 0, none⟩) N cap6, .slice (some ⟨gv, 0, none⟩) 8 8, .slice (some ⟨gk, 0, none⟩) 64 capk, .slice (some ⟨gw, 0, none⟩) 64 64, .int .i64 0, u8, u9, u10, u11, u12, u13, u14, u15, u16, u17, u18, u19, u20, u21, u22, u23, u24, u25, u26, u27, u28, u29, u30, u31, u32, u33, u34, u35, u36, u37, u38, u39, u40, u41, u42, u43, u44, u45, u46, u47, u48, u49, u50, u51, u52, u53, u54, u55, u56, u57, u58, u59, u60, u61, u62, u63, u64, u65, u66, u67, u68, u69, u70, u71, u72, u73, u74, u75, u76, u77, u78, u79, u80, u81, u82, u83, u84, u85, u86, u87, u88, u89, u90, u91, u92, u93, u94, u95, u96, u97, u98, u99, u100, u101, u102, u103, u104, u105, u106, u107, u108, u109, u110, u111, u112, u113, u114, u115, u116, u117, u118, u119, u120, u121, u122, u123, u124, u125, u126, u127, u128, u129, u130, u131, u132, u133, u134, u135, u136, u137, u138, u139, u140, u141, u142, u143, u144, u145, u146, u147, u148, u149, u150, u151, u152, u153, u154, u155, u156, u157, u158, u159, u160, u161, u162, u163, u164, u165, u166, u167, u168, u169, u170, u171, u172, u173, u174, u175, u176, u177, u178, u179, u180, u181, u182, u183, u184, u185, u186, u187, u188, u189, u190, u191, u192, u193, u194, u195, u196, u197, u198, u199, u200, u201, u202, u203, u204, u205, u206, u207, u208, u209, u210, u211, u212, u213, u214, u215, u216, u217, u218, u219, u220, u221, u222, u223, u224, u225, u226, u227, u228, u229, u230, u231, u232, u233, u234, u235, u236, u237, u238, u239, u240, u241, u242, u243, u244, u245, u246, u247, u248, u249, u250, u251, u252, u253, u254, u255, u256, u257, u258, u259, u260, u261, u262, u263, u264, u265, u266, u267, u268], []⟩ w := by
  have HX := Lib.hid hexit
  clear hexit
  conv => arg 2; whnf
  have HA := Lib.hid hA
  have HPAD := Lib.hid hpad
  have HND := Lib.hid hND
  have HRS0 := Lib.hid hrs
  have HL0 := Lib.hid hlow
  have HB0 := Lib.hid hB
  clear hA hpad hND hrs hlow
  conv => arg 4; dsimp only
  go_wp2_with fail
  go_loopw [7] (fun v wr => ∃ (k m : Nat) (V : EightW) (X : List Nat), v = .int .i64 m ∧ m = 64 * k ∧ m ≤ N ∧ V = blocks k V0 P ∧ LowE V ∧ B ≤ wr.heap.size ∧ RS W0 B g6 gv gk gw D (vL V) X wr) (fun i _ => N - (intOf i).toNat)
  case atStart => exact ⟨0, 0, V0, X, rfl, rfl, by omega, rfl, HL0.out, hB, HRS0.out⟩
  case round =>
    clear hB HRS0
    obtain ⟨k, m, V, X, rfl, hmk, hmN, hV, hlow, hwB, hrs⟩ := hrel
    by_cases hlt : m < N
    · have HRS := Lib.hid hrs
      have HV := Lib.hid hV
      have HM := Lib.hid hmk
      have HLOW := Lib.hid hlow
      clear hrs hV hlow
      have hm64 : m + 64 ≤ N := by omega
      clear hmk
      obtain ⟨blk, hblk⟩ : ∃ l, (P.drop m).take 64 = l := ⟨_, rfl⟩
      have hbg : ∀ i, i < 64 → ∃ b : UInt8, D[m + i]? = some b ∧ blk.getD i 0 = b.toNat := fun i hi => by
        rw [← hblk]
        exact blk_get D _ HPAD.out m i hi (by have := HND.out; omega)
      have hbl : blk.length = 64 := by
        rw [← hblk, ← HPAD.out, List.length_take, List.length_drop, List.length_map, ← HND.out]
        omega
      have hb8 : ∀ x ∈ blk, x < 256 := by
        rw [← hblk, ← HPAD.out]
        intro x hx
        obtain ⟨b, _, rfl⟩ := List.mem_map.1 (List.mem_of_mem_drop (List.mem_of_mem_take hx))
        exact b.toNat_lt
      have HBG := Lib.hid hbg
      have HF := Lib.hid (fun t => wsL_first blk hbl t)
      have HNX := Lib.hid (wsL_next blk hbl)
      have HWL := Lib.hid (wsL_length blk hbl)
      have HWLow := Lib.hid (wsL_low blk hb8)
      have HBLK := Lib.hid hblk
      clear hblk hbg hbl hb8
      obtain ⟨WS, hWS⟩ : ∃ l, wsL blk = l := ⟨_, rfl⟩
      rw [hWS] at HF HNX HWL HWLow
      have HWS := Lib.hid hWS
      clear hWS
      go_upto_block 4 with fail
      refine sum_words HA.out hwB HRS.out hm64 hN HBG.out HF.out HNX.out HWL.out HWLow.out _ ?_
      intro w4 x8 x9 x10 x11 x50 x51 x52 x53 x54 x55 x56 x57 x58 x59 x60 x61 x62 x63 x64 x65 x66 x67 x68 x69 x70 x71 x72 x73 x74 x75 x76 x77 x78 x79 x80 x81 x82 x83 x84 x85 x86 x87 x88 x89 x90 x91 x92 x93 x94 x95 x96 x97 x98 x99 x100 x101 x102 x103 x104 x105 x106 x107 x108 x109 x110 x111 x112 x113 x114 x115 x116 x117 x118 x119 x120 x121 x122 x123 x124 x125 x126 x127 x128 x129 x130 x131 x132 x133
      rintro ⟨hrs4, hwB4⟩
      have HRW := Lib.hid hrs4
      clear hrs4
      go_upto_region 20 with fail
      obtain ⟨i0, hi, hz0, hz1, hz2⟩ := info_parts info32
      have hvc : ∀ (j : Nat) (u : Value), (vals32 (vL V))[j]? = some u → (w4.alloc (.cells #[] 43)).cell? ((⟨gv, 0, none⟩ : Addr).add j) = some u := fun j u hj => by
        have h1 := cell_of_row w4 gv j _ _ _ HRW.out.v
        have hlt : gv < w4.heap.size := (Array.getElem?_eq_some_iff.1 HRW.out.v).1
        have h2 := ((Below.refl w4.heap.size w4).alloc (Nat.le_refl _) (.cells #[] 43)).cell (p := ⟨gv, j, none⟩) hlt
        rw [show (⟨gv, 0, none⟩ : Addr).add j = ⟨gv, j, none⟩ by cases j <;> simp [Addr.add], h2, h1]
        simpa using hj
      have hvo : ∀ u ∈ vals32 (vL V), u.oneCell' = true := by
        intro u hu
        simp only [vals32, List.mem_map] at hu
        obtain ⟨x, _, rfl⟩ := hu
        rfl
      have HVC := Lib.hid hvc
      have HVO := Lib.hid hvo
      clear hvc hvo
      go_upto_block 6 with (at_builtin; refine wpList_append_lies _ rfl (.tmp 134) (.tmp 135) 55 rfl w4.heap.size 43 i0 (.int .u32 0) 1 4 Try.underlying55 hi hz0 hz1 hz2 rfl (by decide) _ 0 [] rfl (ownsRow_empty w4 43 w4.heap.size (Nat.le_refl _)) ⟨gv, 0, none⟩ 8 8 (vals32 (vL V)) rfl rfl HVC.out HVO.out (by decide) (by unfold maxLen; omega) (by omega) (by simp) _ rfl ?_; intro g1 cap1 w3 hown1 hgrow1 hat hlt1)
      have hb3 := ((Below.refl w4.heap.size w4).alloc (Nat.le_refl _) (.cells #[] 43)).grown hgrow1 (by simp) (own_base (ownsRow_empty w4 43 w4.heap.size (Nat.le_refl _)))
      have HWAS := Lib.hid (own_cells32 (n := 0 + 8) (xs := vL V) hown1)
      have HR3 := Lib.hid (HRW.out.kept hb3 hwB4)
      have hw3B := Nat.le_trans hwB4 hb3.size
      have HG1 := Lib.hid (show gv ≠ g1 by
        have h1 := own_base hown1 g1 rfl
        have hlt : gv < w4.heap.size := (Array.getElem?_eq_some_iff.1 HRW.out.v).1
        omega)
      clear hown1 hgrow1 hat hb3 hlt1 hi hz0 hz1 hz2
      refine sum_rounds HA.out HG1.out hw3B HWL.out HLOW.out HR3.out HWAS.out _ ?_
      intro w7 x13 x14 x15 x16 x17 x18 x137 x138 x139 x140 x141 x142 x143 x144 x145 x146 x147 x148 x149 x150 x151 x152 x153 x154 x155 x156 x157 x158 x159 x160 x161 x162 x163 x164 x165 x166 x167 x168 x169 x170 x171 x172 x173 x174 x175 x176 x177 x178 x179 x180 x181 x182 x183 x184 x185 x186 x187 x188 x189 x190 x191 x192 x193 x194 x195 x196 x197 x198 x199 x200 x201 x202 x203 x204 x205 x206 x207 x208 x209 x210 x211 x212 x213 x214 x215 x216 x217 x218 x219 x220 x221 x222 x223 x224 x225 x226 x227 x228 x229 x230 x231 x232 x233
      rintro ⟨hrs7, hys7, hwB7, hlow7⟩
      have HR7 := Lib.hid hrs7
      have HY7 := Lib.hid hys7
      have HL7 := Lib.hid hlow7
      clear hrs7 hys7 hlow7
      go_upto_block 10 with fail
      refine sum_adds HA.out HG1.out hwB7 HR7.out HY7.out _ ?_
      intro w8 x19 x234 x235 x236 x237 x238 x239 x240 x241 x242 x243 x244 x245 x246 x247 x248 x249
      rintro ⟨hrs8, hwB8⟩
      have HR8 := Lib.hid hrs8
      clear hrs8
      go_wp2_with fail
      go_roundw
      case rel =>
        refine ⟨k + 1, m + 64, addE V (steps V kL WS), WS, by go_num, ?_, hm64, ?_, addE_low _ _, hwB8, HR8.out⟩
        · have := HM.out
          omega
        · rw [blocks_succ, onBlock_add, ← HV.out, ← HM.out, HBLK.out, ← HWS.out]
          rfl
      case measure => simp [intOf]; omega
    · obtain rfl : m = N := by omega
      have hk : k = m / 64 := by omega
      have HR := Lib.hid hrs
      have HQ := Lib.hid (show V = blocks (m / 64) V0 P by rw [← hk]; exact hV)
      have HLW := Lib.hid hlow
      clear hrs hmk hV hlow hk
      go_wp2_with fail
      refine HX.out _ _ _ _ _ _ _ _ _ _ _ _ _ _ _ _ _ _ _ _ _ _ _ _ _ _ _ _ _ _ _ _ _ _ _ _ _ _ _ _ _ _ _ _ _ _ _ _ _ _ _ _ _ _ _ _ _ _ _ _ _ _ _ _ _ _ _ _ _ _ _ _ _ _ _ _ _ _ _ _ _ _ _ _ _ _ _ _ _ _ _ _ _ _ _ _ _ _ _ _ _ _ _ _ _ _ _ _ _ _ _ _ _ _ _ _ _ _ _ _ _ _ _ _ _ _ _ _ _ _ _ _ _ _ _ _ _ _ _ _ _ _ _ _ _ _ _ _ _ _ _ _ _ _ _ _ _ _ _ _ _ _ _ _ _ _ _ _ _ _ _ _ _ _ _ _ _ _ _ _ _ _ _ _ _ _ _ _ _ _ _ _ _ _ _ _ _ _ _ _ _ _ _ _ _ _ _ _ _ _ _ _ _ _ _ _ _ _ _ _ ⟨X, ?_, ?_, hwB⟩
      · rw [← HQ.out]; exact HR.out
      · rw [← HQ.out]; exact HLW.out

end Go.Proofs.Ytckpgnncmmjnnaa.Sha
