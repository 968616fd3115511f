/- The document's own Sum. -/
import Derived.Test.YtckpgnncmmjnnaaOwnB
import Derived.Test.YtckpgnncmmjnnaaShaRt
import Derived.Test.YtckpgnncmmjnnaaShaTd
import Derived.Deep.OwnRows
import Derived.Deep.Cut
import Derived.Deep.RegionHeld3
import Derived.BigQuiet
import Derived.Test.YtckpgnncmmjnnaaSmG
import Derived.Test.YtckpgnncmmjnnaaSmH
namespace Go.Proofs.Ytckpgnncmmjnnaa.Sha
open Go.RowKit

def sliceLen : Value → Nat
  | .slice _ n _ => n
  | _ => 0

theorem news_one8 (w : World) (b : UInt8) (t : TypeId) : ∀ (j : Nat) (c : UInt8), [b][j]? = some c → (w.alloc (.cells #[.int .u8 (b.toNat : Int)] t)).cell? ((⟨w.heap.size, 0, none⟩ : Addr).add j) = some (.int .u8 (c.toNat : Int)) := by
  intro j c hj
  match j, hj with
  | 0, hj => simp at hj; subst hj; simp [Addr.add]

theorem first_state {W0 w7 W8 w6 : World} {B g6 gv gk gw N cap6 : Nat} {D : List UInt8} (hO : OwnB B (.slice (some ⟨g6, 0, none⟩) N cap6) N D w7) (hv : w7.heap[gv]? = some (.cells (vals32 (vL h0)).toArray 43 (0, 0)))
    (hB : Below B W0 w7) (hk : Dig32 w7 gk kL) (hgvB : B ≤ gv) (hgw : w7.heap.size = gw) (hW8 : w7.alloc (.cells (vals32 (List.replicate 64 0)).toArray 43) = W8) (hO6 : ∃ cap, gv = w6.heap.size ∧ OwnB B (.slice (some ⟨g6, 0, none⟩) N cap) N D w6) :
    RS W0 B g6 gv gk gw D (vL h0) (List.replicate 64 0) W8 ∧ Apart g6 gv gk gw ∧ N = D.length ∧ B ≤ gv ∧ B ≤ W8.heap.size := by
  subst hW8 hgw
  have hs7 : gv < w7.heap.size := (Array.getElem?_eq_some_iff.1 hv).1
  obtain ⟨g, cap, cur, fz, hvv, hBg, hgr, hfz, hncap, hcap, hcs, hxl, hcells⟩ := hO
  obtain ⟨c6, hgv6, g', cap', cur', fz', hvv', hBg', hgr', _⟩ := hO6
  injection hvv with e1 e2 e3
  injection e1 with e1
  injection e1 with e1 _ _
  subst e1
  injection hvv' with e1 e2 e3
  injection e1 with e1
  injection e1 with e1 _ _
  subst e1
  have hg6 : g6 < w6.heap.size := (Array.getElem?_eq_some_iff.1 hgr').1
  have hg7 : g6 < w7.heap.size := (Array.getElem?_eq_some_iff.1 hgr).1
  have hk0 := hk 0 1116352408 rfl
  have hgk : gk < w7.heap.size := block_lt_of_cell hk0
  have hal : Below w7.heap.size w7 (w7.alloc (.cells (vals32 (List.replicate 64 0)).toArray 43)) := (Below.refl _ _).alloc (Nat.le_refl _) _
  refine ⟨⟨fun i b hi => ?_, (hal.block gv hs7).trans hv, fun i x hx => Sha.kept hal (hk i x hx), heap_alloc_new _ _, hB.alloc (by omega) _, rfl, by simp, hgvB, by omega⟩, ⟨by omega, by omega, by omega, ?_, by omega⟩, hxl.symm, hgvB, by simp; omega⟩
  · refine Sha.kept hal ?_
    rw [cell_of_row w7 g6 i cur _ _ hgr]
    exact hcells i b hi
  · intro e
    subst e
    rw [cell_of_row w7 gk 0 _ _ _ hv] at hk0
    simp [vals32, vL, h0] at hk0

set_option maxRecDepth 100000 in
set_option maxHeartbeats 6400000 in
theorem sum_any (s : ByteArray) (hs : s.size ≤ 1000000000) (w : World) :
    Calls Try.prog 14 #[.string s] w fun e w' => e = .returned (.agg (valsB (shaS s)).toArray) ∧ Below w.heap.size w w' := by
  go_enter Try.func14, Try.ntmps14
  go_upto_region 1 with (fail)
  obtain ⟨Z, hZ⟩ : ∃ Z, (List.replicate 32 (Value.int .u8 0)).toArray = Z := ⟨_, rfl⟩
  have HZS := Lib.hid (show Z.size = 32 by rw [← hZ]; rfl)
  rw [show #[Value.int .u8 0, .int .u8 0, .int .u8 0, .int .u8 0, .int .u8 0, .int .u8 0, .int .u8 0, .int .u8 0, .int .u8 0, .int .u8 0, .int .u8 0, .int .u8 0, .int .u8 0, .int .u8 0, .int .u8 0, .int .u8 0,
    .int .u8 0, .int .u8 0, .int .u8 0, .int .u8 0, .int .u8 0, .int .u8 0, .int .u8 0, .int .u8 0, .int .u8 0, .int .u8 0, .int .u8 0, .int .u8 0, .int .u8 0, .int .u8 0, .int .u8 0, .int .u8 0] = (List.replicate 32 (Value.int .u8 0)).toArray from rfl, hZ]
  clear hZ
  have HG0 := Lib.hid (heap_alloc_new w (.cells Z 24))
  have HB0 := Lib.hid (show Below (w.heap.size + 1) (w.alloc (.cells Z 24)) (w.alloc (.cells Z 24)) from Below.refl _ _)
  have hz0 : (w.alloc (.cells Z 24)).heap.size = w.heap.size + 1 := by simp
  have HBW := Lib.hid (show Below w.heap.size w (w.alloc (.cells Z 24)) from (Below.refl _ _).alloc (Nat.le_refl _) _)
  generalize w.alloc (.cells Z 24) = W0 at HG0 HB0 hz0 HBW ⊢
  obtain ⟨cap, W1, hcv, hown, hb1, _⟩ := conv_text W0 s (by omega)
  have HO1 := Lib.hid hown
  have HB1 := Lib.hid hb1
  have HZ0 := Lib.hid hz0
  clear hown hb1 hz0
  go_wp2_with (at_builtin; refine wpList_append_ownB rfl (.tmp 23) (.tmp 24) rfl W0.heap.size _ s.size s.data.toList rfl (HO1.out.kept ((Below.refl _ _).alloc (Nat.le_refl _) _)) ⟨W1.heap.size, 0, none⟩ 1 1 [128] rfl rfl (news_one8 _ _ _) (by decide) (by omega) (Nat.le_trans HB1.out.size (by simp)) ?_; intro v2 w2 hown2 hb2)
  have HO2 := Lib.hid hown2
  have HB2 := Lib.hid (show Below (w.heap.size + 1) W0 w2 by
    rw [← HZ0.out]
    exact (HB1.out.alloc HB1.out.size (.cells #[.int .u8 128] 5)).trans hb2)
  obtain ⟨g2, cap2, hv2⟩ : ∃ g cap, v2 = .slice (some ⟨g, 0, none⟩) (s.size + 1) cap := by
    obtain ⟨g, c, _, _, hv, _⟩ := hown2
    exact ⟨g, c, hv⟩
  subst hv2
  have hwz : W0.heap.size = w.heap.size + 1 := HZ0.out
  clear hown2 hb2 hcv
  obtain ⟨p, hp⟩ : ∃ p : Nat, (119 - s.size % 64) % 64 = p := ⟨_, rfl⟩
  have HP := Lib.hid hp
  have hp63 : p ≤ 63 := by omega
  clear hp
  try rw [hwz]
  have HWZ := Lib.hid hwz
  clear hwz
  go_wp2_with fail
  go_loopw [3] (fun v wr => ∃ (j g cap : Nat), v = .slice (some ⟨g, 0, none⟩) (s.size + 1 + j) cap ∧ j ≤ p ∧ OwnB (w.heap.size + 1) v (s.size + 1 + j) (s.data.toList ++ [128] ++ List.replicate j 0) wr ∧ Below (w.heap.size + 1) W0 wr) (fun v _ => s.size + 65 - sliceLen v)
  case atStart => exact ⟨0, g2, cap2, rfl, by omega, by rw [← HWZ.out]; simpa using HO2.out, HB2.out⟩
  case round =>
    obtain ⟨j, g, cap, rfl, hj, hown, hbel⟩ := hrel
    have HO := Lib.hid hown
    have HB := Lib.hid hbel
    have hbase : w.heap.size + 1 ≤ wr.heap.size := by
      have := hbel.size
      have := HWZ.out
      omega
    clear hown hbel
    by_cases hlt : j < p
    · have hne : (((s.size + 1 + j : Nat) : Int) % 64 == 56) = false := by
        have := HP.out
        simp
        omega
      have hne2 : (((s.size + 1 + j : Nat) : Int) % 64 != 56) = true := by
        have := HP.out
        simp
        omega
      go_wp2_with (at_builtin; refine wpList_append_ownB rfl (.tmp 30) (.tmp 31) rfl (w.heap.size + 1) _ (s.size + 1 + j) (s.data.toList ++ [128] ++ List.replicate j 0) rfl (HO.out.kept ((Below.refl _ _).alloc (Nat.le_refl _) _)) ⟨wr.heap.size, 0, none⟩ 1 1 [0] rfl rfl (news_one8 _ _ _) (by decide) (by omega) (Nat.le_trans hbase (by simp)) ?_; intro v3 w3 hown3 hb3)
      have HO3 := Lib.hid hown3
      have HB3 := Lib.hid ((HB.out.alloc hbase (.cells #[.int .u8 0] 5)).trans hb3)
      obtain ⟨g3, cap3, hv3⟩ : ∃ g cap, v3 = .slice (some ⟨g, 0, none⟩) (s.size + 1 + j + 1) cap := by
        obtain ⟨g, c, _, _, hv, _⟩ := hown3
        exact ⟨g, c, hv⟩
      subst hv3
      clear hown3 hb3 hne hne2
      go_wp2_with fail
      go_roundw
      case rel =>
        have h := HO3.out
        have h' : OwnB (w.heap.size + 1) (.slice (some ⟨g3, 0, none⟩) (s.size + 1 + (j + 1)) cap3) (s.size + 1 + (j + 1)) (s.data.toList ++ [128] ++ List.replicate (j + 1) 0) w3 := by
          rw [show s.size + 1 + (j + 1) = s.size + 1 + j + 1 by omega, List.replicate_succ']
          simpa using h
        first
          | exact ⟨j + 1, g3, cap3, rfl, by omega, h', HB3.out⟩
          | ((repeat apply Exists.intro)
             exact ⟨⟨j + 1, g3, cap3, rfl, by omega, h', HB3.out⟩, rfl⟩)
      case measure => simp [sliceLen]; omega
    · obtain rfl : p = j := by omega
      have hne : (((s.size + 1 + p : Nat) : Int) % 64 == 56) = true := by
        have := HP.out
        simp
        omega
      have hne2 : (((s.size + 1 + p : Nat) : Int) % 64 != 56) = false := by
        have := HP.out
        simp
        omega
      go_wp2_with fail
      rw [show (s.size : Int) * 8 = ((s.size * 8 : Nat) : Int) by omega]
      refine (Digit.refEight_any (s.size * 8) _ (by omega)).mono ?_
      rintro e w4 ⟨rfl, hb4⟩
      have h8l : (Digit.eightL (s.size * 8)).length = 8 := Digit.eightL_len _
      obtain ⟨E, hE⟩ : ∃ E, Digit.eightL (s.size * 8) = E := ⟨_, rfl⟩
      rw [hE] at h8l
      rw [hE]
      have HE := Lib.hid hE
      have HB4 := Lib.hid (HB.out.trans (hb4.mono hbase))
      have HO4 := Lib.hid (HO.out.kept hb4)
      clear hE hb4 hne hne2 hlt hj
      obtain ⟨cape, W5, hcv, howne, hb5, hcells5⟩ := conv_text w4 ⟨E.toArray⟩ (by rw [size_mk, h8l]; decide)
      rw [size_mk, h8l] at hcv
      have hsz4 : w.heap.size + 1 ≤ w4.heap.size := by
        have := HB4.out.size
        have := HWZ.out
        omega
      have HB5 := Lib.hid (HB4.out.trans (hb5.mono hsz4))
      have HO5 := Lib.hid (HO4.out.kept hb5)
      have HC5 := Lib.hid hcells5
      have hsz5 := Nat.le_trans hsz4 hb5.size
      clear howne hb5 hcells5
      go_upto_region 5 with (at_builtin; refine wpList_append_ownB rfl (.tmp 33) (.tmp 39) rfl (w.heap.size + 1) _ (s.size + 1 + p) (s.data.toList ++ [128] ++ List.replicate p 0) rfl HO5.out ⟨w4.heap.size, 0, none⟩ 8 cape E rfl h8l HC5.out (by decide) (by omega) hsz5 ?_; intro v6 w6 hown6 hb6)
      have HO6 := Lib.hid hown6
      have HB6 := Lib.hid (HB5.out.trans hb6)
      obtain ⟨g6, cap6, hv6⟩ : ∃ g cap, v6 = .slice (some ⟨g, 0, none⟩) (s.size + 1 + p + 8) cap := by
        obtain ⟨g, c, _, _, hv, _⟩ := hown6
        exact ⟨g, c, hv⟩
      subst hv6
      clear hown6 hb6 hcv
      have HPAD := Lib.hid (show (s.data.toList ++ [128] ++ List.replicate p 0 ++ E).map UInt8.toNat = padL (natsOf s) by
        rw [← HE.out, ← HP.out, padL, natsOf_length]
        simp only [List.map_append, List.map_replicate, eightL_nats, List.map_cons, List.map_nil]
        rfl)
      obtain ⟨D, hD⟩ : ∃ D, s.data.toList ++ [128] ++ List.replicate p 0 ++ E = D := ⟨_, rfl⟩
      rw [hD] at HO6 HPAD
      obtain ⟨N, hN⟩ : ∃ N, s.size + 1 + p + 8 = N := ⟨_, rfl⟩
      rw [hN] at HO6
      rw [hN]
      have hNs : N ≤ 2000000000 := by omega
      have hN64 : N % 64 = 0 := by have := HP.out; omega
      clear hD hN
      go_wp2_with fail
      obtain ⟨gv, hgv⟩ : ∃ g, w6.heap.size = g := ⟨_, rfl⟩
      have hgvB : w.heap.size + 1 ≤ gv := by
        have := HB6.out.size
        have := HWZ.out
        omega
      refine (cubes_any _).mono ?_
      rintro e w7 ⟨gk, capk, rfl, hk7, hb7⟩
      have hv7 : w7.heap[gv]? = some (.cells (vals32 (vL h0)).toArray 43 (0, 0)) := by
        rw [← hgv]
        exact (hb7.block _ (by simp)).trans (heap_alloc_new _ _)
      have hs7 : gv < w7.heap.size := (Array.getElem?_eq_some_iff.1 hv7).1
      have hB7 : Below (w.heap.size + 1) W0 w7 := (HB6.out.alloc (by omega) _).trans (hb7.mono (by simp; omega))
      have hO7 : OwnB (w.heap.size + 1) (.slice (some ⟨g6, 0, none⟩) N cap6) N D w7 := ((HO6.out.kept ((Below.refl _ _).alloc (Nat.le_refl _) _)).kept hb7)
      obtain ⟨gw, hgw⟩ : ∃ g, w7.heap.size = g := ⟨_, rfl⟩
      obtain ⟨W8, hW8⟩ : ∃ W, w7.alloc (.cells (vals32 (List.replicate 64 0)).toArray 43) = W := ⟨_, rfl⟩
      have HR8 := Lib.hid (show RS W0 (w.heap.size + 1) g6 gv gk gw D (vL h0) (List.replicate 64 0) W8 ∧ Apart g6 gv gk gw ∧ N = D.length ∧ w.heap.size + 1 ≤ gv ∧ w.heap.size + 1 ≤ W8.heap.size from
        first_state hO7 hv7 hB7 hk7 hgvB hgw hW8 (w6 := w6) ⟨cap6, hgv.symm, HO6.out⟩)
      rw [hgv]
      clear hv7 hs7 hB7 hO7 hk7 hb7
      obtain ⟨C8, hC8⟩ : ∃ C, (vals32 (List.replicate 64 0)).toArray = C := ⟨_, rfl⟩
      have hmk : ∀ w : World, (Instr.makeSlice 55 (.int .i64 64) (.int .i64 64)).run Try.prog w = .ok (.slice (some ⟨w.heap.size, 0, none⟩) 64 64) (w.alloc (.cells C8 43)) := fun w => by
        rw [← hC8]
        have h := run_make_row' (P := Try.prog) 55 43 (.int .u32 0) 4 Try.underlying55 info32 rfl .i64 .i64 64 (by decide) (by decide) w
        rw [show madeCells #[Value.int .u32 0] 64 = (vals32 (List.replicate 64 0)).toArray by kernel_rfl] at h
        exact h
      rw [hC8] at hW8
      have HC8 := Lib.hid hC8
      clear hC8
      go_upto_region 8 with fail
      try rw [hW8]
      try rw [hgw]
      clear hmk
      have HW8 := Lib.hid hW8
      have HGW := Lib.hid hgw
      have HGV := Lib.hid hgv
      clear hW8 hgw hgv
      obtain ⟨hR8, hA8, hND, hgvB', hW8B⟩ := HR8.out
      have HR := Lib.hid hR8
      have HA := Lib.hid hA8
      have HND := Lib.hid hND
      clear hR8 hA8 hND HR8
      go_upto_block 2 with fail
      refine sum_blocks HA.out hW8B hNs hN64 HND.out HPAD.out h0_low HR.out _ ?_
      intro w9 x7 x8 x9 x10 x11 x12 x13 x14 x15 x16 x17 x18 x19 x44 x45 x46 x47 x48 x49 x50 x51 x52 x53 x54 x55 x56 x57 x58 x59 x60 x61 x62 x63 x64 x65 x66 x67 x68 x69 x70 x71 x72 x73 x74 x75 x76 x77 x78 x79 x80 x81 x82 x83 x84 x85 x86 x87 x88 x89 x90 x91 x92 x93 x94 x95 x96 x97 x98 x99 x100 x101 x102 x103 x104 x105 x106 x107 x108 x109 x110 x111 x112 x113 x114 x115 x116 x117 x118 x119 x120 x121 x122 x123 x124 x125 x126 x127 x128 x129 x130 x131 x132 x133 x134 x135 x136 x137 x138 x139 x140 x141 x142 x143 x144 x145 x146 x147 x148 x149 x150 x151 x152 x153 x154 x155 x156 x157 x158 x159 x160 x161 x162 x163 x164 x165 x166 x167 x168 x169 x170 x171 x172 x173 x174 x175 x176 x177 x178 x179 x180 x181 x182 x183 x184 x185 x186 x187 x188 x189 x190 x191 x192 x193 x194 x195 x196 x197 x198 x199 x200 x201 x202 x203 x204 x205 x206 x207 x208 x209 x210 x211 x212 x213 x214 x215 x216 x217 x218 x219 x220 x221 x222 x223 x224 x225 x226 x227 x228 x229 x230 x231 x232 x233 x234 x235 x236 x237 x238 x239 x240 x241 x242 x243 x244 x245 x246 x247 x248 x249
      rintro ⟨X', hrs9, hlow9, hwB9⟩
      have HR9 := Lib.hid hrs9
      have HL9 := Lib.hid hlow9
      clear hrs9 hlow9
      obtain ⟨Y, hY⟩ : ∃ Y, row8 [] 32 = Y := ⟨_, rfl⟩
      have hy32 : 32 = Y.size := by rw [← hY]; rfl
      have hyone : Y.all (·.oneCell') = true := by rw [← hY]; simp [row8, valsB, Value.oneCell']
      have HIY := Lib.hid (show (Try.prog.info? 24).map (·.size) = some Y.size by rw [← hy32]; exact info_hash)
      have HYY := Lib.hid hY
      have HY32 := Lib.hid hy32
      clear hY hy32
      go_upto_block 12 with (first | (refine wpList_build_as rfl 24 _ rfl Y (by rw [← HYY.out]; kernel_rfl) ?_) | (refine wpList_store_row rfl 24 (.tmp 20) (.tmp 250) rfl w9.heap.size Y rfl rfl 24 _ (heap_alloc_new _ _) HIY.out HY32.out hyone ?_; rw [World.setRow_alloc_new]))
      have hgv9 := (Array.getElem?_eq_some_iff.1 HR9.out.v).1
      refine sum_bytes HL9.out (by simp; omega) (HR9.out.below.alloc (by omega) _) (Nat.ne_of_gt hgv9) hwB9 ((Below.heap_alloc _ _ _ hgv9).trans HR9.out.v) (by rw [HYY.out]; exact heap_alloc_new _ _) _ ?_
      intro w10 x21 x251 x252 x253 x254 x255 x256 x257 x258 x259 x260 x261 x262 x263 x264 x265 x266 x267
      rintro ⟨hrow, hbel, hwB10⟩
      have HROW := Lib.hid hrow
      have HBEL := Lib.hid hbel
      obtain ⟨H, hH⟩ : ∃ H, hashB (blocks (N / 64) h0 (padL (natsOf s))) = H := ⟨_, rfl⟩
      have HH := Lib.hid hH
      have hHL : H.length = 32 := by rw [← hH]; rfl
      rw [hH] at HROW
      clear hrow hbel hH hyone
      have hsz : (valsB H).toArray.size = 32 := by rw [valsB_size, hHL]
      have hone : (valsB H).toArray.all (·.oneCell') = true := by simp [valsB, Value.oneCell']
      obtain ⟨C, hC⟩ : ∃ C, (valsB H).toArray = C := ⟨_, rfl⟩
      rw [hC] at hsz hone HROW
      have HCC := Lib.hid hC
      have HZC := Lib.hid (show Z.size = C.size by rw [HZS.out, hsz])
      have HINF := Lib.hid (show (Try.prog.info? 24).map (·.size) = some C.size by rw [hsz]; exact info_hash)
      have HG10 := Lib.hid ((HBEL.out.block w.heap.size (Nat.lt_succ_self _)).trans HG0.out)
      clear hC hsz hHL
      go_wp2_with (first | (refine wpList_load_row rfl 24 (.tmp 20) rfl w9.heap.size rfl 24 C (0, 0) _ HROW.out Try.underlying24 rfl HINF.out ?_) | (refine wpList_store_row rfl 24 (.tmp 2) (.tmp 268) rfl w.heap.size C rfl rfl 24 Z HG10.out HINF.out HZC.out hone ?_))
      refine bodyPost_ret (results_cell_row (p := 2) (ty := 24) Try.results14 _ _ w.heap.size 24 C (0, 0) _ rfl (setRow_heap _ _ _ _ _ _ HG10.out) Try.underlying24 rfl HINF.out) rfl ⟨?_, ?_⟩
      · rw [← HCC.out, ← HH.out, shaS_eq, ← HPAD.out, List.length_map, HND.out]
      · exact below_setRow (HBW.out.trans (HBEL.out.mono (Nat.le_succ _))) (Nat.le_refl _) _

end Go.Proofs.Ytckpgnncmmjnnaa.Sha
