/- evolve: the code's Check. -/
import Derived.Test.YtpifjeghoapjbaaEwH
import Derived.Test.YtpifjeghoapjbaaEvO0
import Derived.Test.YtpifjeghoapjbaaQFl
namespace Go.Proofs.Ytpifjeghoapjbaa.Evolve
open Go.RowKit Go.Proofs.Ytpifjeghoapjbaa.Sha Go.Proofs.Ytpifjeghoapjbaa.Tree Go.Proofs.Ytpifjeghoapjbaa.Once

set_option maxRecDepth 100000 in
set_option maxHeartbeats 3200000 in
theorem code_CheckE_no (pub m : List UInt8) (hp : pub.length = 32) (hm : m.length = 32) (d p : Int) (sig : ByteArray) (w : World) (hno : ¬ (wayP d p ∧ (sig.size : Int) = 1024 + 32 * d)) :
    Calls Try.prog 25 #[.agg (valsB pub).toArray, .int .i64 d, .int .i64 p, .agg (valsB m).toArray, .string sig] w fun e w' => e = .returned (.bool false) ∧ Below w.heap.size w w' := by
  have HRP := Lib.hid (row32 pub hp)
  have HRM := Lib.hid (row32 m hm)
  obtain ⟨CP, hCP⟩ : ∃ C, (valsB pub).toArray = C := ⟨_, rfl⟩
  obtain ⟨CM, hCM⟩ : ∃ C, (valsB m).toArray = C := ⟨_, rfl⟩
  rw [hCP] at HRP
  rw [hCM] at HRM
  rw [hCP, hCM]
  clear hCP hCM hp hm
  by_cases hw : wayP d p
  · obtain ⟨⟨h0, h4⟩, h1, h2⟩ := hw
    obtain ⟨d, rfl⟩ : ∃ dn : Nat, d = dn := ⟨d.toNat, by omega⟩
    have hw : wayP d p := ⟨⟨h0, h4⟩, h1, h2⟩
    have hne : ¬ (sig.size : Int) = 1024 + 32 * (d : Int) := fun h => hno ⟨hw, h⟩
    have g6 : ((sig.size : Int) != 1024 + 32 * (d : Int)) = true := by simp [hne]
    have g7 : ((sig.size : Int) == 1024 + 32 * (d : Int)) = false := by simp [hne]
    clear hno h1 h2
    have HEX := Lib.hid (fun w => code_exists d p w)
    rw [show decide (wayP (d : Int) p) = true by simp [hw]] at HEX
    obtain ⟨CW, hCW⟩ : ∃ C, #[Value.int .i64 d, Value.int .i64 p] = C := ⟨_, rfl⟩
    have HIW := Lib.hid (show (Try.prog.info? 49).map (·.size) = some CW.size by rw [← hCW]; kernel_rfl)
    have HW2 := Lib.hid (show (#[Value.int .i64 0, Value.int .i64 0] : Array Value).size = CW.size by rw [← hCW]; rfl)
    have HW1 := Lib.hid (show CW.all (·.oneCell') = true by rw [← hCW]; simp [Value.oneCell'])
    have HWB := Lib.hid (fun a : Act => fun (h1 : a.eval (.tmp 16) = .int .i64 d) (h2 : a.eval (.tmp 17) = .int .i64 p) => (show Try.prog.built 49 ((#[(0, .tmp 16), (1, .tmp 17)] : Array (Nat × Operand)).map fun (i, x) => (i, a.eval x)).toList = some CW by
      simp only [List.map_toArray, List.map_cons, List.map_nil, h1, h2]
      rw [← hCW]
      kernel_rfl))
    rw [hCW] at HEX
    clear hCW
    go_enter Try.func25, Try.ntmps25
    go_upto_region 1 with (fail)
    have HA0 := Lib.hid (heap_alloc2_old w (.cells CP 23) (.cells CM 23))
    have HA1 := Lib.hid (heap_alloc2_new w (.cells CP 23) (.cells CM 23))
    have HBW := Lib.hid (show Below w.heap.size w ((w.alloc (.cells CP 23)).alloc (.cells CM 23)) from ((Below.refl _ _).alloc (Nat.le_refl _) _).alloc (by simp) _)
    have hs0 : ((w.alloc (.cells CP 23)).alloc (.cells CM 23)).heap.size = w.heap.size + 2 := by simp
    generalize ((w.alloc (.cells CP 23)).alloc (.cells CM 23)) = W at HA0 HA1 HBW hs0 ⊢
    obtain ⟨g5, hg5⟩ : ∃ x, w.heap.size = x := ⟨_, rfl⟩
    obtain ⟨g8, hg8⟩ : ∃ x, g5 + 1 = x := ⟨_, rfl⟩
    rw [hg5] at HA0 HA1 HBW hs0
    rw [hg8] at HA1
    rw [hg5, hg8]
    have HGE := Lib.hid hg5
    have HLT := Lib.hid (show g5 < g8 ∧ g8 < W.heap.size by omega)
    clear hg5 hg8 hs0
    go_upto_region 2 with (first
      | (refine wpList_build_as rfl 49 #[(0, .tmp 16), (1, .tmp 17)] rfl CW (HWB.out _ rfl rfl) ?_)
      | (refine wpList_store_row rfl 49 (.tmp 11) (.tmp 18) rfl W.heap.size CW rfl rfl 49 #[Value.int .i64 0, Value.int .i64 0] (heap_alloc_new _ _) HIW.out HW2.out HW1.out ?_; rw [World.setRow_alloc_new]))
    have hb3 : Below W.heap.size W (W.alloc (.cells CW 49)) := (Below.refl _ _).alloc (Nat.le_refl _) _
    have H11 := Lib.hid (heap_alloc_new W (.cells CW 49))
    have HB3 := Lib.hid (HBW.out.trans (hb3.mono (by have := HLT.out; omega)))
    have H5 := Lib.hid ((hb3.block g5 (by have := HLT.out; omega)).trans HA0.out)
    have H8 := Lib.hid ((hb3.block g8 (by have := HLT.out; omega)).trans HA1.out)
    have hs3 : (W.alloc (.cells CW 49)).heap.size = W.heap.size + 1 := by simp
    generalize W.alloc (.cells CW 49) = w3 at H11 HB3 H5 H8 hs3 ⊢
    obtain ⟨g11, hg11⟩ : ∃ x, W.heap.size = x := ⟨_, rfl⟩
    rw [hg11] at H11 hs3
    rw [hg11]
    have HL3 := Lib.hid (show g5 < g8 ∧ g8 < g11 ∧ g11 < w3.heap.size by have := HLT.out; omega)
    clear hb3 hs3 hg11 HA0 HA1 HBW
    go_wp2_with (refine wpList_load_row rfl 49 (.tmp 11) rfl g11 rfl 49 CW (0, 0) _ H11.out Try.underlying49 rfl HIW.out ?_)
    refine (HEX.out _).mono ?_
    rintro e w4 ⟨rfl, hb4⟩
    clear hw
    go_wp2_with fail
    go_ret
    exact ⟨rfl, HGE.out ▸ HB3.out.trans (hb4.mono (by have := HL3.out; omega))⟩
  · clear hno
    have HEX := Lib.hid (fun w => code_exists d p w)
    rw [show decide (wayP d p) = false by simp [hw]] at HEX
    obtain ⟨CW, hCW⟩ : ∃ C, #[Value.int .i64 d, Value.int .i64 p] = C := ⟨_, rfl⟩
    have HIW := Lib.hid (show (Try.prog.info? 49).map (·.size) = some CW.size by rw [← hCW]; kernel_rfl)
    have HW2 := Lib.hid (show (#[Value.int .i64 0, Value.int .i64 0] : Array Value).size = CW.size by rw [← hCW]; rfl)
    have HW1 := Lib.hid (show CW.all (·.oneCell') = true by rw [← hCW]; simp [Value.oneCell'])
    have HWB := Lib.hid (fun a : Act => fun (h1 : a.eval (.tmp 16) = .int .i64 d) (h2 : a.eval (.tmp 17) = .int .i64 p) => (show Try.prog.built 49 ((#[(0, .tmp 16), (1, .tmp 17)] : Array (Nat × Operand)).map fun (i, x) => (i, a.eval x)).toList = some CW by
      simp only [List.map_toArray, List.map_cons, List.map_nil, h1, h2]
      rw [← hCW]
      kernel_rfl))
    rw [hCW] at HEX
    clear hCW
    go_enter Try.func25, Try.ntmps25
    go_upto_region 1 with (fail)
    have HA0 := Lib.hid (heap_alloc2_old w (.cells CP 23) (.cells CM 23))
    have HA1 := Lib.hid (heap_alloc2_new w (.cells CP 23) (.cells CM 23))
    have HBW := Lib.hid (show Below w.heap.size w ((w.alloc (.cells CP 23)).alloc (.cells CM 23)) from ((Below.refl _ _).alloc (Nat.le_refl _) _).alloc (by simp) _)
    have hs0 : ((w.alloc (.cells CP 23)).alloc (.cells CM 23)).heap.size = w.heap.size + 2 := by simp
    generalize ((w.alloc (.cells CP 23)).alloc (.cells CM 23)) = W at HA0 HA1 HBW hs0 ⊢
    obtain ⟨g5, hg5⟩ : ∃ x, w.heap.size = x := ⟨_, rfl⟩
    obtain ⟨g8, hg8⟩ : ∃ x, g5 + 1 = x := ⟨_, rfl⟩
    rw [hg5] at HA0 HA1 HBW hs0
    rw [hg8] at HA1
    rw [hg5, hg8]
    have HGE := Lib.hid hg5
    have HLT := Lib.hid (show g5 < g8 ∧ g8 < W.heap.size by omega)
    clear hg5 hg8 hs0
    go_upto_region 2 with (first
      | (refine wpList_build_as rfl 49 #[(0, .tmp 16), (1, .tmp 17)] rfl CW (HWB.out _ rfl rfl) ?_)
      | (refine wpList_store_row rfl 49 (.tmp 11) (.tmp 18) rfl W.heap.size CW rfl rfl 49 #[Value.int .i64 0, Value.int .i64 0] (heap_alloc_new _ _) HIW.out HW2.out HW1.out ?_; rw [World.setRow_alloc_new]))
    have hb3 : Below W.heap.size W (W.alloc (.cells CW 49)) := (Below.refl _ _).alloc (Nat.le_refl _) _
    have H11 := Lib.hid (heap_alloc_new W (.cells CW 49))
    have HB3 := Lib.hid (HBW.out.trans (hb3.mono (by have := HLT.out; omega)))
    have H5 := Lib.hid ((hb3.block g5 (by have := HLT.out; omega)).trans HA0.out)
    have H8 := Lib.hid ((hb3.block g8 (by have := HLT.out; omega)).trans HA1.out)
    have hs3 : (W.alloc (.cells CW 49)).heap.size = W.heap.size + 1 := by simp
    generalize W.alloc (.cells CW 49) = w3 at H11 HB3 H5 H8 hs3 ⊢
    obtain ⟨g11, hg11⟩ : ∃ x, W.heap.size = x := ⟨_, rfl⟩
    rw [hg11] at H11 hs3
    rw [hg11]
    have HL3 := Lib.hid (show g5 < g8 ∧ g8 < g11 ∧ g11 < w3.heap.size by have := HLT.out; omega)
    clear hb3 hs3 hg11 HA0 HA1 HBW
    go_wp2_with (refine wpList_load_row rfl 49 (.tmp 11) rfl g11 rfl 49 CW (0, 0) _ H11.out Try.underlying49 rfl HIW.out ?_)
    refine (HEX.out _).mono ?_
    rintro e w4 ⟨rfl, hb4⟩
    clear hw
    go_wp2_with fail
    go_ret
    exact ⟨rfl, HGE.out ▸ HB3.out.trans (hb4.mono (by have := HL3.out; omega))⟩

set_option maxRecDepth 100000 in
set_option maxHeartbeats 6400000 in
theorem code_CheckE (pub m : List UInt8) (hp : pub.length = 32) (hm : m.length = 32) (d p : Nat) (hd : d ≤ 4) (hp2 : p < 2 ^ d) (sig : ByteArray) (hz : sig.size = 1024 + 32 * d) (w : World) :
    Calls Try.prog 25 #[.agg (valsB pub).toArray, .int .i64 d, .int .i64 p, .agg (valsB m).toArray, .string sig] w fun e w' => e = .returned (.bool (checkE pub d p m sig)) ∧ Below w.heap.size w w' := by
  have hw : wayP d p := ⟨⟨by omega, by omega⟩, by omega, by
    have : (p : Int) < ((2 ^ d : Nat) : Int) := by omega
    rw [Int.toNat_natCast]; push_cast at this; exact this⟩
  have hp16 : p < 16 := Nat.lt_of_lt_of_le hp2 (Nat.le_trans (Nat.pow_le_pow_right (by omega) hd) (by decide))
  have HT := Lib.hid (fun w => code_TellsA m hm (sig.extract 0 1024) w)
  have htl := told_first m sig d hz
  rw [htl.1, htl.2] at HT
  have hTK : tellK m (sig.extract 0 1024).data.toList = tellK m (sig.extract 0 1024).data.toList := rfl
  obtain ⟨T, hT⟩ : ∃ T, tellK m (sig.extract 0 1024).data.toList = T := ⟨_, rfl⟩
  have hTl : T.length = 32 := by rw [← hT]; rfl
  rw [hT] at HT
  have hck : checkE pub d p m sig = (overE (digitsE d p) (sideL sig d) 0 d T == pub) := by rw [← hT]; rfl
  have HUP := Lib.hid (fun p0 w h => code_up_sig d p 0 hd hp16 (by omega) T hTl (sideL sig d) (Nat.le_of_eq (sideL_len sig d).symm) (sideL_32 sig d hz) p0 w h)
  obtain ⟨O, hO⟩ : ∃ O, overE (digitsE d p) (sideL sig d) 0 d T = O := ⟨_, rfl⟩
  have hOl : O.length = 32 := by rw [← hO]; exact overE_len _ _ _ _ _ hTl
  rw [hO] at HUP hck
  have HE := fun w => eqIn_hash O pub hOl hp w
  have HSL := Lib.hid (fun (i : Nat) (s : List UInt8) (h : (sideL sig d)[i]? = some s) (hi : i < d) => (show s = (((sig.extract 1024 (1024 + 32 * d)).data.toList.drop (32 * i)).take 32) by
    rw [sideL_get sig d i hi] at h
    rw [Lib.extract_data, ← Option.some.inj h, List.drop_take, List.drop_drop, List.take_take]
    congr 1
    omega))
  have HXZ := Lib.hid (show (sig.extract 1024 (1024 + 32 * d)).size = 32 * d by rw [extract_size _ _ _ (by omega) (by omega)]; omega)
  obtain ⟨XS, hXS⟩ : ∃ X, sig.extract 1024 (1024 + 32 * d) = X := ⟨_, rfl⟩
  rw [hXS] at HSL HXZ
  have HXS := Lib.hid hXS
  obtain ⟨SG, hSG⟩ : ∃ X, sig.extract 0 1024 = X := ⟨_, rfl⟩
  rw [hSG] at HT
  have HSG := Lib.hid hSG
  obtain ⟨b, hb⟩ : ∃ b, (O == pub) = b := ⟨_, rfl⟩
  rw [hb] at hck HE
  rw [hck]
  have HRO := Lib.hid (row32 O hOl)
  have HRT := Lib.hid (row32 T hTl)
  have HRP := Lib.hid (row32 pub hp)
  have HRM := Lib.hid (row32 m hm)
  obtain ⟨CP, hCP⟩ : ∃ C, (valsB pub).toArray = C := ⟨_, rfl⟩
  obtain ⟨CM, hCM⟩ : ∃ C, (valsB m).toArray = C := ⟨_, rfl⟩
  rw [hCP] at HRP
  rw [hCM] at HRM
  rw [hCP, hCM]
  obtain ⟨CO, hCO⟩ : ∃ C, (valsB O).toArray = C := ⟨_, rfl⟩
  obtain ⟨CT, hCT⟩ : ∃ C, (valsB T).toArray = C := ⟨_, rfl⟩
  rw [hCO] at HUP HRO
  rw [hCT] at HT HUP HRT
  rw [hCO, hCP] at HE
  rw [hCM] at HT
  have h1024 : (1024 : Int) ≤ (sig.size : Int) := by omega
  have hsz : (sig.size : Int) = 1024 + 32 * (d : Int) := by omega
  clear hCP hCM hp hm hT hO hXS hSG hb hCO hCT htl hTK hck hTl hOl
  have HEX := Lib.hid (fun w => code_exists d p w)
  rw [show decide (wayP (d : Int) p) = true by simp [hw]] at HEX
  obtain ⟨CW, hCW⟩ : ∃ C, #[Value.int .i64 d, Value.int .i64 p] = C := ⟨_, rfl⟩
  have HIW := Lib.hid (show (Try.prog.info? 49).map (·.size) = some CW.size by rw [← hCW]; kernel_rfl)
  have HW2 := Lib.hid (show (#[Value.int .i64 0, Value.int .i64 0] : Array Value).size = CW.size by rw [← hCW]; rfl)
  have HW1 := Lib.hid (show CW.all (·.oneCell') = true by rw [← hCW]; simp [Value.oneCell'])
  have HWB := Lib.hid (fun a : Act => fun (h1 : a.eval (.tmp 16) = .int .i64 d) (h2 : a.eval (.tmp 17) = .int .i64 p) => (show Try.prog.built 49 ((#[(0, .tmp 16), (1, .tmp 17)] : Array (Nat × Operand)).map fun (i, x) => (i, a.eval x)).toList = some CW by
    simp only [List.map_toArray, List.map_cons, List.map_nil, h1, h2]
    rw [← hCW]
    kernel_rfl))
  rw [hCW] at HEX HUP
  clear hCW
  go_enter Try.func25, Try.ntmps25
  go_upto_region 1 with (fail)
  have HA0 := Lib.hid (heap_alloc2_old w (.cells CP 23) (.cells CM 23))
  have HA1 := Lib.hid (heap_alloc2_new w (.cells CP 23) (.cells CM 23))
  have HBW := Lib.hid (show Below w.heap.size w ((w.alloc (.cells CP 23)).alloc (.cells CM 23)) from ((Below.refl _ _).alloc (Nat.le_refl _) _).alloc (by simp) _)
  have hs0 : ((w.alloc (.cells CP 23)).alloc (.cells CM 23)).heap.size = w.heap.size + 2 := by simp
  generalize ((w.alloc (.cells CP 23)).alloc (.cells CM 23)) = W at HA0 HA1 HBW hs0 ⊢
  obtain ⟨g5, hg5⟩ : ∃ x, w.heap.size = x := ⟨_, rfl⟩
  obtain ⟨g8, hg8⟩ : ∃ x, g5 + 1 = x := ⟨_, rfl⟩
  rw [hg5] at HA0 HA1 HBW hs0
  rw [hg8] at HA1
  rw [hg5, hg8]
  have HGE := Lib.hid hg5
  have HLT := Lib.hid (show g5 < g8 ∧ g8 < W.heap.size by omega)
  clear hg5 hg8 hs0
  go_upto_region 2 with (first
    | (refine wpList_build_as rfl 49 #[(0, .tmp 16), (1, .tmp 17)] rfl CW (HWB.out _ rfl rfl) ?_)
    | (refine wpList_store_row rfl 49 (.tmp 11) (.tmp 18) rfl W.heap.size CW rfl rfl 49 #[Value.int .i64 0, Value.int .i64 0] (heap_alloc_new _ _) HIW.out HW2.out HW1.out ?_; rw [World.setRow_alloc_new]))
  have hb3 : Below W.heap.size W (W.alloc (.cells CW 49)) := (Below.refl _ _).alloc (Nat.le_refl _) _
  have H11 := Lib.hid (heap_alloc_new W (.cells CW 49))
  have HB3 := Lib.hid (HBW.out.trans (hb3.mono (by have := HLT.out; omega)))
  have H5 := Lib.hid ((hb3.block g5 (by have := HLT.out; omega)).trans HA0.out)
  have H8 := Lib.hid ((hb3.block g8 (by have := HLT.out; omega)).trans HA1.out)
  have hs3 : (W.alloc (.cells CW 49)).heap.size = W.heap.size + 1 := by simp
  generalize W.alloc (.cells CW 49) = w3 at H11 HB3 H5 H8 hs3 ⊢
  obtain ⟨g11, hg11⟩ : ∃ x, W.heap.size = x := ⟨_, rfl⟩
  rw [hg11] at H11 hs3
  rw [hg11]
  have HL3 := Lib.hid (show g5 < g8 ∧ g8 < g11 ∧ g11 < w3.heap.size by have := HLT.out; omega)
  clear hb3 hs3 hg11 HA0 HA1 HBW
  go_wp2_with (refine wpList_load_row rfl 49 (.tmp 11) rfl g11 rfl 49 CW (0, 0) _ H11.out Try.underlying49 rfl HIW.out ?_)
  refine (HEX.out _).mono ?_
  rintro e w4 ⟨rfl, hb4⟩
  have HX11 := Lib.hid ((hb4.block _ HL3.out.2.2).trans H11.out)
  have HX5 := Lib.hid ((hb4.block _ (by have := HL3.out; omega)).trans H5.out)
  have HA8 := Lib.hid ((hb4.block _ (by have := HL3.out; omega)).trans H8.out)
  have HB4 := Lib.hid (HB3.out.trans (hb4.mono (by have := HL3.out; omega)))
  have HL4 := Lib.hid (show g5 < g8 ∧ g8 < g11 ∧ g11 < w4.heap.size by have := HL3.out; have := hb4.size; omega)
  have HL8 := Lib.hid (show g8 < w4.heap.size by have := HL4.out; omega)
  clear hw hb4 H11 H5 H8 HB3
  have HZT := Lib.hid (show (List.replicate 32 (Value.int .u8 0)).toArray.size = CT.size by rw [HRT.out.size]; rfl)
  go_upto_region 4 with (fail)
  refine QT.wp_region_facts_late 8 6 7 (by kernel_rfl) (fun w' => Below w4.heap.size w4 w') (fun n v w' => (([.val (.agg CM), .val (.string sig), .val (.string SG), .val (.tuple #[.agg CT, .int .i64 0]), .val (.tuple #[.agg CT, .int .i64 0]), .val (.agg CT), .val (.int .i64 0), .fresh w4.heap.size (List.replicate 32 (Value.int .u8 0)).toArray 23] : List Fact).getD n (.val undef) : Fact).holds v w') (fun a w' => Below w4.heap.size w4 w' ∧ ∃ g, a.eval (.tmp 12) = .pointer (some ⟨g, 0, none⟩) ∧ w4.heap.size ≤ g ∧ w'.heap[g]? = some (.cells CT 23 (0, 0))) (by kernel_rfl) (by kernel_rfl) (Below.refl _ _).drew (fun w1 w2 h1 hb => h1.trans (hb.mono h1.size)) (fun n v w1 w2 h hb => Fact.kept _ v w1 w2 h hb) (fun i v w w' hi hif h => (match i, hi, hif, h with | 0, _, _, h => h | 1, _, _, h => h | 2, _, _, h => h | 3, _, _, h => h | 4, _, _, h => h | 5, _, _, h => h | 6, _, _, h => h | 7, _, hif, _ => absurd rfl hif | n + 8, hi, _, _ => by omega)) (fun a w w' d' v hd' ⟨hb, g, ha, hl, hg⟩ hb' => by
    obtain rfl : 36 = d' := Option.some.inj hd'
    exact ⟨hb.trans (hb'.mono hb.size), g, by rw [QT.eval_put_other (by decide)]; exact ha, hl, (hb'.block g (Array.getElem?_eq_some_iff.1 hg).1).trans hg⟩) (fun n o hn ho a wz hI hag hdep => ?_) (fun o ho a wz hJ hag hdep => ?_) (fun o ho a wz hI hag hf => ?_) (fun a wz hJ hag hf => ?_)
  · have t4 : a.eval (.tmp 4) = .string sig := hag.old 4 _ (by kernel_rfl) rfl
    have t8 : a.eval (.tmp 8) = .pointer (some ⟨g8, 0, none⟩) := hag.old 8 _ (by kernel_rfl) rfl
    match n, ho with
    | 0, ho =>
      obtain rfl := (Option.some.inj ho).symm
      exact ⟨rfl, wp_load_row 23 (.tmp 8) rfl g8 t8 23 CM (0, 0) _ ((hI.block g8 HL8.out).trans HA8.out) Try.underlying23 rfl HRM.out.info ⟨_, rfl, rfl, Below.refl _ _⟩⟩
    | 1, ho =>
      obtain rfl := (Option.some.inj ho).symm
      exact ⟨rfl, QT.wp_value (BigFrame.run_move (.tmp 4) rfl wz) ⟨_, rfl, t4, Below.refl _ _⟩⟩
    | 2, ho =>
      obtain rfl := (Option.some.inj ho).symm
      have d32 : a.eval (.tmp 32) = .string sig := hdep _ (Array.mem_of_getElem? (i := 0) rfl) rfl _ _ rfl rfl
      exact ⟨rfl, QT.wp_value (v := .string SG) (by simp [go_sem, QT.nf d32, h1024, HSG.out]) ⟨_, rfl, rfl, Below.refl _ _⟩⟩
    | 3, ho =>
      obtain rfl := (Option.some.inj ho).symm
      have d31 : a.eval (.tmp 31) = .agg CM := hdep _ (Array.mem_of_getElem? (i := 0) rfl) rfl _ _ rfl rfl
      have d33 : a.eval (.tmp 33) = .string SG := hdep _ (Array.mem_of_getElem? (i := 1) rfl) rfl _ _ rfl rfl
      exact ⟨rfl, QT.wp_enter (f := 45) (args := #[.agg CM, .string SG]) (by simp [go_sem, QT.nf d31, QT.nf d33]) (HT.out wz) fun w' hb => ⟨_, rfl, rfl, hb⟩⟩
    | 4, ho =>
      obtain rfl := (Option.some.inj ho).symm
      have d34 : a.eval (.tmp 34) = .tuple #[.agg CT, .int .i64 0] := hdep _ (Array.mem_of_getElem? (i := 0) rfl) rfl _ _ rfl rfl
      exact ⟨rfl, QT.wp_value (BigFrame.run_move (.tmp 34) rfl wz) ⟨_, rfl, d34, Below.refl _ _⟩⟩
    | 5, ho =>
      obtain rfl := (Option.some.inj ho).symm
      have d30 : a.eval (.tmp 30) = .tuple #[.agg CT, .int .i64 0] := hdep _ (Array.mem_of_getElem? (i := 0) rfl) rfl _ _ rfl rfl
      exact ⟨rfl, QT.wp_value (v := .agg CT) (by simp [go_sem, QT.nf d30]) ⟨_, rfl, rfl, Below.refl _ _⟩⟩
    | 6, ho =>
      obtain rfl := (Option.some.inj ho).symm
      have d30 : a.eval (.tmp 30) = .tuple #[.agg CT, .int .i64 0] := hdep _ (Array.mem_of_getElem? (i := 0) rfl) rfl _ _ rfl rfl
      exact ⟨rfl, QT.wp_value (v := .int .i64 0) (by simp [go_sem, QT.nf d30]) ⟨_, rfl, rfl, Below.refl _ _⟩⟩
    | 7, ho =>
      obtain rfl := (Option.some.inj ho).symm
      exact ⟨rfl, wp_runTo (.pointer (some ⟨wz.heap.size, 0, none⟩)) (wz.alloc (.cells (List.replicate 32 (Value.int .u8 0)).toArray 23)) (by kernel_rfl) ⟨_, rfl, ⟨_, rfl, hI.size, heap_alloc_new _ _⟩, (Below.refl _ _).alloc (Nat.le_refl _) _⟩⟩
    | n + 8, ho => omega
  · obtain rfl := (Option.some.inj ho).symm
    have d30 : a.eval (.tmp 30) = .tuple #[.agg CT, .int .i64 0] := hdep _ (Array.mem_of_getElem? (i := 0) rfl) rfl _ _ rfl rfl (by decide)
    exact ⟨rfl, QT.wp_value (v := .int .i64 0) (by simp [go_sem, QT.nf d30]) ⟨_, rfl, rfl, Below.refl _ _⟩⟩
  · obtain rfl := (Option.some.inj ho).symm
    have f5 : a.eval (.tmp 35) = .agg CT := hf 5 _ _ (by omega) (by decide) rfl rfl
    have f7' : ((.fresh w4.heap.size (List.replicate 32 (Value.int .u8 0)).toArray 23) : Fact).holds (a.eval (.tmp 12)) wz := hf 7 _ _ (by omega) (by decide) rfl rfl
    obtain ⟨q7, f7, y7⟩ := f7'
    exact ⟨rfl, wp_store_row 23 (.tmp 12) (.tmp 35) rfl q7 CT f7 f5 23 _ y7.2 HRT.out.info HZT.out HRT.out.one ⟨rfl, below_setRow hI y7.1 CT, q7, f7, y7.1, setRow_heap _ _ _ _ _ _ y7.2⟩⟩
  · have f0 : a.eval (.tmp 31) = .agg CM := hf 0 _ _ (by omega) (by decide) rfl rfl
    have f1 : a.eval (.tmp 32) = .string sig := hf 1 _ _ (by omega) (by decide) rfl rfl
    have f2 : a.eval (.tmp 33) = .string SG := hf 2 _ _ (by omega) (by decide) rfl rfl
    have f3 : a.eval (.tmp 34) = .tuple #[.agg CT, .int .i64 0] := hf 3 _ _ (by omega) (by decide) rfl rfl
    have f4 : a.eval (.tmp 30) = .tuple #[.agg CT, .int .i64 0] := hf 4 _ _ (by omega) (by decide) rfl rfl
    have f5 : a.eval (.tmp 35) = .agg CT := hf 5 _ _ (by omega) (by decide) rfl rfl
    have f6 : a.eval (.tmp 36) = .int .i64 0 := hf 6 _ _ (by omega) (by decide) rfl rfl
    obtain ⟨hI, q7, f7, yl7, yg7⟩ := hJ
    have ha := hag.puts [(31, .agg CM), (32, .string sig), (33, .string SG), (34, .tuple #[.agg CT, .int .i64 0]), (30, .tuple #[.agg CT, .int .i64 0]), (35, .agg CT), (36, .int .i64 0), (12, .pointer (some ⟨q7, 0, none⟩))] rfl (by simp) (by simp only [List.forall_mem_cons, List.not_mem_nil, false_implies, implies_true, and_true]; exact ⟨f0, f1, f2, f3, f4, f5, f6, f7⟩)
    subst ha
    clear hag hf f0 f1 f2 f3 f4 f5 f6 f7
    simp only [List.foldl_cons, List.foldl_nil, Act.put, List.drop_succ_cons, List.drop_zero, List.setIfInBounds_toArray, List.set_cons_succ, List.set_cons_zero]
    have hb5 : Below g5 w wz := HB4.out.trans (hI.mono (by have := HL4.out; omega))
    have HT5 := Lib.hid yg7
    have HY11 := Lib.hid ((hI.block _ HL4.out.2.2).trans HX11.out)
    have HY5 := Lib.hid ((hI.block _ (by have := HL4.out; omega)).trans HX5.out)
    have HB5 := Lib.hid hb5
    have HL5 := Lib.hid (show g11 < q7 ∧ q7 < wz.heap.size by have := HL4.out; have := (Array.getElem?_eq_some_iff.1 yg7).1; omega)
    clear hb5 yl7 yg7 hI
    have hss : (sig.size : Int) ≤ (sig.size : Int) := Int.le_refl _
    go_upto_region 6 with (fail)
    rw [HXS.out]
    have h14 := heap_alloc_new wz (.cells #[.string XS] 9)
    have hb6 : Below wz.heap.size wz (wz.alloc (.cells #[.string XS] 9)) := (Below.refl _ _).alloc (Nat.le_refl _) _
    have hs6 : (wz.alloc (.cells #[.string XS] 9)).heap.size = wz.heap.size + 1 := by simp
    generalize wz.alloc (.cells #[.string XS] 9) = w6 at h14 hb6 hs6 ⊢
    obtain ⟨g14, hg14⟩ : ∃ x, wz.heap.size = x := ⟨_, rfl⟩
    rw [hg14] at h14 hs6
    rw [hg14]
    have H14 := Lib.hid h14
    have HZ11 := Lib.hid ((hb6.block _ (by have := HL5.out; have := HL4.out; omega)).trans HY11.out)
    have HZ5 := Lib.hid ((hb6.block _ (by have := HL5.out; have := HL4.out; omega)).trans HY5.out)
    have HZ12 := Lib.hid ((hb6.block _ HL5.out.2).trans HT5.out)
    have HB6 := Lib.hid (HB5.out.trans (hb6.mono (by have := HL5.out; have := HL4.out; omega)))
    have HL6 := Lib.hid (show g5 < g11 ∧ g11 < g14 ∧ q7 < g14 ∧ g14 < w6.heap.size by have := HL5.out; have := HL4.out; omega)
    have HUQ := Lib.hid (HUP.out g14 w6 (fun i s W' hs _ hi hW => by
      have h1 := HSL.out i s hs hi
      have hxz := HXZ.out
      subst h1
      exact code_sigside g14 XS i (by omega) (by omega) W' ((hW.block _ HL6.out.2.2.2).trans H14.out)))
    clear h14 hb6 hs6 hg14 HUP HSL
    go_wp2_with (first
      | (refine wpList_load_row rfl 49 (.tmp 11) rfl g11 rfl 49 CW (0, 0) _ HZ11.out Try.underlying49 rfl HIW.out ?_)
      | (refine wpList_load_row rfl 23 (.tmp 12) rfl q7 rfl 23 CT (0, 0) _ HZ12.out Try.underlying23 rfl HRT.out.info ?_))
    refine HUQ.out.mono ?_
    rintro e w7 ⟨rfl, hb7⟩
    have HX5 := Lib.hid ((hb7.block _ (by have := HL6.out; omega)).trans HZ5.out)
    have HB7 := Lib.hid (HB6.out.trans (hb7.mono (by have := HL6.out; omega)))
    have HZO := Lib.hid (show (List.replicate 32 (Value.int .u8 0)).toArray.size = CO.size by rw [HRO.out.size]; rfl)
    have HL7 := Lib.hid (show g5 < w7.heap.size by have := HL6.out; have := hb7.size; omega)
    clear hb7
    go_upto_region 7 with (refine wpList_store_row rfl 23 (.tmp 15) (.tmp 42) rfl w7.heap.size CO rfl rfl 23 (List.replicate 32 (Value.int .u8 0)).toArray (heap_alloc_new _ _) HRO.out.info HZO.out HRO.out.one ?_; rw [World.setRow_alloc_new])
    have hb8 : Below w7.heap.size w7 (w7.alloc (.cells CO 23)) := (Below.refl _ _).alloc (Nat.le_refl _) _
    have H15 := Lib.hid (heap_alloc_new w7 (.cells CO 23))
    have HY5 := Lib.hid ((hb8.block _ HL7.out).trans HX5.out)
    have HB8 := Lib.hid (HB7.out.trans (hb8.mono (Nat.le_of_lt HL7.out)))
    clear hb8
    generalize w7.alloc (.cells CO 23) = w8 at H15 HY5 HB8 ⊢
    go_wp2_with (first
      | (refine wpList_load_row_g rfl 23 (.tmp 15) rfl w7.heap.size rfl 23 CO (0, 0) _ H15.out Try.underlying23 rfl HRO.out.info ?_)
      | (refine wpList_load_row_g rfl 23 (.tmp 5) rfl g5 rfl 23 CP (0, 0) _ HY5.out Try.underlying23 rfl HRP.out.info ?_))
    go_ret
    exact ⟨rfl, HGE.out ▸ HB8.out⟩

end Go.Proofs.Ytpifjeghoapjbaa.Evolve
