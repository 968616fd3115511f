/- reel: ReelKnown over any reels. -/
import Derived.Test.YtepcfmigkhacgaaDoorRmF
namespace Go.Proofs.YtepcfmigkhacgaaDoor.Rl
open Go.RowKit Go.Proofs.YtepcfmigkhacgaaDoor.Gr Go.Proofs.YtepcfmigkhacgaaDoor.Frame Go.Proofs.YtepcfmigkhacgaaDoor.Dk

abbrev txC : Tx := [99]
def wD : St := (appendR wC [txA, txB] txC).2.1
def wE : St := crashS wD [3]
def wF : St := (openS wE).2.1
theorem app_c : appendR wC [txA, txB] txC = (0, wD, [txA, txB, txC]) := by kernel_rfl
theorem open_f : openS wE = (0, wF, [txA, txB]) := by kernel_rfl
theorem ops_e : wE.ops = 4 := by kernel_rfl
theorem ops_f : wF.ops = 6 := by kernel_rfl
theorem get_b : (bs (getR wB [txA, txB] 1).1, (getR wB [txA, txB] 1).2) = (⟨#[98]⟩, 0) := by kernel_rfl
theorem get_n : (bs (getR wB [txA, txB] 2).1, (getR wB [txA, txB] 2).2) = (⟨#[]⟩, 5) := by kernel_rfl
def longL : ByteArray := bs (List.replicate 65537 108)
theorem app_long (S : St) (all : List Tx) : appendR S all longL.data.toList = (3, S, all) := by
  unfold appendR
  rw [if_pos (by show 65536 < (List.replicate 65537 (108 : UInt8)).length; rw [List.length_replicate]; decide)]
theorem long_size : longL.size ≤ maxLen := by
  unfold longL
  rw [bs_size, List.length_replicate]
  decide
theorem ki_one0 (w : World) (n : Int) : KI.At (w.alloc (.cells #[.int .i64 n] 3)) (.slice (some ⟨w.heap.size, 0, none⟩) 1 1) [n] :=
  Or.inr ⟨w.heap.size, 0, 1, rfl, by simp, Nat.le_refl _, fun j u hj => by
    rw [Nat.zero_add, Lib.cell_of_heap (heap_alloc_new w _)]
    simp only [Kind.flat, KI, List.flatMap_cons, List.flatMap_nil, List.append_nil] at hj
    rw [← hj]
    simp⟩
set_option maxRecDepth 100000 in
set_option maxHeartbeats 6400000 in
theorem known_any (C : Reels) (w : World) (ht : Tab w) (hrep : ∀ W : World, Calls Tryd.prog 18 #[.string ⟨#[108]⟩, .int .i64 65537] W fun e w' => e = .returned (.string longL) ∧ Below W.heap.size W w') :
    Calls Tryd.prog 3 #[] w fun e w' => e = .returned (.bool true) ∧ Below w.heap.size w w' := by
  have HH := Lib.hid (Home.of ht)
  have HWK := Lib.hid (fun (W : World) (hT : Tab W) => works_any C W hT)
  have HRP := Lib.hid hrep
  clear ht hrep
  go_enter Tryd.func3, Tryd.ntmps3
  go_wp2_with fail
  refine (code_New _).mono ?_
  rintro e w0 ⟨rfl, hd0, hb0⟩
  obtain ⟨B, hB⟩ : ∃ B, w.heap.size = B := ⟨_, rfl⟩
  have hh0 := HH.out.below hb0
  rw [hB] at hd0 hb0 hh0 ⊢
  have HM0 := Lib.hid (mine_new hd0 good_new (Nat.le_refl B))
  have HH0 := Lib.hid hh0
  have HB0 := Lib.hid hb0
  have HBE := Lib.hid hB
  clear hd0 hb0 hh0 hB HH
  go_wp2_with fail
  refine (mine_openTo C HM0.out HH0.out (by decide) open_new).mono ?_
  rintro e w1 ⟨q, F1, rfl, hm, hr⟩
  have HR1 := Lib.hid hr
  have HB1 := Lib.hid (HB0.out.trans (hm.down HM0.out.fb HH0.out.size))
  clear hm hr HM0 HB0 HH0
  go_wp2_with fail
  refine (HWK.out _ HR1.out.home.tab).mono ?_
  rintro e w2 ⟨rfl, hb⟩
  have HR2 := Lib.hid (HR1.out.below hb)
  have HB2 := Lib.hid (HB1.out.trans (hb.mono HR1.out.home.size))
  clear hb HR1 HB1
  go_wp2_with fail
  refine (HR2.out.append (by decide) ⟨#[97]⟩ (by decide) app_a).mono ?_
  rintro e w3 ⟨rfl, F3, hm, hr⟩
  have HR3 := Lib.hid hr
  have HB3 := Lib.hid (HB2.out.trans (hm.down HR2.out.fB HR2.out.home.size))
  clear hm hr HR2 HB2
  go_wp2_with fail
  refine (HR3.out.append (by decide) ⟨#[98]⟩ (by decide) app_b).mono ?_
  rintro e w4 ⟨rfl, F4, hm, hr⟩
  have HR4 := Lib.hid hr
  have HB4 := Lib.hid (HB3.out.trans (hm.down HR3.out.fB HR3.out.home.size))
  clear hm hr HR3 HB3
  go_wp2_with fail
  refine (HR4.out.len rfl).mono ?_
  rintro e w5 ⟨rfl, hb⟩
  have HR5 := Lib.hid (HR4.out.below hb)
  have HB5 := Lib.hid (HB4.out.trans (hb.mono HR4.out.home.size))
  clear hb HR4 HB4
  go_wp2_with fail
  refine (HR5.out.sure).mono ?_
  rintro e w6 ⟨rfl, hb⟩
  have HR6 := Lib.hid (HR5.out.below hb)
  have HB6 := Lib.hid (HB5.out.trans (hb.mono HR5.out.home.size))
  clear hb HR5 HB5
  go_wp2_with fail
  refine (HR6.out.get get_b).mono ?_
  rintro e w7 ⟨rfl, hb⟩
  have HR7 := Lib.hid (HR6.out.below hb)
  have HB7 := Lib.hid (HB6.out.trans (hb.mono HR6.out.home.size))
  clear hb HR6 HB6
  go_wp2_with fail
  refine (HR7.out.get get_n).mono ?_
  rintro e w8 ⟨rfl, hb⟩
  have HR8 := Lib.hid (HR7.out.below hb)
  have HB8 := Lib.hid (HB7.out.trans (hb.mono HR7.out.home.size))
  clear hb HR7 HB7
  go_wp2_with fail
  refine (HR8.out.sync (by decide) syn_c).mono ?_
  rintro e w9 ⟨rfl, F9, hm, hr⟩
  have HR9 := Lib.hid hr
  have HB9 := Lib.hid (HB8.out.trans (hm.down HR8.out.fB HR8.out.home.size))
  clear hm hr HR8 HB8
  go_wp2_with fail
  refine (HR9.out.append (by decide) ⟨#[99]⟩ (by decide) app_c).mono ?_
  rintro e w10 ⟨rfl, F10, hm, hr⟩
  have HR10 := Lib.hid hr
  have HB10 := Lib.hid (HB9.out.trans (hm.down HR9.out.fB HR9.out.home.size))
  clear hm hr HR9 HB9
  have hba : Below w10.heap.size w10 (w10.alloc (.cells #[.int .i64 3] 3)) := (Below.refl _ _).alloc (Nat.le_refl _) _
  have HRa := Lib.hid (HR10.out.below hba)
  have HBa := Lib.hid (HB10.out.trans (hba.mono HR10.out.home.size))
  obtain ⟨lva, hda, _⟩ := HRa.out.disk
  have HDa := Lib.hid hda
  clear hba hda HR10 HB10
  go_wp2_with fail
  refine (HDa.out.crashTo (by decide) HRa.out.home.size (ki_one0 w10 3) (show crashS wD [3] = wE from rfl)).mono ?_
  rintro e wc ⟨rfl, hbc, lvc, hdc⟩
  have HDc := Lib.hid hdc
  have HHc := Lib.hid (HRa.out.home.down hbc)
  have HBc := Lib.hid (HBa.out.trans hbc)
  clear hdc hbc HRa HBa HDa
  go_wp2_with fail
  refine (HDc.out.opsTo ops_e).mono ?_
  rintro e w' ⟨rfl, rfl⟩
  go_wp2_with fail
  refine (mine_openTo C HDc.out HHc.out (by decide) open_f).mono ?_
  rintro e w30 ⟨q30, F30, rfl, hm, hr⟩
  have HR30 := Lib.hid hr
  have HB30 := Lib.hid (HBc.out.trans (hm.down HDc.out.fb HHc.out.size))
  clear hm hr HDc HHc HBc
  go_wp2_with fail
  refine (HR30.out.len rfl).mono ?_
  rintro e w31 ⟨rfl, hb⟩
  have HR31 := Lib.hid (HR30.out.below hb)
  have HB31 := Lib.hid (HB30.out.trans (hb.mono HR30.out.home.size))
  clear hb HR30 HB30
  obtain ⟨lve, hde, _⟩ := HR31.out.disk
  have HDe := Lib.hid hde
  clear hde
  go_wp2_with fail
  refine (HDe.out.opsTo ops_f).mono ?_
  rintro e w' ⟨rfl, rfl⟩
  go_wp2_with fail
  refine (HRP.out _).mono ?_
  rintro e w40 ⟨rfl, hb⟩
  have HR40 := Lib.hid (HR31.out.below hb)
  have HB40 := Lib.hid (HB31.out.trans (hb.mono HR31.out.home.size))
  clear hb HR31 HB31 HDe
  go_wp2_with fail
  refine (HR40.out.append (by decide) longL long_size (app_long _ _)).mono ?_
  rintro e w41 ⟨rfl, F41, hm, hr⟩
  have HR41 := Lib.hid hr
  have HB41 := Lib.hid (HB40.out.trans (hm.down HR40.out.fB HR40.out.home.size))
  clear hm hr HR40 HB40
  generalize longL = ll at *
  go_wp2_with fail
  refine (C.openNil _).mono ?_
  rintro e w42 ⟨rfl, hb⟩
  have HB42 := Lib.hid (HB41.out.trans (hb.mono (by rw [← HBE.out]; exact HB41.out.size)))
  clear hb HB41
  go_wp2_with fail
  refine (C.getNil _ _).mono ?_
  rintro e w43 ⟨rfl, hb⟩
  have HB43 := Lib.hid (HB42.out.trans (hb.mono (by rw [← HBE.out]; exact HB42.out.size)))
  clear hb HB42
  go_wp2_with fail
  refine (C.appendNil _ _).mono ?_
  rintro e w44 ⟨rfl, hb⟩
  have HB44 := Lib.hid (HB43.out.trans (hb.mono (by rw [← HBE.out]; exact HB43.out.size)))
  clear hb HB43
  go_wp2_with fail
  refine (C.syncNil _).mono ?_
  rintro e w45 ⟨rfl, hb⟩
  have HB45 := Lib.hid (HB44.out.trans (hb.mono (by rw [← HBE.out]; exact HB44.out.size)))
  clear hb HB44
  go_wp2_with fail
  refine (C.lenNil _).mono ?_
  rintro e w46 ⟨rfl, hb⟩
  have HB46 := Lib.hid (HB45.out.trans (hb.mono (by rw [← HBE.out]; exact HB45.out.size)))
  clear hb HB45
  go_wp2_with fail
  refine (C.sureNil _).mono ?_
  rintro e w47 ⟨rfl, hb⟩
  have HB47 := Lib.hid (HB46.out.trans (hb.mono (by rw [← HBE.out]; exact HB46.out.size)))
  clear hb HB46
  go_wp2_with fail
  go_ret
  exact ⟨rfl, by rw [HBE.out]; exact HB47.out⟩
end Go.Proofs.YtepcfmigkhacgaaDoor.Rl
