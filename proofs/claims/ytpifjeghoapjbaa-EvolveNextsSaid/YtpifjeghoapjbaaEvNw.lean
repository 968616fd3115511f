/- evolve: May, Public, Next and Sign answer as the document's own: the law EvolveNexts walked. -/
import Derived.Test.YtpifjeghoapjbaaEwG
import Derived.Test.YtpifjeghoapjbaaEvL
import Derived.Test.YtpifjeghoapjbaaEvW
namespace Go.Proofs.Ytpifjeghoapjbaa.Evolve
open Go.RowKit Go.Proofs.Ytpifjeghoapjbaa.Sha Go.Proofs.Ytpifjeghoapjbaa.Tree Go.Proofs.Ytpifjeghoapjbaa.Once

set_option maxRecDepth 100000 in
set_option maxHeartbeats 12800000 in
attribute [local irreducible] Go.wpQuiet in
theorem nexts_walk (b : Bool) (er en : Int) (hc : (b = true ∧ er = 0 ∧ en = 0) ∨ (b = true ∧ er = 0 ∧ en = 4) ∨ (b = false ∧ er = 2 ∧ en = 2)) (d p : Int) (leaf : List UInt8) (hl : leaf.length = 32) (ar as_ : Option Addr) (nr cr ns cs : Nat) (hnr : nr ≤ 40) (hns : ns ≤ 40) (m : List UInt8) (hml : m.length = 32) (w : World) (pub : List UInt8) (hpub : pub.length = 32) (sg : ByteArray) (d' p' : Int) (T : List UInt8) (hT : T.length = 32) (R' S' : List (List UInt8)) (h32R : H32 R') (h32S : H32 S') (hRn : R'.length ≤ 1000) (hSn : S'.length ≤ 1000)
    (hmr : ∀ w', Below w.heap.size w w' → Calls Try.prog 19 #[.agg (evRow d p leaf (.slice ar nr cr) (.slice as_ ns cs))] w' fun e w'' => e = .returned (.bool b) ∧ Below w'.heap.size w' w'')
    (hmc : ∀ w', Below w.heap.size w w' → Calls Try.prog 20 #[.agg (evRow d p leaf (.slice ar nr cr) (.slice as_ ns cs))] w' fun e w'' => e = .returned (.int .i64 er) ∧ Below w'.heap.size w' w'')
    (hpc : ∀ w', Below w.heap.size w w' → Calls Try.prog 21 #[.agg (evRow d p leaf (.slice ar nr cr) (.slice as_ ns cs))] w' fun e w'' => e = .returned (.tuple #[.agg (valsB pub).toArray, .int .i64 er]) ∧ Below w'.heap.size w' w'')
    (hpr : ∀ w', Below w.heap.size w w' → Calls Try.prog 22 #[.agg (evRow d p leaf (.slice ar nr cr) (.slice as_ ns cs))] w' fun e w'' => e = .returned (.tuple #[.agg (valsB pub).toArray, .int .i64 er]) ∧ Below w'.heap.size w' w'')
    (hnc : ∀ w', Below w.heap.size w w' → Calls Try.prog 11 #[.agg (evRow d p leaf (.slice ar nr cr) (.slice as_ ns cs))] w' fun e w'' => ∃ v, e = .returned (.tuple #[v, .int .i64 en]) ∧ (FactK.ev d' p' T R' S').holds v w'' ∧ Below w'.heap.size w' w'')
    (hnx : ∀ w', Below w.heap.size w w' → Calls Try.prog 23 #[.agg (evRow d p leaf (.slice ar nr cr) (.slice as_ ns cs))] w' fun e w'' => ∃ v, e = .returned (.tuple #[v, .int .i64 en]) ∧ (FactK.ev d' p' T R' S').holds v w'' ∧ Below w'.heap.size w' w'')
    (hsc : ∀ w', Below w.heap.size w w' → Calls Try.prog 15 #[.agg (evRow d p leaf (.slice ar nr cr) (.slice as_ ns cs)), .agg (valsB m).toArray] w' fun e w'' => e = .returned (.tuple #[.string sg, .int .i64 er]) ∧ Below w'.heap.size w' w'')
    (hsr : ∀ w', Below w.heap.size w w' → Calls Try.prog 24 #[.agg (evRow d p leaf (.slice ar nr cr) (.slice as_ ns cs)), .agg (valsB m).toArray] w' fun e w'' => e = .returned (.tuple #[.string sg, .int .i64 er]) ∧ Below w'.heap.size w' w'') :
    Calls Try.prog 5 #[.agg (evRow d p leaf (.slice ar nr cr) (.slice as_ ns cs)), .agg (valsB m).toArray] w fun e w' => e = .returned (.bool true) ∧ Below w.heap.size w w' := by
  have HWK := Lib.hid works_any
  have HGT := Lib.hid (fun w => code_great d p leaf hl ar as_ nr cr ns cs w)
  have HEI := Lib.hid (ev_info d p leaf (.slice ar nr cr) (.slice as_ ns cs) hl)
  have HRM := Lib.hid (row32 m hml)
  have HRP := Lib.hid (row32 pub hpub)
  have HE := fun w => eqIn_hash pub pub hpub hpub w
  have HTL := Lib.hid hT
  have HR32 := Lib.hid h32R
  have HS32 := Lib.hid h32S
  have HRN := Lib.hid hRn
  have HSN := Lib.hid hSn
  rw [show (decide (40 < nr) || decide (40 < ns)) = false by simp; omega] at HGT
  obtain ⟨E, hE⟩ : ∃ E, evRow d p leaf (.slice ar nr cr) (.slice as_ ns cs) = E := ⟨_, rfl⟩
  obtain ⟨CM, hCM⟩ : ∃ C, (valsB m).toArray = C := ⟨_, rfl⟩
  obtain ⟨CP, hCP⟩ : ∃ C, (valsB pub).toArray = C := ⟨_, rfl⟩
  rw [hE] at HGT HEI hmr hmc hpc hpr hnc hnx hsc hsr
  rw [hCM] at HRM hsc hsr
  rw [hCP] at HRP hpc hpr
  rw [hCP, show (pub == pub) = true by simp] at HE
  rw [hE, hCM]
  have HEQ := Lib.hid HE
  clear hE hCM hCP hl hml hpub hT h32R h32S hRn hSn HE
  have HMR := Lib.hid hmr
  have HMC := Lib.hid hmc
  have HPC := Lib.hid hpc
  have HPR := Lib.hid hpr
  have HNC := Lib.hid hnc
  have HNR := Lib.hid hnx
  have HSC := Lib.hid hsc
  have HSR := Lib.hid hsr
  clear hmr hmc hpc hpr hnc hnx hsc hsr
  rcases hc with ⟨rfl, rfl, rfl⟩ | ⟨rfl, rfl, rfl⟩ | ⟨rfl, rfl, rfl⟩
  · go_enter Try.func5, Try.ntmps5
    go_upto_region 1 with (fail)
    have HA0 := Lib.hid (heap_alloc2_old w (.cells E 26) (.cells CM 23))
    have HA1 := Lib.hid (heap_alloc2_new w (.cells E 26) (.cells CM 23))
    have HBW := Lib.hid (show Below w.heap.size w ((w.alloc (.cells E 26)).alloc (.cells CM 23)) from ((Below.refl _ _).alloc (Nat.le_refl _) _).alloc (by simp) _)
    have hs0 : ((w.alloc (.cells E 26)).alloc (.cells CM 23)).heap.size = w.heap.size + 2 := by simp
    generalize ((w.alloc (.cells E 26)).alloc (.cells CM 23)) = W at HA0 HA1 HBW hs0 ⊢
    obtain ⟨g2, hg2⟩ : ∃ x, w.heap.size = x := ⟨_, rfl⟩
    obtain ⟨g3, hg3⟩ : ∃ x, g2 + 1 = x := ⟨_, rfl⟩
    rw [hg2] at HA0 HA1 HBW hs0
    rw [hg3] at HA1
    rw [hg2, hg3]
    have HGE := Lib.hid hg2
    have HLT := Lib.hid (show g2 < g3 ∧ g3 < W.heap.size by omega)
    clear hg2 hg3 hs0
    go_wp2_with (refine wpList_load_row rfl 26 (.tmp 2) rfl g2 rfl 26 E (0, 0) _ HA0.out Try.underlying26 rfl HEI.out ?_)
    refine (HGT.out _).mono ?_
    rintro e w3 ⟨rfl, hb3⟩
    have Ha3 := Lib.hid ((hb3.block _ (Nat.lt_trans HLT.out.1 HLT.out.2)).trans HA0.out)
    have Hb3 := Lib.hid ((hb3.block _ HLT.out.2).trans HA1.out)
    have HB3 := Lib.hid (HBW.out.trans (hb3.mono (by have := HLT.out; omega)))
    have HL3 := Lib.hid (show g2 < w3.heap.size ∧ g3 < w3.heap.size by have := HLT.out; have := hb3.size; omega)
    clear hb3
    go_wp2_with (refine wpList_load_row rfl 26 (.tmp 2) rfl g2 rfl 26 E (0, 0) _ Ha3.out Try.underlying26 rfl HEI.out ?_)
    refine (HMR.out _ (HGE.out ▸ HB3.out)).mono ?_
    rintro e w4 ⟨rfl, hb4⟩
    have Ha4 := Lib.hid ((hb4.block g2 (by have := HL3.out; omega)).trans Ha3.out)
    have Hb4 := Lib.hid ((hb4.block g3 (by have := HL3.out; omega)).trans Hb3.out)
    have HB4 := Lib.hid (HB3.out.trans (hb4.mono (by have := HL3.out; omega)))
    have HL4 := Lib.hid (show g2 < w4.heap.size ∧ g3 < w4.heap.size by have := HL3.out; have := hb4.size; omega)
    clear hb4
    go_wp2_with (refine wpList_load_row rfl 26 (.tmp 2) rfl g2 rfl 26 E (0, 0) _ Ha4.out Try.underlying26 rfl HEI.out ?_)
    refine (HMC.out _ (HGE.out ▸ HB4.out)).mono ?_
    rintro e w5 ⟨rfl, hb5⟩
    have Ha5 := Lib.hid ((hb5.block g2 (by have := HL4.out; omega)).trans Ha4.out)
    have Hb5 := Lib.hid ((hb5.block g3 (by have := HL4.out; omega)).trans Hb4.out)
    have HB5 := Lib.hid (HB4.out.trans (hb5.mono (by have := HL4.out; omega)))
    have HL5 := Lib.hid (show g2 < w5.heap.size ∧ g3 < w5.heap.size by have := HL4.out; have := hb5.size; omega)
    clear hb5
    go_wp2_with (refine wpList_load_row rfl 26 (.tmp 2) rfl g2 rfl 26 E (0, 0) _ Ha5.out Try.underlying26 rfl HEI.out ?_)
    refine (HPC.out _ (HGE.out ▸ HB5.out)).mono ?_
    rintro e w6 ⟨rfl, hb6⟩
    have Ha6 := Lib.hid ((hb6.block g2 (by have := HL5.out; omega)).trans Ha5.out)
    have Hb6 := Lib.hid ((hb6.block g3 (by have := HL5.out; omega)).trans Hb5.out)
    have HB6 := Lib.hid (HB5.out.trans (hb6.mono (by have := HL5.out; omega)))
    have HL6 := Lib.hid (show g2 < w6.heap.size ∧ g3 < w6.heap.size by have := HL5.out; have := hb6.size; omega)
    clear hb6
    go_upto_region 9 with (refine wpList_store_row rfl 23 (.tmp 6) (.tmp 26) rfl w6.heap.size CP rfl rfl 23 _ (heap_alloc_new _ _) HRP.out.info (by rw [HRP.out.size]; rfl) HRP.out.one ?_; rw [World.setRow_alloc_new])
    have hbn : Below w6.heap.size w6 (w6.alloc (.cells CP 23)) := (Below.refl _ _).alloc (Nat.le_refl _) _
    have hnn := heap_alloc_new w6 (.cells CP 23)
    have hsn : (w6.alloc (.cells CP 23)).heap.size = w6.heap.size + 1 := by simp
    have Ha7 := Lib.hid ((hbn.block g2 (by have := HL6.out; omega)).trans Ha6.out)
    have Hb7 := Lib.hid ((hbn.block g3 (by have := HL6.out; omega)).trans Hb6.out)
    have HB7 := Lib.hid (HB6.out.trans (hbn.mono (by have := HL6.out; omega)))
    generalize w6.alloc (.cells CP 23) = w7 at Ha7 Hb7 HB7 hnn hsn ⊢
    obtain ⟨gc, hgc⟩ : ∃ x, w6.heap.size = x := ⟨_, rfl⟩
    have HL7 := Lib.hid (show g2 < w7.heap.size ∧ g3 < w7.heap.size ∧ gc < w7.heap.size by have := HL6.out; omega)
    rw [hgc] at hnn
    rw [hgc]
    have Hc7 := Lib.hid hnn
    clear hbn hsn hnn hgc
    go_wp2_with (refine wpList_load_row rfl 26 (.tmp 2) rfl g2 rfl 26 E (0, 0) _ Ha7.out Try.underlying26 rfl HEI.out ?_)
    refine (HPR.out _ (HGE.out ▸ HB7.out)).mono ?_
    rintro e w8 ⟨rfl, hb8⟩
    have Ha8 := Lib.hid ((hb8.block g2 (by have := HL7.out; omega)).trans Ha7.out)
    have Hb8 := Lib.hid ((hb8.block g3 (by have := HL7.out; omega)).trans Hb7.out)
    have Hc8 := Lib.hid ((hb8.block gc (by have := HL7.out; omega)).trans Hc7.out)
    have HB8 := Lib.hid (HB7.out.trans (hb8.mono (by have := HL7.out; omega)))
    have HL8 := Lib.hid (show g2 < w8.heap.size ∧ g3 < w8.heap.size ∧ gc < w8.heap.size by have := HL7.out; have := hb8.size; omega)
    clear hb8
    go_upto_region 10 with (refine wpList_store_row rfl 23 (.tmp 7) (.tmp 31) rfl w8.heap.size CP rfl rfl 23 _ (heap_alloc_new _ _) HRP.out.info (by rw [HRP.out.size]; rfl) HRP.out.one ?_; rw [World.setRow_alloc_new])
    have hbn : Below w8.heap.size w8 (w8.alloc (.cells CP 23)) := (Below.refl _ _).alloc (Nat.le_refl _) _
    have hnn := heap_alloc_new w8 (.cells CP 23)
    have hsn : (w8.alloc (.cells CP 23)).heap.size = w8.heap.size + 1 := by simp
    have Ha9 := Lib.hid ((hbn.block g2 (by have := HL8.out; omega)).trans Ha8.out)
    have Hb9 := Lib.hid ((hbn.block g3 (by have := HL8.out; omega)).trans Hb8.out)
    have Hc9 := Lib.hid ((hbn.block gc (by have := HL8.out; omega)).trans Hc8.out)
    have HB9 := Lib.hid (HB8.out.trans (hbn.mono (by have := HL8.out; omega)))
    generalize w8.alloc (.cells CP 23) = w9 at Ha9 Hb9 Hc9 HB9 hnn hsn ⊢
    obtain ⟨gd, hgd⟩ : ∃ x, w8.heap.size = x := ⟨_, rfl⟩
    have HL9 := Lib.hid (show g2 < w9.heap.size ∧ g3 < w9.heap.size ∧ gc < w9.heap.size ∧ gd < w9.heap.size by have := HL8.out; omega)
    rw [hgd] at hnn
    rw [hgd]
    have Hd9 := Lib.hid hnn
    clear hbn hsn hnn hgd
    have hE := HEQ.out
    go_wp2_with (first
      | (refine wpList_load_row rfl 23 (.tmp 6) rfl gc rfl 23 CP (0, 0) _ Hc9.out Try.underlying23 rfl HRP.out.info ?_)
      | (refine wpList_load_row rfl 23 (.tmp 7) rfl gd rfl 23 CP (0, 0) _ Hd9.out Try.underlying23 rfl HRP.out.info ?_)
      | (refine wpList_load_row rfl 26 (.tmp 2) rfl g2 rfl 26 E (0, 0) _ Ha9.out Try.underlying26 rfl HEI.out ?_))
    clear hE
    refine (HNC.out _ (HGE.out ▸ HB9.out)).mono ?_
    rintro e w10 ⟨v, rfl, ⟨ua, uan, uac, va, van, vac, rfl, h1, h2⟩, hb10⟩
    have HU110 := Lib.hid h1
    have HU210 := Lib.hid h2
    clear h1 h2
    have Ha10 := Lib.hid ((hb10.block g2 (by have := HL9.out; omega)).trans Ha9.out)
    have Hb10 := Lib.hid ((hb10.block g3 (by have := HL9.out; omega)).trans Hb9.out)
    have HB10 := Lib.hid (HB9.out.trans (hb10.mono (by have := HL9.out; omega)))
    have HL10 := Lib.hid (show g2 < w10.heap.size ∧ g3 < w10.heap.size by have := HL9.out; have := hb10.size; omega)
    clear hb10
    have HAI := Lib.hid (ev_info d' p' T (.slice ua uan uac) (.slice va van vac) HTL.out)
    have HAO := Lib.hid (ev_one d' p' T ua va uan uac van vac)
    have HAZ := Lib.hid (show ZEv.size = (evRow d' p' T (.slice ua uan uac) (.slice va van vac)).size by rw [zev_size, evRow_size _ _ _ _ _ HTL.out])
    have HSA := Lib.hid (fun xa xan xac za zan zac w h1 h2 h3 h4 => same_any d' p' T HTL.out ua xa va za uan van xan zan uac xac vac zac R' S' w h1 h2 h3 h4 HR32.out HS32.out HRN.out HSN.out)
    obtain ⟨EA, hEA⟩ : ∃ X, evRow d' p' T (.slice ua uan uac) (.slice va van vac) = X := ⟨_, rfl⟩
    rw [hEA] at HAI HAO HAZ HSA
    rw [hEA]
    clear hEA
    go_upto_region 13 with (refine wpList_store_row rfl 26 (.tmp 9) (.tmp 44) rfl w10.heap.size EA rfl rfl 26 ZEv (heap_alloc_new _ _) HAI.out HAZ.out HAO.out ?_; rw [World.setRow_alloc_new])
    have hbn : Below w10.heap.size w10 (w10.alloc (.cells EA 26)) := (Below.refl _ _).alloc (Nat.le_refl _) _
    have hnn := heap_alloc_new w10 (.cells EA 26)
    have hsn : (w10.alloc (.cells EA 26)).heap.size = w10.heap.size + 1 := by simp
    have Ha11 := Lib.hid ((hbn.block g2 (by have := HL10.out; omega)).trans Ha10.out)
    have Hb11 := Lib.hid ((hbn.block g3 (by have := HL10.out; omega)).trans Hb10.out)
    have HU111 := Lib.hid (HU110.out.kept hbn)
    have HU211 := Lib.hid (HU210.out.kept hbn)
    have HB11 := Lib.hid (HB10.out.trans (hbn.mono (by have := HL10.out; omega)))
    generalize w10.alloc (.cells EA 26) = w11 at Ha11 Hb11 HU111 HU211 HB11 hnn hsn ⊢
    obtain ⟨ge, hge⟩ : ∃ x, w10.heap.size = x := ⟨_, rfl⟩
    have HL11 := Lib.hid (show g2 < w11.heap.size ∧ g3 < w11.heap.size ∧ ge < w11.heap.size by have := HL10.out; omega)
    rw [hge] at hnn
    rw [hge]
    have He11 := Lib.hid hnn
    clear hbn hsn hnn hge
    go_wp2_with (refine wpList_load_row rfl 26 (.tmp 2) rfl g2 rfl 26 E (0, 0) _ Ha11.out Try.underlying26 rfl HEI.out ?_)
    refine (HNR.out _ (HGE.out ▸ HB11.out)).mono ?_
    rintro e w12 ⟨v, rfl, ⟨xa, xan, xac, za, zan, zac, rfl, h3, h4⟩, hb12⟩
    have HV112 := Lib.hid h3
    have HV212 := Lib.hid h4
    clear h3 h4
    have Ha12 := Lib.hid ((hb12.block g2 (by have := HL11.out; omega)).trans Ha11.out)
    have Hb12 := Lib.hid ((hb12.block g3 (by have := HL11.out; omega)).trans Hb11.out)
    have He12 := Lib.hid ((hb12.block ge (by have := HL11.out; omega)).trans He11.out)
    have HU112 := Lib.hid (HU111.out.kept hb12)
    have HU212 := Lib.hid (HU211.out.kept hb12)
    have HB12 := Lib.hid (HB11.out.trans (hb12.mono (by have := HL11.out; omega)))
    have HL12 := Lib.hid (show g2 < w12.heap.size ∧ g3 < w12.heap.size ∧ ge < w12.heap.size by have := HL11.out; have := hb12.size; omega)
    clear hb12
    have HBI := Lib.hid (ev_info d' p' T (.slice xa xan xac) (.slice za zan zac) HTL.out)
    have HBO := Lib.hid (ev_one d' p' T xa za xan xac zan zac)
    have HBZ := Lib.hid (show ZEv.size = (evRow d' p' T (.slice xa xan xac) (.slice za zan zac)).size by rw [zev_size, evRow_size _ _ _ _ _ HTL.out])
    have HSB := Lib.hid (fun w h1 h2 h3 h4 => HSA.out xa xan xac za zan zac w h1 h2 h3 h4)
    obtain ⟨EB, hEB⟩ : ∃ X, evRow d' p' T (.slice xa xan xac) (.slice za zan zac) = X := ⟨_, rfl⟩
    rw [hEB] at HBI HBO HBZ HSB
    rw [hEB]
    clear hEB
    go_upto_region 14 with (refine wpList_store_row rfl 26 (.tmp 10) (.tmp 49) rfl w12.heap.size EB rfl rfl 26 ZEv (heap_alloc_new _ _) HBI.out HBZ.out HBO.out ?_; rw [World.setRow_alloc_new])
    have hbn : Below w12.heap.size w12 (w12.alloc (.cells EB 26)) := (Below.refl _ _).alloc (Nat.le_refl _) _
    have hnn := heap_alloc_new w12 (.cells EB 26)
    have hsn : (w12.alloc (.cells EB 26)).heap.size = w12.heap.size + 1 := by simp
    have Ha13 := Lib.hid ((hbn.block g2 (by have := HL12.out; omega)).trans Ha12.out)
    have Hb13 := Lib.hid ((hbn.block g3 (by have := HL12.out; omega)).trans Hb12.out)
    have He13 := Lib.hid ((hbn.block ge (by have := HL12.out; omega)).trans He12.out)
    have HU113 := Lib.hid (HU112.out.kept hbn)
    have HU213 := Lib.hid (HU212.out.kept hbn)
    have HV113 := Lib.hid (HV112.out.kept hbn)
    have HV213 := Lib.hid (HV212.out.kept hbn)
    have HB13 := Lib.hid (HB12.out.trans (hbn.mono (by have := HL12.out; omega)))
    generalize w12.alloc (.cells EB 26) = w13 at Ha13 Hb13 He13 HU113 HU213 HV113 HV213 HB13 hnn hsn ⊢
    obtain ⟨gf, hgf⟩ : ∃ x, w12.heap.size = x := ⟨_, rfl⟩
    have HL13 := Lib.hid (show g2 < w13.heap.size ∧ g3 < w13.heap.size ∧ ge < w13.heap.size ∧ gf < w13.heap.size by have := HL12.out; omega)
    rw [hgf] at hnn
    rw [hgf]
    have Hf13 := Lib.hid hnn
    clear hbn hsn hnn hgf
    go_wp2_with (first
      | (refine wpList_load_row rfl 26 (.tmp 9) rfl ge rfl 26 EA (0, 0) _ He13.out Try.underlying26 rfl HAI.out ?_)
      | (refine wpList_load_row rfl 26 (.tmp 10) rfl gf rfl 26 EB (0, 0) _ Hf13.out Try.underlying26 rfl HBI.out ?_))
    refine (HSB.out _ HU113.out HV113.out HU213.out HV213.out).mono ?_
    rintro e w14 ⟨rfl, hb14⟩
    have Ha14 := Lib.hid ((hb14.block g2 (by have := HL13.out; omega)).trans Ha13.out)
    have Hb14 := Lib.hid ((hb14.block g3 (by have := HL13.out; omega)).trans Hb13.out)
    have HB14 := Lib.hid (HB13.out.trans (hb14.mono (by have := HL13.out; omega)))
    have HL14 := Lib.hid (show g2 < w14.heap.size ∧ g3 < w14.heap.size by have := HL13.out; have := hb14.size; omega)
    clear hb14
    go_wp2_with (first
      | (refine wpList_load_row rfl 26 (.tmp 2) rfl g2 rfl 26 E (0, 0) _ Ha14.out Try.underlying26 rfl HEI.out ?_)
      | (refine wpList_load_row rfl 23 (.tmp 3) rfl g3 rfl 23 CM (0, 0) _ Hb14.out Try.underlying23 rfl HRM.out.info ?_))
    refine (HSC.out _ (HGE.out ▸ HB14.out)).mono ?_
    rintro e w15 ⟨rfl, hb15⟩
    have Ha15 := Lib.hid ((hb15.block g2 (by have := HL14.out; omega)).trans Ha14.out)
    have Hb15 := Lib.hid ((hb15.block g3 (by have := HL14.out; omega)).trans Hb14.out)
    have HB15 := Lib.hid (HB14.out.trans (hb15.mono (by have := HL14.out; omega)))
    have HL15 := Lib.hid (show g2 < w15.heap.size ∧ g3 < w15.heap.size by have := HL14.out; have := hb15.size; omega)
    clear hb15
    go_wp2_with (first
      | (refine wpList_load_row rfl 26 (.tmp 2) rfl g2 rfl 26 E (0, 0) _ Ha15.out Try.underlying26 rfl HEI.out ?_)
      | (refine wpList_load_row rfl 23 (.tmp 3) rfl g3 rfl 23 CM (0, 0) _ Hb15.out Try.underlying23 rfl HRM.out.info ?_))
    refine (HSR.out _ (HGE.out ▸ HB15.out)).mono ?_
    rintro e w16 ⟨rfl, hb16⟩
    have Ha16 := Lib.hid ((hb16.block g2 (by have := HL15.out; omega)).trans Ha15.out)
    have Hb16 := Lib.hid ((hb16.block g3 (by have := HL15.out; omega)).trans Hb15.out)
    have HB16 := Lib.hid (HB15.out.trans (hb16.mono (by have := HL15.out; omega)))
    have HL16 := Lib.hid (show g2 < w16.heap.size ∧ g3 < w16.heap.size by have := HL15.out; have := hb16.size; omega)
    clear hb16
    go_wp2_with fail
    refine (HWK.out _).mono ?_
    rintro e w17 ⟨rfl, hb17⟩
    have HBF := Lib.hid (HB16.out.trans (hb17.mono (by have := HL16.out; omega)))
    clear hb17
    go_wp2_with fail
    go_ret
    exact ⟨rfl, HGE.out ▸ HBF.out⟩
  · go_enter Try.func5, Try.ntmps5
    go_upto_region 1 with (fail)
    have HA0 := Lib.hid (heap_alloc2_old w (.cells E 26) (.cells CM 23))
    have HA1 := Lib.hid (heap_alloc2_new w (.cells E 26) (.cells CM 23))
    have HBW := Lib.hid (show Below w.heap.size w ((w.alloc (.cells E 26)).alloc (.cells CM 23)) from ((Below.refl _ _).alloc (Nat.le_refl _) _).alloc (by simp) _)
    have hs0 : ((w.alloc (.cells E 26)).alloc (.cells CM 23)).heap.size = w.heap.size + 2 := by simp
    generalize ((w.alloc (.cells E 26)).alloc (.cells CM 23)) = W at HA0 HA1 HBW hs0 ⊢
    obtain ⟨g2, hg2⟩ : ∃ x, w.heap.size = x := ⟨_, rfl⟩
    obtain ⟨g3, hg3⟩ : ∃ x, g2 + 1 = x := ⟨_, rfl⟩
    rw [hg2] at HA0 HA1 HBW hs0
    rw [hg3] at HA1
    rw [hg2, hg3]
    have HGE := Lib.hid hg2
    have HLT := Lib.hid (show g2 < g3 ∧ g3 < W.heap.size by omega)
    clear hg2 hg3 hs0
    go_wp2_with (refine wpList_load_row rfl 26 (.tmp 2) rfl g2 rfl 26 E (0, 0) _ HA0.out Try.underlying26 rfl HEI.out ?_)
    refine (HGT.out _).mono ?_
    rintro e w3 ⟨rfl, hb3⟩
    have Ha3 := Lib.hid ((hb3.block _ (Nat.lt_trans HLT.out.1 HLT.out.2)).trans HA0.out)
    have Hb3 := Lib.hid ((hb3.block _ HLT.out.2).trans HA1.out)
    have HB3 := Lib.hid (HBW.out.trans (hb3.mono (by have := HLT.out; omega)))
    have HL3 := Lib.hid (show g2 < w3.heap.size ∧ g3 < w3.heap.size by have := HLT.out; have := hb3.size; omega)
    clear hb3
    go_wp2_with (refine wpList_load_row rfl 26 (.tmp 2) rfl g2 rfl 26 E (0, 0) _ Ha3.out Try.underlying26 rfl HEI.out ?_)
    refine (HMR.out _ (HGE.out ▸ HB3.out)).mono ?_
    rintro e w4 ⟨rfl, hb4⟩
    have Ha4 := Lib.hid ((hb4.block g2 (by have := HL3.out; omega)).trans Ha3.out)
    have Hb4 := Lib.hid ((hb4.block g3 (by have := HL3.out; omega)).trans Hb3.out)
    have HB4 := Lib.hid (HB3.out.trans (hb4.mono (by have := HL3.out; omega)))
    have HL4 := Lib.hid (show g2 < w4.heap.size ∧ g3 < w4.heap.size by have := HL3.out; have := hb4.size; omega)
    clear hb4
    go_wp2_with (refine wpList_load_row rfl 26 (.tmp 2) rfl g2 rfl 26 E (0, 0) _ Ha4.out Try.underlying26 rfl HEI.out ?_)
    refine (HMC.out _ (HGE.out ▸ HB4.out)).mono ?_
    rintro e w5 ⟨rfl, hb5⟩
    have Ha5 := Lib.hid ((hb5.block g2 (by have := HL4.out; omega)).trans Ha4.out)
    have Hb5 := Lib.hid ((hb5.block g3 (by have := HL4.out; omega)).trans Hb4.out)
    have HB5 := Lib.hid (HB4.out.trans (hb5.mono (by have := HL4.out; omega)))
    have HL5 := Lib.hid (show g2 < w5.heap.size ∧ g3 < w5.heap.size by have := HL4.out; have := hb5.size; omega)
    clear hb5
    go_wp2_with (refine wpList_load_row rfl 26 (.tmp 2) rfl g2 rfl 26 E (0, 0) _ Ha5.out Try.underlying26 rfl HEI.out ?_)
    refine (HPC.out _ (HGE.out ▸ HB5.out)).mono ?_
    rintro e w6 ⟨rfl, hb6⟩
    have Ha6 := Lib.hid ((hb6.block g2 (by have := HL5.out; omega)).trans Ha5.out)
    have Hb6 := Lib.hid ((hb6.block g3 (by have := HL5.out; omega)).trans Hb5.out)
    have HB6 := Lib.hid (HB5.out.trans (hb6.mono (by have := HL5.out; omega)))
    have HL6 := Lib.hid (show g2 < w6.heap.size ∧ g3 < w6.heap.size by have := HL5.out; have := hb6.size; omega)
    clear hb6
    go_upto_region 9 with (refine wpList_store_row rfl 23 (.tmp 6) (.tmp 26) rfl w6.heap.size CP rfl rfl 23 _ (heap_alloc_new _ _) HRP.out.info (by rw [HRP.out.size]; rfl) HRP.out.one ?_; rw [World.setRow_alloc_new])
    have hbn : Below w6.heap.size w6 (w6.alloc (.cells CP 23)) := (Below.refl _ _).alloc (Nat.le_refl _) _
    have hnn := heap_alloc_new w6 (.cells CP 23)
    have hsn : (w6.alloc (.cells CP 23)).heap.size = w6.heap.size + 1 := by simp
    have Ha7 := Lib.hid ((hbn.block g2 (by have := HL6.out; omega)).trans Ha6.out)
    have Hb7 := Lib.hid ((hbn.block g3 (by have := HL6.out; omega)).trans Hb6.out)
    have HB7 := Lib.hid (HB6.out.trans (hbn.mono (by have := HL6.out; omega)))
    generalize w6.alloc (.cells CP 23) = w7 at Ha7 Hb7 HB7 hnn hsn ⊢
    obtain ⟨gc, hgc⟩ : ∃ x, w6.heap.size = x := ⟨_, rfl⟩
    have HL7 := Lib.hid (show g2 < w7.heap.size ∧ g3 < w7.heap.size ∧ gc < w7.heap.size by have := HL6.out; omega)
    rw [hgc] at hnn
    rw [hgc]
    have Hc7 := Lib.hid hnn
    clear hbn hsn hnn hgc
    go_wp2_with (refine wpList_load_row rfl 26 (.tmp 2) rfl g2 rfl 26 E (0, 0) _ Ha7.out Try.underlying26 rfl HEI.out ?_)
    refine (HPR.out _ (HGE.out ▸ HB7.out)).mono ?_
    rintro e w8 ⟨rfl, hb8⟩
    have Ha8 := Lib.hid ((hb8.block g2 (by have := HL7.out; omega)).trans Ha7.out)
    have Hb8 := Lib.hid ((hb8.block g3 (by have := HL7.out; omega)).trans Hb7.out)
    have Hc8 := Lib.hid ((hb8.block gc (by have := HL7.out; omega)).trans Hc7.out)
    have HB8 := Lib.hid (HB7.out.trans (hb8.mono (by have := HL7.out; omega)))
    have HL8 := Lib.hid (show g2 < w8.heap.size ∧ g3 < w8.heap.size ∧ gc < w8.heap.size by have := HL7.out; have := hb8.size; omega)
    clear hb8
    go_upto_region 10 with (refine wpList_store_row rfl 23 (.tmp 7) (.tmp 31) rfl w8.heap.size CP rfl rfl 23 _ (heap_alloc_new _ _) HRP.out.info (by rw [HRP.out.size]; rfl) HRP.out.one ?_; rw [World.setRow_alloc_new])
    have hbn : Below w8.heap.size w8 (w8.alloc (.cells CP 23)) := (Below.refl _ _).alloc (Nat.le_refl _) _
    have hnn := heap_alloc_new w8 (.cells CP 23)
    have hsn : (w8.alloc (.cells CP 23)).heap.size = w8.heap.size + 1 := by simp
    have Ha9 := Lib.hid ((hbn.block g2 (by have := HL8.out; omega)).trans Ha8.out)
    have Hb9 := Lib.hid ((hbn.block g3 (by have := HL8.out; omega)).trans Hb8.out)
    have Hc9 := Lib.hid ((hbn.block gc (by have := HL8.out; omega)).trans Hc8.out)
    have HB9 := Lib.hid (HB8.out.trans (hbn.mono (by have := HL8.out; omega)))
    generalize w8.alloc (.cells CP 23) = w9 at Ha9 Hb9 Hc9 HB9 hnn hsn ⊢
    obtain ⟨gd, hgd⟩ : ∃ x, w8.heap.size = x := ⟨_, rfl⟩
    have HL9 := Lib.hid (show g2 < w9.heap.size ∧ g3 < w9.heap.size ∧ gc < w9.heap.size ∧ gd < w9.heap.size by have := HL8.out; omega)
    rw [hgd] at hnn
    rw [hgd]
    have Hd9 := Lib.hid hnn
    clear hbn hsn hnn hgd
    have hE := HEQ.out
    go_wp2_with (first
      | (refine wpList_load_row rfl 23 (.tmp 6) rfl gc rfl 23 CP (0, 0) _ Hc9.out Try.underlying23 rfl HRP.out.info ?_)
      | (refine wpList_load_row rfl 23 (.tmp 7) rfl gd rfl 23 CP (0, 0) _ Hd9.out Try.underlying23 rfl HRP.out.info ?_)
      | (refine wpList_load_row rfl 26 (.tmp 2) rfl g2 rfl 26 E (0, 0) _ Ha9.out Try.underlying26 rfl HEI.out ?_))
    clear hE
    refine (HNC.out _ (HGE.out ▸ HB9.out)).mono ?_
    rintro e w10 ⟨v, rfl, ⟨ua, uan, uac, va, van, vac, rfl, h1, h2⟩, hb10⟩
    have HU110 := Lib.hid h1
    have HU210 := Lib.hid h2
    clear h1 h2
    have Ha10 := Lib.hid ((hb10.block g2 (by have := HL9.out; omega)).trans Ha9.out)
    have Hb10 := Lib.hid ((hb10.block g3 (by have := HL9.out; omega)).trans Hb9.out)
    have HB10 := Lib.hid (HB9.out.trans (hb10.mono (by have := HL9.out; omega)))
    have HL10 := Lib.hid (show g2 < w10.heap.size ∧ g3 < w10.heap.size by have := HL9.out; have := hb10.size; omega)
    clear hb10
    have HAI := Lib.hid (ev_info d' p' T (.slice ua uan uac) (.slice va van vac) HTL.out)
    have HAO := Lib.hid (ev_one d' p' T ua va uan uac van vac)
    have HAZ := Lib.hid (show ZEv.size = (evRow d' p' T (.slice ua uan uac) (.slice va van vac)).size by rw [zev_size, evRow_size _ _ _ _ _ HTL.out])
    have HSA := Lib.hid (fun xa xan xac za zan zac w h1 h2 h3 h4 => same_any d' p' T HTL.out ua xa va za uan van xan zan uac xac vac zac R' S' w h1 h2 h3 h4 HR32.out HS32.out HRN.out HSN.out)
    obtain ⟨EA, hEA⟩ : ∃ X, evRow d' p' T (.slice ua uan uac) (.slice va van vac) = X := ⟨_, rfl⟩
    rw [hEA] at HAI HAO HAZ HSA
    rw [hEA]
    clear hEA
    go_upto_region 13 with (refine wpList_store_row rfl 26 (.tmp 9) (.tmp 44) rfl w10.heap.size EA rfl rfl 26 ZEv (heap_alloc_new _ _) HAI.out HAZ.out HAO.out ?_; rw [World.setRow_alloc_new])
    have hbn : Below w10.heap.size w10 (w10.alloc (.cells EA 26)) := (Below.refl _ _).alloc (Nat.le_refl _) _
    have hnn := heap_alloc_new w10 (.cells EA 26)
    have hsn : (w10.alloc (.cells EA 26)).heap.size = w10.heap.size + 1 := by simp
    have Ha11 := Lib.hid ((hbn.block g2 (by have := HL10.out; omega)).trans Ha10.out)
    have Hb11 := Lib.hid ((hbn.block g3 (by have := HL10.out; omega)).trans Hb10.out)
    have HU111 := Lib.hid (HU110.out.kept hbn)
    have HU211 := Lib.hid (HU210.out.kept hbn)
    have HB11 := Lib.hid (HB10.out.trans (hbn.mono (by have := HL10.out; omega)))
    generalize w10.alloc (.cells EA 26) = w11 at Ha11 Hb11 HU111 HU211 HB11 hnn hsn ⊢
    obtain ⟨ge, hge⟩ : ∃ x, w10.heap.size = x := ⟨_, rfl⟩
    have HL11 := Lib.hid (show g2 < w11.heap.size ∧ g3 < w11.heap.size ∧ ge < w11.heap.size by have := HL10.out; omega)
    rw [hge] at hnn
    rw [hge]
    have He11 := Lib.hid hnn
    clear hbn hsn hnn hge
    go_wp2_with (refine wpList_load_row rfl 26 (.tmp 2) rfl g2 rfl 26 E (0, 0) _ Ha11.out Try.underlying26 rfl HEI.out ?_)
    refine (HNR.out _ (HGE.out ▸ HB11.out)).mono ?_
    rintro e w12 ⟨v, rfl, ⟨xa, xan, xac, za, zan, zac, rfl, h3, h4⟩, hb12⟩
    have HV112 := Lib.hid h3
    have HV212 := Lib.hid h4
    clear h3 h4
    have Ha12 := Lib.hid ((hb12.block g2 (by have := HL11.out; omega)).trans Ha11.out)
    have Hb12 := Lib.hid ((hb12.block g3 (by have := HL11.out; omega)).trans Hb11.out)
    have He12 := Lib.hid ((hb12.block ge (by have := HL11.out; omega)).trans He11.out)
    have HU112 := Lib.hid (HU111.out.kept hb12)
    have HU212 := Lib.hid (HU211.out.kept hb12)
    have HB12 := Lib.hid (HB11.out.trans (hb12.mono (by have := HL11.out; omega)))
    have HL12 := Lib.hid (show g2 < w12.heap.size ∧ g3 < w12.heap.size ∧ ge < w12.heap.size by have := HL11.out; have := hb12.size; omega)
    clear hb12
    have HBI := Lib.hid (ev_info d' p' T (.slice xa xan xac) (.slice za zan zac) HTL.out)
    have HBO := Lib.hid (ev_one d' p' T xa za xan xac zan zac)
    have HBZ := Lib.hid (show ZEv.size = (evRow d' p' T (.slice xa xan xac) (.slice za zan zac)).size by rw [zev_size, evRow_size _ _ _ _ _ HTL.out])
    have HSB := Lib.hid (fun w h1 h2 h3 h4 => HSA.out xa xan xac za zan zac w h1 h2 h3 h4)
    obtain ⟨EB, hEB⟩ : ∃ X, evRow d' p' T (.slice xa xan xac) (.slice za zan zac) = X := ⟨_, rfl⟩
    rw [hEB] at HBI HBO HBZ HSB
    rw [hEB]
    clear hEB
    go_upto_region 14 with (refine wpList_store_row rfl 26 (.tmp 10) (.tmp 49) rfl w12.heap.size EB rfl rfl 26 ZEv (heap_alloc_new _ _) HBI.out HBZ.out HBO.out ?_; rw [World.setRow_alloc_new])
    have hbn : Below w12.heap.size w12 (w12.alloc (.cells EB 26)) := (Below.refl _ _).alloc (Nat.le_refl _) _
    have hnn := heap_alloc_new w12 (.cells EB 26)
    have hsn : (w12.alloc (.cells EB 26)).heap.size = w12.heap.size + 1 := by simp
    have Ha13 := Lib.hid ((hbn.block g2 (by have := HL12.out; omega)).trans Ha12.out)
    have Hb13 := Lib.hid ((hbn.block g3 (by have := HL12.out; omega)).trans Hb12.out)
    have He13 := Lib.hid ((hbn.block ge (by have := HL12.out; omega)).trans He12.out)
    have HU113 := Lib.hid (HU112.out.kept hbn)
    have HU213 := Lib.hid (HU212.out.kept hbn)
    have HV113 := Lib.hid (HV112.out.kept hbn)
    have HV213 := Lib.hid (HV212.out.kept hbn)
    have HB13 := Lib.hid (HB12.out.trans (hbn.mono (by have := HL12.out; omega)))
    generalize w12.alloc (.cells EB 26) = w13 at Ha13 Hb13 He13 HU113 HU213 HV113 HV213 HB13 hnn hsn ⊢
    obtain ⟨gf, hgf⟩ : ∃ x, w12.heap.size = x := ⟨_, rfl⟩
    have HL13 := Lib.hid (show g2 < w13.heap.size ∧ g3 < w13.heap.size ∧ ge < w13.heap.size ∧ gf < w13.heap.size by have := HL12.out; omega)
    rw [hgf] at hnn
    rw [hgf]
    have Hf13 := Lib.hid hnn
    clear hbn hsn hnn hgf
    go_wp2_with (first
      | (refine wpList_load_row rfl 26 (.tmp 9) rfl ge rfl 26 EA (0, 0) _ He13.out Try.underlying26 rfl HAI.out ?_)
      | (refine wpList_load_row rfl 26 (.tmp 10) rfl gf rfl 26 EB (0, 0) _ Hf13.out Try.underlying26 rfl HBI.out ?_))
    refine (HSB.out _ HU113.out HV113.out HU213.out HV213.out).mono ?_
    rintro e w14 ⟨rfl, hb14⟩
    have Ha14 := Lib.hid ((hb14.block g2 (by have := HL13.out; omega)).trans Ha13.out)
    have Hb14 := Lib.hid ((hb14.block g3 (by have := HL13.out; omega)).trans Hb13.out)
    have HB14 := Lib.hid (HB13.out.trans (hb14.mono (by have := HL13.out; omega)))
    have HL14 := Lib.hid (show g2 < w14.heap.size ∧ g3 < w14.heap.size by have := HL13.out; have := hb14.size; omega)
    clear hb14
    go_wp2_with (first
      | (refine wpList_load_row rfl 26 (.tmp 2) rfl g2 rfl 26 E (0, 0) _ Ha14.out Try.underlying26 rfl HEI.out ?_)
      | (refine wpList_load_row rfl 23 (.tmp 3) rfl g3 rfl 23 CM (0, 0) _ Hb14.out Try.underlying23 rfl HRM.out.info ?_))
    refine (HSC.out _ (HGE.out ▸ HB14.out)).mono ?_
    rintro e w15 ⟨rfl, hb15⟩
    have Ha15 := Lib.hid ((hb15.block g2 (by have := HL14.out; omega)).trans Ha14.out)
    have Hb15 := Lib.hid ((hb15.block g3 (by have := HL14.out; omega)).trans Hb14.out)
    have HB15 := Lib.hid (HB14.out.trans (hb15.mono (by have := HL14.out; omega)))
    have HL15 := Lib.hid (show g2 < w15.heap.size ∧ g3 < w15.heap.size by have := HL14.out; have := hb15.size; omega)
    clear hb15
    go_wp2_with (first
      | (refine wpList_load_row rfl 26 (.tmp 2) rfl g2 rfl 26 E (0, 0) _ Ha15.out Try.underlying26 rfl HEI.out ?_)
      | (refine wpList_load_row rfl 23 (.tmp 3) rfl g3 rfl 23 CM (0, 0) _ Hb15.out Try.underlying23 rfl HRM.out.info ?_))
    refine (HSR.out _ (HGE.out ▸ HB15.out)).mono ?_
    rintro e w16 ⟨rfl, hb16⟩
    have Ha16 := Lib.hid ((hb16.block g2 (by have := HL15.out; omega)).trans Ha15.out)
    have Hb16 := Lib.hid ((hb16.block g3 (by have := HL15.out; omega)).trans Hb15.out)
    have HB16 := Lib.hid (HB15.out.trans (hb16.mono (by have := HL15.out; omega)))
    have HL16 := Lib.hid (show g2 < w16.heap.size ∧ g3 < w16.heap.size by have := HL15.out; have := hb16.size; omega)
    clear hb16
    go_wp2_with fail
    refine (HWK.out _).mono ?_
    rintro e w17 ⟨rfl, hb17⟩
    have HBF := Lib.hid (HB16.out.trans (hb17.mono (by have := HL16.out; omega)))
    clear hb17
    go_wp2_with fail
    go_ret
    exact ⟨rfl, HGE.out ▸ HBF.out⟩
  · go_enter Try.func5, Try.ntmps5
    go_upto_region 1 with (fail)
    have HA0 := Lib.hid (heap_alloc2_old w (.cells E 26) (.cells CM 23))
    have HA1 := Lib.hid (heap_alloc2_new w (.cells E 26) (.cells CM 23))
    have HBW := Lib.hid (show Below w.heap.size w ((w.alloc (.cells E 26)).alloc (.cells CM 23)) from ((Below.refl _ _).alloc (Nat.le_refl _) _).alloc (by simp) _)
    have hs0 : ((w.alloc (.cells E 26)).alloc (.cells CM 23)).heap.size = w.heap.size + 2 := by simp
    generalize ((w.alloc (.cells E 26)).alloc (.cells CM 23)) = W at HA0 HA1 HBW hs0 ⊢
    obtain ⟨g2, hg2⟩ : ∃ x, w.heap.size = x := ⟨_, rfl⟩
    obtain ⟨g3, hg3⟩ : ∃ x, g2 + 1 = x := ⟨_, rfl⟩
    rw [hg2] at HA0 HA1 HBW hs0
    rw [hg3] at HA1
    rw [hg2, hg3]
    have HGE := Lib.hid hg2
    have HLT := Lib.hid (show g2 < g3 ∧ g3 < W.heap.size by omega)
    clear hg2 hg3 hs0
    go_wp2_with (refine wpList_load_row rfl 26 (.tmp 2) rfl g2 rfl 26 E (0, 0) _ HA0.out Try.underlying26 rfl HEI.out ?_)
    refine (HGT.out _).mono ?_
    rintro e w3 ⟨rfl, hb3⟩
    have Ha3 := Lib.hid ((hb3.block _ (Nat.lt_trans HLT.out.1 HLT.out.2)).trans HA0.out)
    have Hb3 := Lib.hid ((hb3.block _ HLT.out.2).trans HA1.out)
    have HB3 := Lib.hid (HBW.out.trans (hb3.mono (by have := HLT.out; omega)))
    have HL3 := Lib.hid (show g2 < w3.heap.size ∧ g3 < w3.heap.size by have := HLT.out; have := hb3.size; omega)
    clear hb3
    go_wp2_with (refine wpList_load_row rfl 26 (.tmp 2) rfl g2 rfl 26 E (0, 0) _ Ha3.out Try.underlying26 rfl HEI.out ?_)
    refine (HMR.out _ (HGE.out ▸ HB3.out)).mono ?_
    rintro e w4 ⟨rfl, hb4⟩
    have Ha4 := Lib.hid ((hb4.block g2 (by have := HL3.out; omega)).trans Ha3.out)
    have Hb4 := Lib.hid ((hb4.block g3 (by have := HL3.out; omega)).trans Hb3.out)
    have HB4 := Lib.hid (HB3.out.trans (hb4.mono (by have := HL3.out; omega)))
    have HL4 := Lib.hid (show g2 < w4.heap.size ∧ g3 < w4.heap.size by have := HL3.out; have := hb4.size; omega)
    clear hb4
    go_wp2_with (refine wpList_load_row rfl 26 (.tmp 2) rfl g2 rfl 26 E (0, 0) _ Ha4.out Try.underlying26 rfl HEI.out ?_)
    refine (HMC.out _ (HGE.out ▸ HB4.out)).mono ?_
    rintro e w5 ⟨rfl, hb5⟩
    have Ha5 := Lib.hid ((hb5.block g2 (by have := HL4.out; omega)).trans Ha4.out)
    have Hb5 := Lib.hid ((hb5.block g3 (by have := HL4.out; omega)).trans Hb4.out)
    have HB5 := Lib.hid (HB4.out.trans (hb5.mono (by have := HL4.out; omega)))
    have HL5 := Lib.hid (show g2 < w5.heap.size ∧ g3 < w5.heap.size by have := HL4.out; have := hb5.size; omega)
    clear hb5
    go_wp2_with (refine wpList_load_row rfl 26 (.tmp 2) rfl g2 rfl 26 E (0, 0) _ Ha5.out Try.underlying26 rfl HEI.out ?_)
    refine (HPC.out _ (HGE.out ▸ HB5.out)).mono ?_
    rintro e w6 ⟨rfl, hb6⟩
    have Ha6 := Lib.hid ((hb6.block g2 (by have := HL5.out; omega)).trans Ha5.out)
    have Hb6 := Lib.hid ((hb6.block g3 (by have := HL5.out; omega)).trans Hb5.out)
    have HB6 := Lib.hid (HB5.out.trans (hb6.mono (by have := HL5.out; omega)))
    have HL6 := Lib.hid (show g2 < w6.heap.size ∧ g3 < w6.heap.size by have := HL5.out; have := hb6.size; omega)
    clear hb6
    go_upto_region 9 with (refine wpList_store_row rfl 23 (.tmp 6) (.tmp 26) rfl w6.heap.size CP rfl rfl 23 _ (heap_alloc_new _ _) HRP.out.info (by rw [HRP.out.size]; rfl) HRP.out.one ?_; rw [World.setRow_alloc_new])
    have hbn : Below w6.heap.size w6 (w6.alloc (.cells CP 23)) := (Below.refl _ _).alloc (Nat.le_refl _) _
    have hnn := heap_alloc_new w6 (.cells CP 23)
    have hsn : (w6.alloc (.cells CP 23)).heap.size = w6.heap.size + 1 := by simp
    have Ha7 := Lib.hid ((hbn.block g2 (by have := HL6.out; omega)).trans Ha6.out)
    have Hb7 := Lib.hid ((hbn.block g3 (by have := HL6.out; omega)).trans Hb6.out)
    have HB7 := Lib.hid (HB6.out.trans (hbn.mono (by have := HL6.out; omega)))
    generalize w6.alloc (.cells CP 23) = w7 at Ha7 Hb7 HB7 hnn hsn ⊢
    obtain ⟨gc, hgc⟩ : ∃ x, w6.heap.size = x := ⟨_, rfl⟩
    have HL7 := Lib.hid (show g2 < w7.heap.size ∧ g3 < w7.heap.size ∧ gc < w7.heap.size by have := HL6.out; omega)
    rw [hgc] at hnn
    rw [hgc]
    have Hc7 := Lib.hid hnn
    clear hbn hsn hnn hgc
    go_wp2_with (refine wpList_load_row rfl 26 (.tmp 2) rfl g2 rfl 26 E (0, 0) _ Ha7.out Try.underlying26 rfl HEI.out ?_)
    refine (HPR.out _ (HGE.out ▸ HB7.out)).mono ?_
    rintro e w8 ⟨rfl, hb8⟩
    have Ha8 := Lib.hid ((hb8.block g2 (by have := HL7.out; omega)).trans Ha7.out)
    have Hb8 := Lib.hid ((hb8.block g3 (by have := HL7.out; omega)).trans Hb7.out)
    have Hc8 := Lib.hid ((hb8.block gc (by have := HL7.out; omega)).trans Hc7.out)
    have HB8 := Lib.hid (HB7.out.trans (hb8.mono (by have := HL7.out; omega)))
    have HL8 := Lib.hid (show g2 < w8.heap.size ∧ g3 < w8.heap.size ∧ gc < w8.heap.size by have := HL7.out; have := hb8.size; omega)
    clear hb8
    go_upto_region 10 with (refine wpList_store_row rfl 23 (.tmp 7) (.tmp 31) rfl w8.heap.size CP rfl rfl 23 _ (heap_alloc_new _ _) HRP.out.info (by rw [HRP.out.size]; rfl) HRP.out.one ?_; rw [World.setRow_alloc_new])
    have hbn : Below w8.heap.size w8 (w8.alloc (.cells CP 23)) := (Below.refl _ _).alloc (Nat.le_refl _) _
    have hnn := heap_alloc_new w8 (.cells CP 23)
    have hsn : (w8.alloc (.cells CP 23)).heap.size = w8.heap.size + 1 := by simp
    have Ha9 := Lib.hid ((hbn.block g2 (by have := HL8.out; omega)).trans Ha8.out)
    have Hb9 := Lib.hid ((hbn.block g3 (by have := HL8.out; omega)).trans Hb8.out)
    have Hc9 := Lib.hid ((hbn.block gc (by have := HL8.out; omega)).trans Hc8.out)
    have HB9 := Lib.hid (HB8.out.trans (hbn.mono (by have := HL8.out; omega)))
    generalize w8.alloc (.cells CP 23) = w9 at Ha9 Hb9 Hc9 HB9 hnn hsn ⊢
    obtain ⟨gd, hgd⟩ : ∃ x, w8.heap.size = x := ⟨_, rfl⟩
    have HL9 := Lib.hid (show g2 < w9.heap.size ∧ g3 < w9.heap.size ∧ gc < w9.heap.size ∧ gd < w9.heap.size by have := HL8.out; omega)
    rw [hgd] at hnn
    rw [hgd]
    have Hd9 := Lib.hid hnn
    clear hbn hsn hnn hgd
    have hE := HEQ.out
    go_wp2_with (first
      | (refine wpList_load_row rfl 23 (.tmp 6) rfl gc rfl 23 CP (0, 0) _ Hc9.out Try.underlying23 rfl HRP.out.info ?_)
      | (refine wpList_load_row rfl 23 (.tmp 7) rfl gd rfl 23 CP (0, 0) _ Hd9.out Try.underlying23 rfl HRP.out.info ?_)
      | (refine wpList_load_row rfl 26 (.tmp 2) rfl g2 rfl 26 E (0, 0) _ Ha9.out Try.underlying26 rfl HEI.out ?_))
    clear hE
    refine (HNC.out _ (HGE.out ▸ HB9.out)).mono ?_
    rintro e w10 ⟨v, rfl, ⟨ua, uan, uac, va, van, vac, rfl, h1, h2⟩, hb10⟩
    have HU110 := Lib.hid h1
    have HU210 := Lib.hid h2
    clear h1 h2
    have Ha10 := Lib.hid ((hb10.block g2 (by have := HL9.out; omega)).trans Ha9.out)
    have Hb10 := Lib.hid ((hb10.block g3 (by have := HL9.out; omega)).trans Hb9.out)
    have HB10 := Lib.hid (HB9.out.trans (hb10.mono (by have := HL9.out; omega)))
    have HL10 := Lib.hid (show g2 < w10.heap.size ∧ g3 < w10.heap.size by have := HL9.out; have := hb10.size; omega)
    clear hb10
    have HAI := Lib.hid (ev_info d' p' T (.slice ua uan uac) (.slice va van vac) HTL.out)
    have HAO := Lib.hid (ev_one d' p' T ua va uan uac van vac)
    have HAZ := Lib.hid (show ZEv.size = (evRow d' p' T (.slice ua uan uac) (.slice va van vac)).size by rw [zev_size, evRow_size _ _ _ _ _ HTL.out])
    have HSA := Lib.hid (fun xa xan xac za zan zac w h1 h2 h3 h4 => same_any d' p' T HTL.out ua xa va za uan van xan zan uac xac vac zac R' S' w h1 h2 h3 h4 HR32.out HS32.out HRN.out HSN.out)
    obtain ⟨EA, hEA⟩ : ∃ X, evRow d' p' T (.slice ua uan uac) (.slice va van vac) = X := ⟨_, rfl⟩
    rw [hEA] at HAI HAO HAZ HSA
    rw [hEA]
    clear hEA
    go_upto_region 13 with (refine wpList_store_row rfl 26 (.tmp 9) (.tmp 44) rfl w10.heap.size EA rfl rfl 26 ZEv (heap_alloc_new _ _) HAI.out HAZ.out HAO.out ?_; rw [World.setRow_alloc_new])
    have hbn : Below w10.heap.size w10 (w10.alloc (.cells EA 26)) := (Below.refl _ _).alloc (Nat.le_refl _) _
    have hnn := heap_alloc_new w10 (.cells EA 26)
    have hsn : (w10.alloc (.cells EA 26)).heap.size = w10.heap.size + 1 := by simp
    have Ha11 := Lib.hid ((hbn.block g2 (by have := HL10.out; omega)).trans Ha10.out)
    have Hb11 := Lib.hid ((hbn.block g3 (by have := HL10.out; omega)).trans Hb10.out)
    have HU111 := Lib.hid (HU110.out.kept hbn)
    have HU211 := Lib.hid (HU210.out.kept hbn)
    have HB11 := Lib.hid (HB10.out.trans (hbn.mono (by have := HL10.out; omega)))
    generalize w10.alloc (.cells EA 26) = w11 at Ha11 Hb11 HU111 HU211 HB11 hnn hsn ⊢
    obtain ⟨ge, hge⟩ : ∃ x, w10.heap.size = x := ⟨_, rfl⟩
    have HL11 := Lib.hid (show g2 < w11.heap.size ∧ g3 < w11.heap.size ∧ ge < w11.heap.size by have := HL10.out; omega)
    rw [hge] at hnn
    rw [hge]
    have He11 := Lib.hid hnn
    clear hbn hsn hnn hge
    go_wp2_with (refine wpList_load_row rfl 26 (.tmp 2) rfl g2 rfl 26 E (0, 0) _ Ha11.out Try.underlying26 rfl HEI.out ?_)
    refine (HNR.out _ (HGE.out ▸ HB11.out)).mono ?_
    rintro e w12 ⟨v, rfl, ⟨xa, xan, xac, za, zan, zac, rfl, h3, h4⟩, hb12⟩
    have HV112 := Lib.hid h3
    have HV212 := Lib.hid h4
    clear h3 h4
    have Ha12 := Lib.hid ((hb12.block g2 (by have := HL11.out; omega)).trans Ha11.out)
    have Hb12 := Lib.hid ((hb12.block g3 (by have := HL11.out; omega)).trans Hb11.out)
    have He12 := Lib.hid ((hb12.block ge (by have := HL11.out; omega)).trans He11.out)
    have HU112 := Lib.hid (HU111.out.kept hb12)
    have HU212 := Lib.hid (HU211.out.kept hb12)
    have HB12 := Lib.hid (HB11.out.trans (hb12.mono (by have := HL11.out; omega)))
    have HL12 := Lib.hid (show g2 < w12.heap.size ∧ g3 < w12.heap.size ∧ ge < w12.heap.size by have := HL11.out; have := hb12.size; omega)
    clear hb12
    have HBI := Lib.hid (ev_info d' p' T (.slice xa xan xac) (.slice za zan zac) HTL.out)
    have HBO := Lib.hid (ev_one d' p' T xa za xan xac zan zac)
    have HBZ := Lib.hid (show ZEv.size = (evRow d' p' T (.slice xa xan xac) (.slice za zan zac)).size by rw [zev_size, evRow_size _ _ _ _ _ HTL.out])
    have HSB := Lib.hid (fun w h1 h2 h3 h4 => HSA.out xa xan xac za zan zac w h1 h2 h3 h4)
    obtain ⟨EB, hEB⟩ : ∃ X, evRow d' p' T (.slice xa xan xac) (.slice za zan zac) = X := ⟨_, rfl⟩
    rw [hEB] at HBI HBO HBZ HSB
    rw [hEB]
    clear hEB
    go_upto_region 14 with (refine wpList_store_row rfl 26 (.tmp 10) (.tmp 49) rfl w12.heap.size EB rfl rfl 26 ZEv (heap_alloc_new _ _) HBI.out HBZ.out HBO.out ?_; rw [World.setRow_alloc_new])
    have hbn : Below w12.heap.size w12 (w12.alloc (.cells EB 26)) := (Below.refl _ _).alloc (Nat.le_refl _) _
    have hnn := heap_alloc_new w12 (.cells EB 26)
    have hsn : (w12.alloc (.cells EB 26)).heap.size = w12.heap.size + 1 := by simp
    have Ha13 := Lib.hid ((hbn.block g2 (by have := HL12.out; omega)).trans Ha12.out)
    have Hb13 := Lib.hid ((hbn.block g3 (by have := HL12.out; omega)).trans Hb12.out)
    have He13 := Lib.hid ((hbn.block ge (by have := HL12.out; omega)).trans He12.out)
    have HU113 := Lib.hid (HU112.out.kept hbn)
    have HU213 := Lib.hid (HU212.out.kept hbn)
    have HV113 := Lib.hid (HV112.out.kept hbn)
    have HV213 := Lib.hid (HV212.out.kept hbn)
    have HB13 := Lib.hid (HB12.out.trans (hbn.mono (by have := HL12.out; omega)))
    generalize w12.alloc (.cells EB 26) = w13 at Ha13 Hb13 He13 HU113 HU213 HV113 HV213 HB13 hnn hsn ⊢
    obtain ⟨gf, hgf⟩ : ∃ x, w12.heap.size = x := ⟨_, rfl⟩
    have HL13 := Lib.hid (show g2 < w13.heap.size ∧ g3 < w13.heap.size ∧ ge < w13.heap.size ∧ gf < w13.heap.size by have := HL12.out; omega)
    rw [hgf] at hnn
    rw [hgf]
    have Hf13 := Lib.hid hnn
    clear hbn hsn hnn hgf
    go_wp2_with (first
      | (refine wpList_load_row rfl 26 (.tmp 9) rfl ge rfl 26 EA (0, 0) _ He13.out Try.underlying26 rfl HAI.out ?_)
      | (refine wpList_load_row rfl 26 (.tmp 10) rfl gf rfl 26 EB (0, 0) _ Hf13.out Try.underlying26 rfl HBI.out ?_))
    refine (HSB.out _ HU113.out HV113.out HU213.out HV213.out).mono ?_
    rintro e w14 ⟨rfl, hb14⟩
    have Ha14 := Lib.hid ((hb14.block g2 (by have := HL13.out; omega)).trans Ha13.out)
    have Hb14 := Lib.hid ((hb14.block g3 (by have := HL13.out; omega)).trans Hb13.out)
    have HB14 := Lib.hid (HB13.out.trans (hb14.mono (by have := HL13.out; omega)))
    have HL14 := Lib.hid (show g2 < w14.heap.size ∧ g3 < w14.heap.size by have := HL13.out; have := hb14.size; omega)
    clear hb14
    go_wp2_with (first
      | (refine wpList_load_row rfl 26 (.tmp 2) rfl g2 rfl 26 E (0, 0) _ Ha14.out Try.underlying26 rfl HEI.out ?_)
      | (refine wpList_load_row rfl 23 (.tmp 3) rfl g3 rfl 23 CM (0, 0) _ Hb14.out Try.underlying23 rfl HRM.out.info ?_))
    refine (HSC.out _ (HGE.out ▸ HB14.out)).mono ?_
    rintro e w15 ⟨rfl, hb15⟩
    have Ha15 := Lib.hid ((hb15.block g2 (by have := HL14.out; omega)).trans Ha14.out)
    have Hb15 := Lib.hid ((hb15.block g3 (by have := HL14.out; omega)).trans Hb14.out)
    have HB15 := Lib.hid (HB14.out.trans (hb15.mono (by have := HL14.out; omega)))
    have HL15 := Lib.hid (show g2 < w15.heap.size ∧ g3 < w15.heap.size by have := HL14.out; have := hb15.size; omega)
    clear hb15
    go_wp2_with (first
      | (refine wpList_load_row rfl 26 (.tmp 2) rfl g2 rfl 26 E (0, 0) _ Ha15.out Try.underlying26 rfl HEI.out ?_)
      | (refine wpList_load_row rfl 23 (.tmp 3) rfl g3 rfl 23 CM (0, 0) _ Hb15.out Try.underlying23 rfl HRM.out.info ?_))
    refine (HSR.out _ (HGE.out ▸ HB15.out)).mono ?_
    rintro e w16 ⟨rfl, hb16⟩
    have Ha16 := Lib.hid ((hb16.block g2 (by have := HL15.out; omega)).trans Ha15.out)
    have Hb16 := Lib.hid ((hb16.block g3 (by have := HL15.out; omega)).trans Hb15.out)
    have HB16 := Lib.hid (HB15.out.trans (hb16.mono (by have := HL15.out; omega)))
    have HL16 := Lib.hid (show g2 < w16.heap.size ∧ g3 < w16.heap.size by have := HL15.out; have := hb16.size; omega)
    clear hb16
    go_wp2_with fail
    refine (HWK.out _).mono ?_
    rintro e w17 ⟨rfl, hb17⟩
    have HBF := Lib.hid (HB16.out.trans (hb17.mono (by have := HL16.out; omega)))
    clear hb17
    go_wp2_with fail
    go_ret
    exact ⟨rfl, HGE.out ▸ HBF.out⟩

set_option maxRecDepth 100000 in
set_option maxHeartbeats 3200000 in
theorem nexts_great (d p : Int) (leaf m : List UInt8) (hl : leaf.length = 32) (ar as_ : Option Addr) (nr cr ns cs : Nat) (hg : 40 < nr ∨ 40 < ns) (w : World) :
    Calls Try.prog 5 #[.agg (evRow d p leaf (.slice ar nr cr) (.slice as_ ns cs)), .agg (valsB m).toArray] w fun e w' => e = .returned (.bool true) ∧ Below w.heap.size w w' := by
  have HWK := Lib.hid works_any
  have HGT := Lib.hid (fun w => code_great d p leaf hl ar as_ nr cr ns cs w)
  have HEI := Lib.hid (ev_info d p leaf (.slice ar nr cr) (.slice as_ ns cs) hl)
  rw [show (decide (40 < nr) || decide (40 < ns)) = true by simp; omega] at HGT
  obtain ⟨E, hE⟩ : ∃ E, evRow d p leaf (.slice ar nr cr) (.slice as_ ns cs) = E := ⟨_, rfl⟩
  obtain ⟨CM, hCM⟩ : ∃ C, (valsB m).toArray = C := ⟨_, rfl⟩
  rw [hE] at HGT HEI
  rw [hE, hCM]
  clear hE hCM hl
  go_enter Try.func5, Try.ntmps5
  go_upto_region 1 with (fail)
  have HA0 := Lib.hid (heap_alloc2_old w (.cells E 26) (.cells CM 23))
  have HA1 := Lib.hid (heap_alloc2_new w (.cells E 26) (.cells CM 23))
  have HBW := Lib.hid (show Below w.heap.size w ((w.alloc (.cells E 26)).alloc (.cells CM 23)) from ((Below.refl _ _).alloc (Nat.le_refl _) _).alloc (by simp) _)
  have hs0 : ((w.alloc (.cells E 26)).alloc (.cells CM 23)).heap.size = w.heap.size + 2 := by simp
  generalize ((w.alloc (.cells E 26)).alloc (.cells CM 23)) = W at HA0 HA1 HBW hs0 ⊢
  obtain ⟨g2, hg2⟩ : ∃ x, w.heap.size = x := ⟨_, rfl⟩
  obtain ⟨g3, hg3⟩ : ∃ x, g2 + 1 = x := ⟨_, rfl⟩
  rw [hg2] at HA0 HA1 HBW hs0
  rw [hg3] at HA1
  rw [hg2, hg3]
  have HGE := Lib.hid hg2
  have HLT := Lib.hid (show g2 < g3 ∧ g3 < W.heap.size by omega)
  clear hg2 hg3 hs0
  go_wp2_with (refine wpList_load_row rfl 26 (.tmp 2) rfl g2 rfl 26 E (0, 0) _ HA0.out Try.underlying26 rfl HEI.out ?_)
  refine (HGT.out _).mono ?_
  rintro e w3 ⟨rfl, hb3⟩
  have HB3 := Lib.hid (HBW.out.trans (hb3.mono (by have := HLT.out; omega)))
  have HL3 := Lib.hid (show g2 < w3.heap.size ∧ g3 < w3.heap.size by have := HLT.out; have := hb3.size; omega)
  clear hb3
  go_wp2_with fail
  refine (HWK.out _).mono ?_
  rintro e w17 ⟨rfl, hb17⟩
  have HBF := Lib.hid (HB3.out.trans (hb17.mono (by have := HL3.out; omega)))
  clear hb17
  go_wp2_with fail
  go_ret
  exact ⟨rfl, HGE.out ▸ HBF.out⟩


end Go.Proofs.Ytpifjeghoapjbaa.Evolve
