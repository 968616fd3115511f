/- disk: the document's Cut and Sync. -/
import Derived.Test.YtoacnhiophgfcaaDkW
import Derived.StillTailTactics
import Derived.Deep.Cut
namespace Go.Proofs.Ytoacnhiophgfcaa.Dk
open Go.RowKit Go.Proofs.Ytoacnhiophgfcaa.Gr
theorem kr_one (w : World) (x : Ch) : KR.At (w.alloc (.cells #[.int .i64 x.file, .int .i64 x.at_, .string x.s, .bool x.cut] 89)) (.slice (some ⟨w.heap.size, 0, none⟩) 1 1) [x] :=
  Or.inr ⟨w.heap.size, 0, 1, rfl, by simp, Nat.le_refl _, fun j u hj => by
    rw [Nat.zero_add, Lib.cell_of_heap (heap_alloc_new w _)]
    simp only [Kind.flat, KR, List.flatMap_cons, List.flatMap_nil, List.append_nil] at hj
    rw [← hj]
    simp⟩
theorem at_kr {w : World} {g o : Nat} {L : List Ch} (hr : w.rangeAt g o (KR.flat L)) {i : Nat} {x : Ch} (hi : L[i]? = some x) : w.rangeAt g (o + i * 4) [.int .i64 x.file, .int .i64 x.at_, .string x.s, .bool x.cut] := fun j u hj => by
  have := range_thing (K := KR) hr hi (j := j) (u := u) hj
  rw [show o + i * 4 + j = o + (i * 4 + j) by omega]
  exact this
section
variable {B r na nc sa sc : Nat} {lv : Value} {goes : Int} {S : St}
theorem RAt.layGrown {w w' w2 : World} (h : RAt B w r na nc sa sc lv goes S) (hb : Below w.heap.size w w') (hg : w'.grownBy w2 lv.ownBlock) {lu : Value} {L : List Ch} (hown : KR.Own B lu L w2) :
    RAt B (w2.setCell ⟨r, 2, none⟩ lu) r na nc sa sc lu goes { S with loose := L } ∧ Kp B RefTy w (w2.setCell ⟨r, 2, none⟩ lu) ∧ w2.cell? ⟨r, 2, none⟩ = some lv ∧ w2.frozen? ⟨r, 2, none⟩ = false := (h.halfGrown hb hg).lay h hown

set_option maxRecDepth 100000 in
set_option maxHeartbeats 3200000 in
theorem ref_Cut (w : World) (h : RAt B w r na nc sa sc lv goes S) (hg : GoesOk S goes) (hn : S.ops ≤ 1000000000) (hL : S.loose.length ≤ 1000000000) (hz : ∀ s ∈ S.now, s.size ≤ 1048576) (hB : B ≤ w.heap.size) (f n : Int) :
    Calls Try.prog 39 #[.pointer (some ⟨r, 0, none⟩), .int .i64 f, .int .i64 n] w (RPost B w r (.int .i64 (cutterS S f n).1) (cutterS S f n).2) := by
  have HF := Lib.hid (ref_file w f h)
  have HR := Lib.hid h
  have HG := Lib.hid hg
  have hc := h.cNow
  by_cases he : errF S.on f = 0
  · obtain ⟨hon, hf⟩ := errF_zero he
    obtain ⟨k, rfl⟩ : ∃ k : Nat, f = k := ⟨f.toNat, by omega⟩
    have hk : k < 64 := by omega
    have hc2 := h.now.file hk
    have hsz := getD_size hz k
    unfold cutterS RPost
    rw [if_neg (fun x => x he), Int.toNat_natCast]
    rw [he] at HF
    have HO := Lib.hid (ref_step w h hn hon hg)
    have HGO := Lib.hid (off_op hg hon).2.2
    obtain ⟨t, ht⟩ : ∃ t, S.now.getD k ⟨#[]⟩ = t := ⟨_, rfl⟩
    rw [ht] at hc2 hsz ⊢
    have hi : (k : Int) < 64 := by omega
    have hi0 : (0 : Int) ≤ k := by omega
    by_cases hl : n < 0
    · rw [if_pos (Or.inl hl)]
      clear h hg hz hf hon he hk ht hL hn hB
      go_enter Try.func39, Try.ntmps39
      go_wp2_with fail
      refine HF.out.mono ?_
      rintro e w' ⟨rfl, rfl⟩
      go_wp2_with fail
      go_ret
      exact ⟨rfl, Kp.refl, _, _, _, _, _, _, HR.out, HG.out⟩
    obtain ⟨m, rfl⟩ : ∃ m : Nat, n = m := ⟨n.toNat, by omega⟩
    have hm0 : (0 : Int) ≤ (m : Int) := by omega
    by_cases hl : t.size < m
    · rw [if_pos (Or.inr (by omega))]
      clear h hg hz hf hon he hk ht hL hn hB
      go_enter Try.func39, Try.ntmps39
      go_wp2_with fail
      refine HF.out.mono ?_
      rintro e w' ⟨rfl, rfl⟩
      go_wp2_with fail
      go_ret
      exact ⟨rfl, Kp.refl, _, _, _, _, _, _, HR.out, HG.out⟩
    rw [if_neg (by omega), Int.toNat_natCast]
    have hl2 : (m : Int) ≤ t.size := by omega
    rcases opS_two S with ho | ho
    · have hn1 := opS_now S
      have hl1 := opS_loose S
      rw [if_neg (fun x => x ho)]
      rw [ho] at HO
      generalize (opS S).2 = S1 at HO hn1 hl1 HGO ⊢
      rw [← hl1] at hL
      rw [← hn1] at ht
      unfold cutS
      rw [ht]
      have HT := Lib.hid ht
      have HK := Lib.hid hk
      have HL := Lib.hid hL
      have HBB := Lib.hid hB
      clear h hg hz hf hon he hk ht hl hL hn hB ho hn1 hl1
      go_enter Try.func39, Try.ntmps39
      go_wp2_with fail
      refine HF.out.mono ?_
      rintro e w' ⟨rfl, rfl⟩
      go_wp2_with fail
      refine HO.out.mono ?_
      rintro e w1 ⟨rfl, hr1, hk1⟩
      have HR1 := Lib.hid hr1
      have HK1 := Lib.hid hk1
      have HB1 := Lib.hid (Nat.le_trans HBB.out hk1.size)
      clear hc hc2 hr1 hk1 HF HO HR HG
      have hcl := HR1.out.cLoose
      have hown := HR1.out.loose
      have hb1 : Below w1.heap.size w1 (w1.alloc (.cells #[.int .i64 k, .int .i64 m, .string ⟨#[]⟩, .bool true] 89)) := (Below.refl _ _).alloc (Nat.le_refl _) _
      have HBA := Lib.hid hb1
      have hbl : ((S1.loose.length) + 1) * (KR.bytes + 1) ≤ 1099511627776 := by have := HL.out; simp [KR]; omega
      have HO2 := Lib.hid (HR1.out.below hb1).loose
      have HAT := Lib.hid (kr_one w1 ⟨k, m, true, ⟨#[]⟩⟩)
      have HBL := Lib.hid hbl
      have HB2 := Lib.hid (Nat.le_trans HB1.out hb1.size)
      clear hown hbl hb1
      go_upto_region 9 with (refine wpList_append_grow (K := KR) rfl (.tmp 35) (.tmp 39) 45 rfl Try.underlying45 B rfl HO2.out _ [⟨k, m, true, ⟨#[]⟩⟩] rfl HAT.out (by simp) (S1.loose.length + 1) rfl HBL.out HB2.out ?_; intro g5 cap5 w5 hown5 hgr5 hk5 hlt5; obtain ⟨hR5, hK5, hc5, hf5⟩ := HR1.out.layGrown HBA.out hgr5 hown5; have HR5 := Lib.hid hR5; have HK5 := Lib.hid (HK1.out.trans hK5); clear hown5 hgr5 hk5 hlt5 hR5 hK5)
      generalize w5.setCell ⟨r, 2, none⟩ _ = w2 at HR5 HK5 ⊢
      clear hc5 hf5 hcl
      refine wp_region_still_tail 14 (by kernel_rfl) (by kernel_rfl) ?_
      simp only [List.take_succ_cons, List.take_zero, List.drop_succ_cons, List.drop_zero]
      have hr3 := HR5.out.below (Below.refl _ _).drew
      have HK3 := Lib.hid (HK5.out.drew)
      show wpStill _ _ w2.drew (fun a' => wpList _ _ _ _ a' w2.drew) _ _
      generalize w2.drew = w3 at hr3 HK3 ⊢
      have hc := hr3.cNow
      have hc2 := hr3.now.file HK.out
      have hfz := hr3.now.fz
      simp only at hc2
      rw [HT.out] at hc2
      have HR4 := Lib.hid (hr3.putNow HK.out (t.extract 0 m))
      have HK4 := Lib.hid (hr3.now.kSet hr3.bN HK3.out k (.string (t.extract 0 m)))
      clear hr3 HR5 HK5
      repeat still_step
      refine wpStill_nil ?_
      go_wp2_with fail
      go_ret
      exact ⟨rfl, HK4.out, _, _, _, _, _, _, HR4.out, HGO.out⟩
    · have hr : (opS S).1 ≠ 0 := by rw [ho]; decide
      rw [if_pos hr]
      rw [ho] at HO ⊢
      generalize (opS S).2 = S1 at HO HGO ⊢
      clear h hg hz hf hon he hk ht hl hL hn hB ho hr
      go_enter Try.func39, Try.ntmps39
      go_wp2_with fail
      refine HF.out.mono ?_
      rintro e w' ⟨rfl, rfl⟩
      go_wp2_with fail
      refine HO.out.mono ?_
      rintro e w1 ⟨rfl, hr1, hk1⟩
      have HR1 := Lib.hid hr1
      have HK1 := Lib.hid hk1
      clear hr1 hk1
      go_wp2_with fail
      go_ret
      exact ⟨rfl, HK1.out, _, _, _, _, _, _, HR1.out, HGO.out⟩
  · unfold cutterS RPost
    rw [if_pos he]
    generalize errF S.on f = x at HF he ⊢
    have he2 : (x == 0) = false := by simpa using he
    have he3 : (x != 0) = true := by simpa using he
    clear h hg
    go_enter Try.func39, Try.ntmps39
    go_wp2_with fail
    refine HF.out.mono ?_
    rintro e w' ⟨rfl, rfl⟩
    go_wp2_with fail
    go_ret
    exact ⟨rfl, Kp.refl, _, _, _, _, _, _, HR.out, HG.out⟩
end
end Go.Proofs.Ytoacnhiophgfcaa.Dk
