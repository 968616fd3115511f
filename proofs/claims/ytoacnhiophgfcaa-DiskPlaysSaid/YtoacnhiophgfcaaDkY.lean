/- disk: the document's Sync. -/
import Derived.Test.YtoacnhiophgfcaaDkX
import Derived.StillTailTactics
import Derived.Deep.Cut
namespace Go.Proofs.Ytoacnhiophgfcaa.Dk
open Go.RowKit Go.Proofs.Ytoacnhiophgfcaa.Gr
theorem keepF_take {k : Nat} {L : List Ch} {i : Nat} {x : Ch} (h : L[i]? = some x) : keepF k (L.take (i + 1)) = keepF k (L.take i) ++ (if x.file = k then [] else [x]) := by
  rw [List.take_add_one, h]
  unfold keepF
  rw [List.filter_append]
  congr 1
  by_cases e : x.file = k
  · rw [if_pos e]; simp [e]
  · rw [if_neg e]; simp [e]
theorem own_base {α : Type} {P : Program} {K : Kind P α} {B C : Nat} {w : World} {v : Value} {L : List α} (h : K.Own C v L w) (hB : B ≤ C) : K.Own B v L w := by
  rcases h.2 with ⟨rfl, e⟩ | ⟨b, cp, cur, rfl, hb, hc, r⟩
  · exact ⟨h.1, Or.inl ⟨rfl, e⟩⟩
  · exact ⟨h.1, Or.inr ⟨b, cp, cur, rfl, Nat.le_trans hB hb, hc, r⟩⟩
section
variable {B r na nc sa sc : Nat} {lv : Value} {goes : Int} {S : St}
set_option maxRecDepth 100000 in
set_option maxHeartbeats 3200000 in
theorem ref_Sync (w : World) (h : RAt B w r na nc sa sc lv goes S) (hg : GoesOk S goes) (hn : S.ops ≤ 1000000000) (hL : S.loose.length ≤ 1000000000) (hB : B ≤ w.heap.size) (f : Int) :
    Calls Try.prog 40 #[.pointer (some ⟨r, 0, none⟩), .int .i64 f] w (RPost B w r (.int .i64 (syncerS S f).1) (syncerS S f).2) := by
  have HF := Lib.hid (ref_file w f h)
  have HR := Lib.hid h
  have HG := Lib.hid hg
  by_cases he : errF S.on f = 0
  · obtain ⟨hon, hf⟩ := errF_zero he
    obtain ⟨k, rfl⟩ : ∃ k : Nat, f = k := ⟨f.toNat, by omega⟩
    have hk : k < 64 := by omega
    unfold syncerS RPost
    rw [if_neg (fun x => x he), Int.toNat_natCast]
    rw [he] at HF
    have HO := Lib.hid (ref_step w h hn hon hg)
    have HGO := Lib.hid (off_op hg hon).2.2
    have hi : (k : Int) < 64 := by omega
    have hi0 : (0 : Int) ≤ k := by omega
    rcases opS_two S with ho | ho
    · have hl1 := opS_loose S
      rw [if_neg (fun x => x ho)]
      rw [ho] at HO
      generalize (opS S).2 = S1 at HO hl1 HGO ⊢
      rw [← hl1] at hL
      obtain ⟨t, ht⟩ : ∃ t, S1.now.getD k ⟨#[]⟩ = t := ⟨_, rfl⟩
      unfold syncS
      rw [ht]
      have HT := Lib.hid ht
      have HK := Lib.hid hk
      have HL := Lib.hid hL
      have HBB := Lib.hid hB
      clear h hg hf hon he hk ht hL hn hB ho hl1
      go_enter Try.func40, Try.ntmps40
      go_wp2_with fail
      refine HF.out.mono ?_
      rintro e w' ⟨rfl, rfl⟩
      go_wp2_with fail
      refine HO.out.mono ?_
      rintro e w1 ⟨rfl, hr1, hk1⟩
      have HR1 := Lib.hid hr1
      have HK1 := Lib.hid hk1
      have HB1 := Lib.hid (Nat.le_trans HBB.out hk1.size)
      obtain ⟨la, lc, hlv, hlc⟩ := hr1.loose.reads.form
      subst hlv
      have HRD := Lib.hid hr1.loose.reads
      obtain ⟨m, hm⟩ : ∃ m, S1.loose.length = m := ⟨_, rfl⟩
      rw [hm] at HR1 HRD HL hlc
      have HM := Lib.hid hm
      clear hr1 hk1 HF HO HR HG hm
      go_wp2_with fail
      go_loopw [6, 7] (fun lf iv wr => ∃ (i : Nat) (lfa : Option Addr) (lfn lfc : Nat), i ≤ m ∧ lf = .slice lfa lfn lfc ∧ iv = .int .i64 i ∧ KR.Own w1.heap.size (.slice lfa lfn lfc) (keepF k (S1.loose.take i)) wr ∧ Below w1.heap.size w1 wr) (fun _ iv _ => m - (intOf iv).toNat)
      case atStart => exact ⟨0, none, 0, 0, Nat.zero_le _, rfl, rfl, Kind.Own.nil _ _, Below.refl _ _⟩
      case round =>
        obtain ⟨i, lfa, lfn, lfc, hi, rfl, rfl, hown, hbl⟩ := hrel
        have hrw := HR1.out.below hbl
        have hcl := hrw.cLoose
        by_cases hlt : i < m
        · have hlt2 : (i : Int) < (m : Int) := by omega
          obtain ⟨g, o, cap', hav, _, hr⟩ := (HRD.out.kept hbl).some (by rw [HM.out]; omega)
          rw [HM.out] at hav
          injection hav with hav1 hav2 hav3
          subst hav1 hav3
          have hx := List.getElem?_eq_getElem (show i < S1.loose.length by rw [HM.out]; exact hlt)
          obtain ⟨x, hxx⟩ : ∃ x, S1.loose[i]'(by rw [HM.out]; exact hlt) = x := ⟨_, rfl⟩
          rw [hxx] at hx
          have HX := Lib.hid (at_kr hr hx)
          have hxf : wr.cell? ⟨g, o + i * 4, none⟩ = some (.int .i64 x.file) := HX.out 0 _ rfl
          have HTK := Lib.hid (keepF_take (k := k) hx)
          have HBL := Lib.hid hbl
          have HOW := Lib.hid hown
          have hlen : (keepF k (S1.loose.take i)).length ≤ m := by
            refine Nat.le_trans (List.length_filter_le _ _) ?_
            rw [List.length_take, HM.out]
            exact Nat.min_le_right _ _
          have HLE := Lib.hid hlen
          have hi0 : (0 : Int) ≤ i := by omega
          have hmb : m ≤ 1000000000 := HL.out
          clear hr hx hxx hbl hown hlen hrw hav2
          by_cases hf : x.file = k
          · have hf2 : (x.file : Int) = (k : Int) := by rw [hf]
            rw [if_pos hf, List.append_nil] at HTK
            clear hf
            go_wp2_with fail
            go_roundw
            case rel => exact ⟨i + 1, _, _, _, by omega, rfl, by go_num, by rw [HTK.out]; exact HOW.out, HBL.out⟩
            case measure => simp [intOf]; omega
          · have hf2 : ¬ (x.file : Int) = (k : Int) := fun e => hf (Int.ofNat.inj e)
            have hf3 : ((x.file : Int) == (k : Int)) = false := by simpa using hf2
            have hf4 : ((x.file : Int) != (k : Int)) = true := by simpa using hf2
            rw [if_neg hf] at HTK
            clear hf
            have hHS := HBL.out.size
            have HA0 := Lib.hid ((Below.refl _ _).alloc (Nat.le_refl _) _ : Below wr.heap.size wr (wr.alloc (.cells #[.int .i64 x.file, .int .i64 x.at_, .string x.s, .bool x.cut] 89)))
            have HOA := Lib.hid (HOW.out.kept HA0.out)
            have HON := Lib.hid (kr_one wr x)
            have HSZ := Lib.hid (show w1.heap.size ≤ (wr.alloc (.cells #[.int .i64 x.file, .int .i64 x.at_, .string x.s, .bool x.cut] 89)).heap.size from Nat.le_trans hHS HA0.out.size)
            have HBY := Lib.hid (show ((keepF k (S1.loose.take i)).length + [x].length) * (KR.bytes + 1) ≤ 1099511627776 by have := HLE.out; simp [KR]; omega)
            have HBA := Lib.hid (HBL.out.trans (HA0.out.mono hHS))
            clear hHS
            go_wp2_with (first
              | (refine wpList_load_mid rfl 89 (.tmp 42) rfl g (o + i * 4) rfl [.int .i64 x.file, .int .i64 x.at_, .string x.s, .bool x.cut] _ HX.out Try.underlying89 rfl (by kernel_rfl) ?_)
              | (refine wpList_append_at (K := KR) rfl (.tmp 36) (.tmp 44) 45 rfl Try.underlying45 w1.heap.size rfl HOA.out _ [x] rfl HON.out HBY.out HSZ.out ?_; intro v5 w5 hown5 hb5; obtain ⟨la5, lc5, rfl, _⟩ := hown5.reads.form; have HOW5 := Lib.hid hown5; have HB5 := Lib.hid (HBA.out.trans hb5); clear hown5 hb5))
            go_roundw
            case rel => exact ⟨i + 1, _, _, _, by omega, rfl, by go_num, by rw [HTK.out]; have e5 := HOW5.out; rw [List.length_append, List.length_singleton] at e5; exact e5, HB5.out⟩
            case measure => simp [intOf]; omega
        · obtain rfl : i = m := by omega
          rw [List.take_of_length_le (by have := HM.out; omega)] at hown
          obtain ⟨hR5, hK5, hc5, hf5⟩ := (HR1.out.half hbl).lay HR1.out (own_base hown HB1.out)
          have HR5 := Lib.hid hR5
          have HK5 := Lib.hid (HK1.out.trans hK5)
          clear hown hbl hrw hR5 hK5 hcl
          go_upto_region 13 with (fail)
          generalize wr.setCell ⟨r, 2, none⟩ _ = w2 at HR5 HK5 ⊢
          clear hc5 hf5
          refine wp_region_still_tail 12 (by kernel_rfl) (by kernel_rfl) ?_
          simp only [List.take_succ_cons, List.take_zero, List.drop_succ_cons, List.drop_zero]
          have hr3 := HR5.out.below (Below.refl _ _).drew
          have HK3 := Lib.hid (HK5.out.drew)
          show wpStill _ _ w2.drew (fun a' => wpList _ _ _ _ a' w2.drew) _ _
          generalize w2.drew = w3 at hr3 HK3 ⊢
          have hc := hr3.cNow
          have hcs := hr3.cSure
          have hc2 := hr3.now.file HK.out
          have hc3 := hr3.sure.file HK.out
          have hfz := hr3.sure.fz
          simp only at hc2 hc3
          rw [HT.out] at hc2
          have HR4 := Lib.hid (hr3.putSure HK.out t)
          have HK4 := Lib.hid (hr3.sure.kSet hr3.bS HK3.out k (.string t))
          clear hr3 HR5 HK5
          repeat still_step
          refine wpStill_nil ?_
          go_wp2_with fail
          go_ret
          exact ⟨rfl, HK4.out, _, _, _, _, _, _, HR4.out, HGO.out⟩
    · have hr : (opS S).1 ≠ 0 := by rw [ho]; decide
      rw [if_pos hr]
      rw [ho] at HO ⊢
      generalize (opS S).2 = S1 at HO HGO ⊢
      clear h hg hf hon he hk hL hn hB ho hr
      go_enter Try.func40, Try.ntmps40
      go_wp2_with fail
      refine HF.out.mono ?_
      rintro e w' ⟨rfl, rfl⟩
      go_wp2_with fail
      refine HO.out.mono ?_
      rintro e w1 ⟨rfl, hr1, hk1⟩
      have HR1 := Lib.hid hr1
      have HK1 := Lib.hid hk1
      clear hr1 hk1
      go_wp2_with fail
      go_ret
      exact ⟨rfl, HK1.out, _, _, _, _, _, _, HR1.out, HGO.out⟩
  · unfold syncerS RPost
    rw [if_pos he]
    generalize errF S.on f = x at HF he ⊢
    have he2 : (x == 0) = false := by simpa using he
    have he3 : (x != 0) = true := by simpa using he
    clear h hg
    go_enter Try.func40, Try.ntmps40
    go_wp2_with fail
    refine HF.out.mono ?_
    rintro e w' ⟨rfl, rfl⟩
    go_wp2_with fail
    go_ret
    exact ⟨rfl, Kp.refl, _, _, _, _, _, _, HR.out, HG.out⟩
end
end Go.Proofs.Ytoacnhiophgfcaa.Dk
