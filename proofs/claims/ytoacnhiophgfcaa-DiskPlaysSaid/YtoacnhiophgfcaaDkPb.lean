/- disk: a script's call on both. -/
import Derived.Test.YtoacnhiophgfcaaDkPa
import Derived.Deep.RegionHeld3
import Derived.Deep.Cut
namespace Go.Proofs.Ytoacnhiophgfcaa.Dk
open Go.RowKit Go.Proofs.Ytoacnhiophgfcaa.Gr
theorem op_not_d : ¬ DTy 41 := by intro h; rcases h with h | h <;> exact absurd h (by decide)
theorem op_not_ref : ¬ RefTy 41 := by intro h; rcases h with h | h | h <;> exact absurd h (by decide)
theorem Mine.up {B n m g : Nat} {w : World} {lv : Value} {S : St} (h : Mine B n w g lv S) (hn : n ≤ m) : Mine B m w g lv S := ⟨h.at_, h.good.mono hn, h.gB, h.own⟩
set_option maxRecDepth 100000 in
set_option maxHeartbeats 6400000 in
theorem does_any {B n g r : Nat} {lv : Value} {S : St} (x : OpT) (keep : List Int) (w : World) (h : Mine B n w g lv S) (hr : RefAt B w r S) (hn : n ≤ 900000) (hB : B ≤ w.heap.size) (hs : x.s.size ≤ 16777216) (hK : ∀ w', Below B w w' → KI.At w' (.slice x.kA x.kN x.kC) keep) (hkl : keep.length ≤ 1000000000) (hkw : ∀ z ∈ keep, (Lit.int .i64 z).wf = true) :
    Calls Try.prog 24 #[.pointer (some ⟨g, 0, none⟩), .pointer (some ⟨r, 0, none⟩), .agg #[.int .i64 x.kind, .int .i64 x.file, .int .i64 x.at_, .int .i64 x.n, .string x.s, .slice x.kA x.kN x.kC]] w (DoesPost B (n + 2) w r (opP S x keep)) := by
  have hb1 : Below w.heap.size w (w.alloc (.cells #[.int .i64 x.kind, .int .i64 x.file, .int .i64 x.at_, .int .i64 x.n, .string x.s, .slice x.kA x.kN x.kC] 41)) := (Below.refl _ _).alloc (Nat.le_refl _) _
  have hq := heap_alloc_new w (.cells #[.int .i64 x.kind, .int .i64 x.file, .int .i64 x.at_, .int .i64 x.n, .string x.s, .slice x.kA x.kN x.kC] 41)
  have HM := Lib.hid (h.below hb1)
  have HR := Lib.hid (hr.kp (F := fun _ => False) (Kp.of_below hb1) (fun _ _ => id))
  have HB1 := Lib.hid (Nat.le_trans hB hb1.size)
  have HBW := Lib.hid (hb1.mono hB)
  have HKP := Lib.hid (Kp.of_below (B := B) (T := AnyTy) hb1)
  have HG := Lib.hid h.good
  have HS := Lib.hid hs
  have HN := Lib.hid hn
  have HK := Lib.hid hK
  have HKL := Lib.hid hkl
  have HKW := Lib.hid hkw
  clear h hr hB hs hK hkl hkw hb1 hn
  unfold DoesPost
  go_enter Try.func24, Try.ntmps24
  go_upto_region 1 with fail
  generalize w.alloc _ = w1 at hq HM HR HB1 HBW HKP ⊢
  obtain ⟨q, hqe⟩ : ∃ q, w.heap.size = q := ⟨_, rfl⟩
  rw [hqe] at hq
  rw [hqe]
  have HQ := Lib.hid hq
  have c0 : w1.cell? ⟨q, 0, none⟩ = some (.int .i64 x.kind) := by rw [Lib.cell_of_heap hq]; rfl
  have hdr := (Below.refl _ _ : Below w1.heap.size w1 w1).drew
  have HMD := Lib.hid (HM.out.below hdr)
  have HRD := Lib.hid (HR.out.kp (F := fun _ => False) (Kp.of_below hdr) (fun _ _ => id))
  have HBD := Lib.hid (Nat.le_trans HB1.out hdr.size)
  have HBX := Lib.hid (HKP.out.trans (Kp.of_below hdr))
  have HQD := Lib.hid (show w1.drew.heap[q]? = _ from hq)
  clear hq hqe hdr
  by_cases hk0 : x.kind = 0
  · have hop : opP S x keep = (appendS S x.file x.s).2 := by unfold opP; rw [if_pos hk0]
    have HOP := Lib.hid hop
    rw [hk0] at c0
    have HD := Lib.hid (HMD.out.appendD HRD.out (by have := HN.out; omega) HBD.out x.file x.s)
    have a1 : w1.drew.cell? ⟨q, 1, none⟩ = some (.int .i64 x.file) := by rw [Lib.cell_of_heap HQD.out]; rfl
    have a4 : w1.drew.cell? ⟨q, 4, none⟩ = some (.string x.s) := by rw [Lib.cell_of_heap HQD.out]; rfl
    have b1 : w1.cell? ⟨q, 1, none⟩ = some (.int .i64 x.file) := by rw [Lib.cell_of_heap HQ.out]; rfl
    have b4 : w1.cell? ⟨q, 4, none⟩ = some (.string x.s) := by rw [Lib.cell_of_heap HQ.out]; rfl
    clear hop hk0
    go_upto_region 3 with fail
    go_region_held3 (fun w' => w'.cell? ⟨q, 1, none⟩ = some (.int .i64 x.file) ∧ w'.cell? ⟨q, 4, none⟩ = some (.string x.s)) (first | go_keep | (refine ⟨?_, ?_⟩ <;> assumption))
      (first
        | (go_at_call 10; refine HD.out.mono ?_; rintro e w2 ⟨rfl, hk2, hr2, l2, hm2⟩; have hq2 := hk2.block q _ HQD.out (Or.inr fun cs t fz e => by cases e; exact op_not_d); have hB2 := Nat.le_trans HBD.out hk2.size; have a12 : w2.cell? ⟨q, 1, none⟩ = some (.int .i64 x.file) := (by rw [Lib.cell_of_heap hq2]; rfl); have a42 : w2.cell? ⟨q, 4, none⟩ = some (.string x.s) := (by rw [Lib.cell_of_heap hq2]; rfl))
        | (go_at_call 38; refine (hr2.append HG.out (by have := HN.out; omega) hB2 x.file x.s HS.out).mono ?_; rintro e w3 ⟨rfl, hk3, hr3⟩; have hq3 := hk3.block q _ hq2 (Or.inr fun cs t fz e => by cases e; exact op_not_ref); have a13 : w3.cell? ⟨q, 1, none⟩ = some (.int .i64 x.file) := (by rw [Lib.cell_of_heap hq3]; rfl); have a43 : w3.cell? ⟨q, 4, none⟩ = some (.string x.s) := (by rw [Lib.cell_of_heap hq3]; rfl)))
    generalize (appendS S x.file x.s).1 = v at *
    have HP := Lib.hid (show ∃ lv, Mine B (n + 2) w3 g lv _ from ⟨l2, (hm2.kp hk3 (by intro h; rcases h with h | h | h <;> exact absurd h (by decide)) (by intro h; rcases h with h | h | h <;> exact absurd h (by decide))).up (by omega)⟩)
    have HQ3 := Lib.hid hr3
    have HB3 := Lib.hid (HBX.out.trans (hk2.anyD.trans hk3.anyR))
    go_wp2_with fail
    go_ret2
    obtain ⟨l3, h3⟩ := HP.out
    exact ⟨g, l3, by simp, by rw [HOP.out]; exact h3, by rw [HOP.out]; exact HQ3.out, HB3.out⟩
  by_cases hk1 : x.kind = 1
  · have hop : opP S x keep = (cutterS S x.file x.n).2 := by unfold opP; rw [if_neg (show ¬ x.kind = 0 by omega)]; rw [if_pos hk1]
    have HOP := Lib.hid hop
    rw [hk1] at c0
    have HD := Lib.hid (HMD.out.cutD HRD.out (by have := HN.out; omega) HBD.out x.file x.n)
    have a1 : w1.drew.cell? ⟨q, 1, none⟩ = some (.int .i64 x.file) := by rw [Lib.cell_of_heap HQD.out]; rfl
    have a3 : w1.drew.cell? ⟨q, 3, none⟩ = some (.int .i64 x.n) := by rw [Lib.cell_of_heap HQD.out]; rfl
    have b1 : w1.cell? ⟨q, 1, none⟩ = some (.int .i64 x.file) := by rw [Lib.cell_of_heap HQ.out]; rfl
    have b3 : w1.cell? ⟨q, 3, none⟩ = some (.int .i64 x.n) := by rw [Lib.cell_of_heap HQ.out]; rfl
    clear hop hk1
    go_upto_region 5 with fail
    go_region_held3 (fun w' => w'.cell? ⟨q, 1, none⟩ = some (.int .i64 x.file) ∧ w'.cell? ⟨q, 3, none⟩ = some (.int .i64 x.n)) (first | go_keep | (refine ⟨?_, ?_⟩ <;> assumption))
      (first
        | (go_at_call 18; refine HD.out.mono ?_; rintro e w2 ⟨rfl, hk2, hr2, l2, hm2⟩; have hq2 := hk2.block q _ HQD.out (Or.inr fun cs t fz e => by cases e; exact op_not_d); have hB2 := Nat.le_trans HBD.out hk2.size; have a12 : w2.cell? ⟨q, 1, none⟩ = some (.int .i64 x.file) := (by rw [Lib.cell_of_heap hq2]; rfl); have a32 : w2.cell? ⟨q, 3, none⟩ = some (.int .i64 x.n) := (by rw [Lib.cell_of_heap hq2]; rfl))
        | (go_at_call 39; refine (hr2.cut HG.out (by have := HN.out; omega) hB2 x.file x.n).mono ?_; rintro e w3 ⟨rfl, hk3, hr3⟩; have hq3 := hk3.block q _ hq2 (Or.inr fun cs t fz e => by cases e; exact op_not_ref); have a13 : w3.cell? ⟨q, 1, none⟩ = some (.int .i64 x.file) := (by rw [Lib.cell_of_heap hq3]; rfl); have a33 : w3.cell? ⟨q, 3, none⟩ = some (.int .i64 x.n) := (by rw [Lib.cell_of_heap hq3]; rfl)))
    generalize (cutterS S x.file x.n).1 = v at *
    have HP := Lib.hid (show ∃ lv, Mine B (n + 2) w3 g lv _ from ⟨l2, (hm2.kp hk3 (by intro h; rcases h with h | h | h <;> exact absurd h (by decide)) (by intro h; rcases h with h | h | h <;> exact absurd h (by decide))).up (by omega)⟩)
    have HQ3 := Lib.hid hr3
    have HB3 := Lib.hid (HBX.out.trans (hk2.anyD.trans hk3.anyR))
    go_wp2_with fail
    go_ret2
    obtain ⟨l3, h3⟩ := HP.out
    exact ⟨g, l3, by simp, by rw [HOP.out]; exact h3, by rw [HOP.out]; exact HQ3.out, HB3.out⟩
  by_cases hk2 : x.kind = 2
  · have hop : opP S x keep = (syncerS S x.file).2 := by unfold opP; rw [if_neg (show ¬ x.kind = 0 by omega)]; rw [if_neg (show ¬ x.kind = 1 by omega)]; rw [if_pos hk2]
    have HOP := Lib.hid hop
    rw [hk2] at c0
    have HD := Lib.hid (HMD.out.syncD HRD.out (by have := HN.out; omega) HBD.out x.file)
    have a1 : w1.drew.cell? ⟨q, 1, none⟩ = some (.int .i64 x.file) := by rw [Lib.cell_of_heap HQD.out]; rfl
    have b1 : w1.cell? ⟨q, 1, none⟩ = some (.int .i64 x.file) := by rw [Lib.cell_of_heap HQ.out]; rfl
    clear hop hk2
    go_upto_region 7 with fail
    go_region_held3 (fun w' => w'.cell? ⟨q, 1, none⟩ = some (.int .i64 x.file)) (first | go_keep | assumption)
      (first
        | (go_at_call 15; refine HD.out.mono ?_; rintro e w2 ⟨rfl, hk2, hr2, l2, hm2⟩; have hq2 := hk2.block q _ HQD.out (Or.inr fun cs t fz e => by cases e; exact op_not_d); have hB2 := Nat.le_trans HBD.out hk2.size; have a12 : w2.cell? ⟨q, 1, none⟩ = some (.int .i64 x.file) := (by rw [Lib.cell_of_heap hq2]; rfl))
        | (go_at_call 40; refine (hr2.sync HG.out (by have := HN.out; omega) hB2 x.file).mono ?_; rintro e w3 ⟨rfl, hk3, hr3⟩; have hq3 := hk3.block q _ hq2 (Or.inr fun cs t fz e => by cases e; exact op_not_ref); have a13 : w3.cell? ⟨q, 1, none⟩ = some (.int .i64 x.file) := (by rw [Lib.cell_of_heap hq3]; rfl)))
    generalize (syncerS S x.file).1 = v at *
    have HP := Lib.hid (show ∃ lv, Mine B (n + 2) w3 g lv _ from ⟨l2, (hm2.kp hk3 (by intro h; rcases h with h | h | h <;> exact absurd h (by decide)) (by intro h; rcases h with h | h | h <;> exact absurd h (by decide))).up (by omega)⟩)
    have HQ3 := Lib.hid hr3
    have HB3 := Lib.hid (HBX.out.trans (hk2.anyD.trans hk3.anyR))
    go_wp2_with fail
    go_ret2
    obtain ⟨l3, h3⟩ := HP.out
    exact ⟨g, l3, by simp, by rw [HOP.out]; exact h3, by rw [HOP.out]; exact HQ3.out, HB3.out⟩
  by_cases hk4 : x.kind = 4
  · have hop : opP S x keep = (powerS S x.n).2 := by unfold opP; rw [if_neg (show ¬ x.kind = 0 by omega)]; rw [if_neg (show ¬ x.kind = 1 by omega)]; rw [if_neg (show ¬ x.kind = 2 by omega)]; rw [if_pos hk4]
    have HOP := Lib.hid hop
    rw [hk4] at c0
    have HD := Lib.hid (HMD.out.powerD HRD.out HBD.out x.n)
    have a3 : w1.drew.cell? ⟨q, 3, none⟩ = some (.int .i64 x.n) := by rw [Lib.cell_of_heap HQD.out]; rfl
    have b3 : w1.cell? ⟨q, 3, none⟩ = some (.int .i64 x.n) := by rw [Lib.cell_of_heap HQ.out]; rfl
    clear hop hk4
    go_upto_region 13 with fail
    go_region_held3 (fun w' => w'.cell? ⟨q, 3, none⟩ = some (.int .i64 x.n)) (first | go_keep | assumption)
      (first
        | (go_at_call 19; refine HD.out.mono ?_; rintro e w2 ⟨rfl, hk2, hr2, l2, hm2⟩; have hq2 := hk2.block q _ HQD.out (Or.inr fun cs t fz e => by cases e; exact op_not_d); have hB2 := Nat.le_trans HBD.out hk2.size; have a32 : w2.cell? ⟨q, 3, none⟩ = some (.int .i64 x.n) := (by rw [Lib.cell_of_heap hq2]; rfl))
        | (go_at_call 42; refine (hr2.power HG.out (by have := HN.out; omega) x.n).mono ?_; rintro e w3 ⟨rfl, hk3, hr3⟩; have hq3 := hk3.block q _ hq2 (Or.inr fun cs t fz e => by cases e; exact op_not_ref); have a33 : w3.cell? ⟨q, 3, none⟩ = some (.int .i64 x.n) := (by rw [Lib.cell_of_heap hq3]; rfl)))
    generalize (powerS S x.n).1 = v at *
    have HP := Lib.hid (show ∃ lv, Mine B (n + 2) w3 g lv _ from ⟨l2, (hm2.kp hk3 (by intro h; rcases h with h | h | h <;> exact absurd h (by decide)) (by intro h; rcases h with h | h | h <;> exact absurd h (by decide))).up (by omega)⟩)
    have HQ3 := Lib.hid hr3
    have HB3 := Lib.hid (HBX.out.trans (hk2.anyD.trans hk3.anyR))
    go_wp2_with fail
    go_ret2
    obtain ⟨l3, h3⟩ := HP.out
    exact ⟨g, l3, by simp, by rw [HOP.out]; exact h3, by rw [HOP.out]; exact HQ3.out, HB3.out⟩
  by_cases hk3 : x.kind = 3
  · have HOP := Lib.hid (show opP S x keep = S by unfold opP; rw [if_neg hk0, if_neg hk1, if_neg hk2, if_neg hk4, if_neg (by omega)])
    rw [hk3] at c0
    have HD := Lib.hid (code_Read g lv S x.file x.at_ x.n w1 HM.out.at_ HM.out.good.now)
    have HE := Lib.hid (HR.out.read HG.out x.file x.at_ x.n)
    have b1 : w1.cell? ⟨q, 1, none⟩ = some (.int .i64 x.file) := by rw [Lib.cell_of_heap HQ.out]; rfl
    have b2 : w1.cell? ⟨q, 2, none⟩ = some (.int .i64 x.at_) := by rw [Lib.cell_of_heap HQ.out]; rfl
    have b3 : w1.cell? ⟨q, 3, none⟩ = some (.int .i64 x.n) := by rw [Lib.cell_of_heap HQ.out]; rfl
    generalize readV S x.file x.at_ x.n = p at HD HE
    obtain ⟨t, v⟩ := p
    simp only at HD HE
    clear hk0 hk1 hk2 hk3 hk4
    go_wp2_with fail
    refine HD.out.mono ?_
    rintro e w' ⟨rfl, rfl⟩
    go_wp2_with fail
    refine HE.out.mono ?_
    rintro e w' ⟨rfl, rfl⟩
    go_wp2_with fail
    go_ret2
    exact ⟨g, lv, by simp, by rw [HOP.out]; exact HM.out.up (by omega), by rw [HOP.out]; exact HR.out, HKP.out⟩
  by_cases hk5 : x.kind = 5
  · have HOP := Lib.hid (show opP S x keep = crashS S keep by unfold opP; rw [if_neg hk0, if_neg hk1, if_neg hk2, if_neg hk4, if_pos hk5])
    rw [hk5] at c0
    have b5 : w1.cell? ⟨q, 5, none⟩ = some (.slice x.kA x.kN x.kC) := by rw [Lib.cell_of_heap HQ.out]; rfl
    have HD := Lib.hid (HR.out.crash HG.out (by have := HN.out; omega) HB1.out _ keep (fun w' hb => HK.out w' (HBW.out.trans hb)) HKL.out HKW.out)
    clear hk0 hk1 hk2 hk3 hk4 hk5
    go_wp2_with fail
    refine HD.out.mono ?_
    rintro e w2 ⟨rfl, hk2, hr2⟩
    have hq2 := hk2.block q _ HQ.out (Or.inr fun cs t fz e => by cases e; exact op_not_ref)
    have b52 : w2.cell? ⟨q, 5, none⟩ = some (.slice x.kA x.kN x.kC) := by rw [Lib.cell_of_heap hq2]; rfl
    have hB2 := Nat.le_trans HB1.out hk2.size
    have hm2 := HM.out.kp hk2 (by intro h; rcases h with h | h | h <;> exact absurd h (by decide)) (by intro h; rcases h with h | h | h <;> exact absurd h (by decide))
    have HE := Lib.hid (hm2.crashD hr2 (by have := HN.out; omega) hB2 _ keep (HK.out w2 (HBW.out.trans (hk2.below HB1.out))))
    have HB2 := Lib.hid (HKP.out.trans hk2.anyR)
    have HS2 := Lib.hid hB2
    clear hk2 hr2 hq2 hB2 hm2
    go_wp2_with fail
    refine HE.out.mono ?_
    rintro e w3 ⟨rfl, hk3, hr3, l3, hm3⟩
    have HM3 := Lib.hid hm3
    have HR3 := Lib.hid hr3
    have HB3 := Lib.hid (HB2.out.trans hk3.anyD)
    clear hk3 hr3 hm3
    go_wp2_with fail
    go_ret2
    exact ⟨g, l3, by simp, by rw [HOP.out]; exact HM3.out.up (by omega), by rw [HOP.out]; exact HR3.out, HB3.out⟩
  have HOP := Lib.hid (show opP S x keep = S by unfold opP; rw [if_neg hk0, if_neg hk1, if_neg hk2, if_neg hk4, if_neg hk5])
  by_cases hk6 : x.kind = 6
  · rw [hk6] at c0
    have HD := Lib.hid (code_Copy g lv S w1 HM.out.at_ (by have := HG.out.loose; have := HN.out; omega))
    clear hk0 hk1 hk2 hk3 hk4 hk5 hk6
    go_wp2_with fail
    refine HD.out.mono ?_
    rintro e w2 ⟨rfl, hb2, lu, hd2, ho2⟩
    have hm2 := HM.out.below hb2
    have hr2 := HR.out.kp (F := fun _ => False) (Kp.of_below hb2) (fun _ _ => id)
    have hB2 := Nat.le_trans HB1.out hb2.size
    have HE := Lib.hid (code_Append g lv S 0 ⟨#[108, 111, 115, 116]⟩ w2 hm2.at_ (hm2.good.good (by have := HN.out; omega)).toFits)
    have HM2 := Lib.hid hm2
    have HR2 := Lib.hid hr2
    have HD2 := Lib.hid hd2
    have HO2 := Lib.hid ho2
    have HB2 := Lib.hid (HKP.out.trans (Kp.of_below hb2))
    have HS2 := Lib.hid hB2
    clear hb2 hd2 ho2 hm2 hr2 hB2
    go_wp2_with fail
    refine HE.out.mono ?_
    rintro e w3 ⟨rfl, l3, hl3⟩
    have hk3 : Kp B DTy w2 w3 := hl3.kp HM2.out
    have HR3 := Lib.hid (HR2.out.kp hk3 dty_ref)
    have HB3 := Lib.hid (HB2.out.trans hk3.anyD)
    have hnf : ∀ k, foot g lv k → k < w1.heap.size := HM.out.lt
    have HM3 := Lib.hid (show Mine B (n + 2) w3 w1.heap.size lu S from ⟨HD2.out.kept hl3.frm (fun h => by have := hnf _ h; omega) (fun k hk h => by have := hnf _ h; have := HO2.out k hk; omega), HG.out.mono (by omega), HB1.out, fun k hk => by have := HO2.out k hk; have := HB1.out; omega⟩)
    clear hl3 hk3 hnf
    go_wp2_with fail
    go_ret2
    exact ⟨w1.heap.size, lu, by simp, by rw [HOP.out]; exact HM3.out, by rw [HOP.out]; exact HR3.out, HB3.out⟩
  · have e0 : (x.kind == 0) = false := by simpa using hk0
    have e1 : (x.kind == 1) = false := by simpa using hk1
    have e2 : (x.kind == 2) = false := by simpa using hk2
    have e3 : (x.kind == 3) = false := by simpa using hk3
    have e4 : (x.kind == 4) = false := by simpa using hk4
    have e5 : (x.kind == 5) = false := by simpa using hk5
    have e6 : (x.kind == 6) = false := by simpa using hk6
    clear hk0 hk1 hk2 hk3 hk4 hk5 hk6
    go_wp2_with fail
    go_ret2
    exact ⟨g, lv, by simp, by rw [HOP.out]; exact HM.out.up (by omega), by rw [HOP.out]; exact HR.out, HKP.out⟩
end Go.Proofs.Ytoacnhiophgfcaa.Dk
