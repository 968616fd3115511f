/- disk: DiskPlays. -/
import Derived.Test.YtoacnhiophgfcaaDkPb
import Derived.Deep.QuietTactic
import Derived.Deep.Cut
namespace Go.Proofs.Ytoacnhiophgfcaa.Dk
open Go.RowKit Go.Proofs.Ytoacnhiophgfcaa.Gr
section
variable {B n g r : Nat} {w : World} {lv : Value} {S : St}
theorem Mine.drewN (h : Mine B n w g lv S) (k : Nat) : Mine B n (w.drewN k) g lv S := ⟨⟨h.at_.heap, h.at_.now, h.at_.sure, h.at_.own⟩, h.good, h.gB, h.own⟩
theorem RAt.drewN {na nc sa sc : Nat} {goes : Int} (h : RAt B w r na nc sa sc lv goes S) (k : Nat) : RAt B (w.drewN k) r na nc sa sc lv goes S := ⟨h.heap, ⟨h.now.heap, h.now.len, h.now.cap⟩, ⟨h.sure.heap, h.sure.len, h.sure.cap⟩, h.loose, h.ne, h.bR, h.bN, h.bS⟩
theorem same_of {f : FuncId} {args : Array Value} {v : Value} (h : Calls Try.prog f args w fun e w' => e = .returned v ∧ w = w') : Calls Try.prog f args w fun e w' => e = .returned v ∧ w' = w := h.mono fun _ _ ⟨a, b⟩ => ⟨a, b.symm⟩
end
attribute [local irreducible] Go.wpQuiet in
set_option maxRecDepth 100000 in
set_option maxHeartbeats 6400000 in
theorem plays_any (v0 : Value) (L : List OpT) (w : World) (h0 : KO.At w v0 L) (hL : L.length ≤ 9223372036854775807) (hok : ∀ y ∈ L, OpOk w y) :
    Calls Try.prog 4 #[v0] w (YesPost w) := by
  have HW := Lib.hid (works_any w)
  have HL := Lib.hid hL
  obtain ⟨va, vc, rfl, hvc⟩ := h0.form
  obtain ⟨m, hm⟩ : ∃ m, L.length = m := ⟨_, rfl⟩
  rw [hm] at h0 hvc
  have H0 := Lib.hid h0
  have HM := Lib.hid hm
  have HOK := Lib.hid hok
  rw [hm]
  clear h0 hL hm hok
  go_enter Try.func4, Try.ntmps4
  go_wp2_with fail
  refine HW.out.mono ?_
  rintro e ww ⟨rfl, hbw⟩
  have HBW := Lib.hid hbw
  clear hbw HW
  go_wp2_with fail
  refine (code_heavy _ L ww (H0.out.kept HBW.out) HL.out).mono ?_
  rintro e w1 ⟨⟨b1, rfl, hl1⟩, hb1⟩
  have HB1 := Lib.hid (HBW.out.trans (hb1.mono HBW.out.size))
  have HL1 := Lib.hid hl1
  clear hb1 hl1 HBW
  cases b1 with
  | true =>
    go_wp2_with fail
    go_ret
    exact ⟨rfl, HB1.out⟩
  | false =>
  have HLT := Lib.hid (HL1.out rfl)
  have hmb : m ≤ 200 := by have := HLT.out.1; have := HM.out; omega
  go_wp2_with fail
  refine (code_New _).mono ?_
  rintro e w2 ⟨rfl, hd2, hb2⟩
  have hm2 := mine_new hd2 good_new HB1.out.size
  have HB2 := Lib.hid (HB1.out.trans (hb2.mono HB1.out.size))
  generalize w1.heap.size = g at hm2 ⊢
  have HM2 := Lib.hid hm2
  clear hd2 hb2 hm2
  go_wp2_with fail
  refine (ref_New w2 w.heap.size HB2.out.size).mono ?_
  rintro e w3 ⟨r, rfl, hr3, hb3⟩
  have HM3 := Lib.hid (HM2.out.below hb3)
  have HR3 := Lib.hid hr3
  have HB3 := Lib.hid (HB2.out.trans (hb3.mono HB2.out.size))
  clear hr3 hb3 HM2
  go_wp2_with fail
  go_loopw [3, 18] (fun dv iv wr => ∃ (i g : Nat) (lv : Value) (T : St), i ≤ m ∧ dv = .pointer (some ⟨g, 0, none⟩) ∧ iv = .int .i64 i ∧ Mine w.heap.size (2 * i) wr g lv T ∧ RefAt w.heap.size wr r T ∧ Below w.heap.size w wr) (fun _ iv _ => m - (intOf iv).toNat)
  case atStart => exact ⟨0, g, _, _, Nat.zero_le _, rfl, rfl, HM3.out, HR3.out, HB3.out⟩
  case round =>
    obtain ⟨i, g, lv, T, hi, rfl, rfl, hmz, hrz, hbz⟩ := hrel
    by_cases hlt : i < m
    · have hlt2 : (i : Int) < (m : Int) := by omega
      obtain ⟨gg, o, cap', hav, _, hr⟩ := (H0.out.kept hbz).some (by rw [HM.out]; omega)
      rw [HM.out] at hav
      injection hav with e1 e2 e3
      subst e1
      have hx := List.getElem?_eq_getElem (show i < L.length by rw [HM.out]; exact hlt)
      obtain ⟨x, hxx⟩ : ∃ x, L[i]'(by rw [HM.out]; exact hlt) = x := ⟨_, rfl⟩
      rw [hxx] at hx
      have HX := Lib.hid (at_op hr hx)
      have HLX := Lib.hid (HLT.out.2 i x hx)
      obtain ⟨_, _, _, _, _, keep, hke, hkl, hkw⟩ := HOK.out x (List.mem_of_getElem? hx)
      have HKE := Lib.hid hke
      have HKW := Lib.hid hkw
      have hkn : keep.length = x.kN := by
        obtain ⟨_, _, e, _⟩ := hke.form
        injection e with _ e _
        exact e.symm
      have HKN := Lib.hid (show keep.length ≤ 1000000000 by have := (HLT.out.2 i x hx).2; omega)
      have hbx : Below wr.heap.size wr (wr.alloc (.cells #[.int .i64 x.kind, .int .i64 x.file, .int .i64 x.at_, .int .i64 x.n, .string x.s, .slice x.kA x.kN x.kC] 41)) := (Below.refl _ _).alloc (Nat.le_refl _) _
      have hq := heap_alloc_new wr (.cells #[.int .i64 x.kind, .int .i64 x.file, .int .i64 x.at_, .int .i64 x.n, .string x.s, .slice x.kA x.kN x.kC] 41)
      have hml := hmz.below hbx
      have hrl := hrz.kp (F := fun _ => False) (Kp.of_below hbx) (fun _ _ => id)
      have hbl := hbz.trans (hbx.mono hbz.size)
      clear hr hx hxx e2 e3 hkn hke hkl hkw hmz hrz hbz hbx
      go_upto_region 9 with (refine wpList_load_mid rfl 41 (.tmp 20) rfl gg (o + i * 6) rfl [.int .i64 x.kind, .int .i64 x.file, .int .i64 x.at_, .int .i64 x.n, .string x.s, .slice x.kA x.kN x.kC] _ HX.out Try.underlying41 rfl op_info ?_)
      generalize wr.alloc (.cells #[.int .i64 x.kind, .int .i64 x.file, .int .i64 x.at_, .int .i64 x.n, .string x.s, .slice x.kA x.kN x.kC] 41) = w6 at hq hml hrl hbl ⊢
      obtain ⟨q, hqe⟩ : ∃ q, wr.heap.size = q := ⟨_, rfl⟩
      rw [hqe] at hq
      rw [hqe]
      have HQ := Lib.hid hq
      have HBL := Lib.hid hbl
      have HD := Lib.hid (does_any x keep w6 hml hrl (by omega) hbl.size (by have := HLX.out.1; omega) (fun w' hb => HKE.out.kept (hbl.trans hb)) HKN.out HKW.out)
      clear hq hml hrl hbl hqe HX
      go_wp2_with (refine wpList_load_row rfl 41 (.tmp 6) rfl q rfl 41 #[.int .i64 x.kind, .int .i64 x.file, .int .i64 x.at_, .int .i64 x.n, .string x.s, .slice x.kA x.kN x.kC] (0, 0) _ HQ.out Try.underlying41 rfl op_info ?_)
      refine HD.out.mono ?_
      rintro e w7 ⟨g7, l7, rfl, hm7, hr7, hb7⟩
      have hq7 := hb7.block q _ HQ.out (Or.inr fun cs t fz e => by cases e; intro h; rcases h with h | h; exact op_not_d h; exact op_not_ref h)
      have HB7 := Lib.hid (HBL.out.trans (hb7.below HBL.out.size))
      obtain ⟨na, nc, sa, sc, lr, goes, hr7', hgo⟩ := hr7
      obtain ⟨la, lc, hlv, hlc⟩ := hr7'.loose.reads.form
      subst hlv
      obtain ⟨S7, hS7⟩ : ∃ S7, opP T x keep = S7 := ⟨_, rfl⟩
      rw [hS7] at hm7 hr7' hgo hlc

      have HM7 := Lib.hid hm7
      have HR7 := Lib.hid hr7'
      have HG7 := Lib.hid hgo
      have c1 : w7.cell? ⟨q, 1, none⟩ = some (.int .i64 x.file) := by rw [Lib.cell_of_heap hq7]; rfl
      have d2 := hr7'.cLoose
      have d3 := hr7'.cOps
      have d5 := hr7'.cOff
      have HOps := Lib.hid (fun k => same_of ((hm7.drewN k).opsTo rfl))
      have HLoo := Lib.hid (fun k => same_of ((hm7.drewN k).looseTo rfl))
      have HOn := Lib.hid (fun k => same_of ((hm7.drewN k).onTo rfl))
      have HSz := Lib.hid (fun k => same_of ((hm7.drewN k).sizeTo (f := x.file) rfl))
      have HRz := Lib.hid (fun k => same_of (ref_Size (w7.drewN k) x.file (hr7'.drewN k)))
      have hlen : S7.loose.length ≤ lc := hlc
      clear hm7 hr7' hgo hb7 hq7 hS7 hlc HD
      obtain ⟨on, hon⟩ : ∃ b, S7.on = b := ⟨_, rfl⟩
      rw [hon] at d5 HOn
      have HON := Lib.hid hon
      clear hon
      cases on
      all_goals
        go_upto_region 11 with fail
        go_quiet (first
          | (go_at_call 13; refine Calls.quiet_of_same (HOps.out _))
          | (go_at_call 12; refine Calls.quiet_of_same (HLoo.out _))
          | (go_at_call 20; refine Calls.quiet_of_same (HOn.out _))
          | (go_at_call 11; refine Calls.quiet_of_same (HSz.out _))
          | (go_at_call 25; refine Calls.quiet_of_same (HRz.out _)))
        go_wp2_with fail
        go_roundw
        case rel => exact ⟨i + 1, g7, l7, S7, by omega, rfl, by go_num, (HM7.out.drewN nq).up (by omega), ⟨_, _, _, _, _, _, HR7.out.drewN nq, HG7.out⟩, ⟨HB7.out.os, HB7.out.tape, HB7.out.output, HB7.out.size, HB7.out.block⟩⟩
        case measure => simp [intOf]; omega
    · obtain rfl : i = m := by omega
      obtain ⟨na, nc, sa, sc, lr, goes, hr7, _⟩ := hrz
      obtain ⟨on, hon⟩ : ∃ b, T.on = b := ⟨_, rfl⟩
      have HMZ := Lib.hid hmz
      have HRZ := Lib.hid hr7
      have HBZ := Lib.hid hbz
      have HON := Lib.hid hon
      clear hmz hr7 hbz hon
      go_wp2_with fail
      go_loopw [72] (fun iv wr2 => ∃ f : Nat, f ≤ 64 ∧ iv = .int .i64 f ∧ Mine w.heap.size (2 * i) wr2 g lv T ∧ RAt w.heap.size wr2 r na nc sa sc lr goes T ∧ Below w.heap.size w wr2) (fun iv _ => 64 - (intOf iv).toNat)
      case atStart => exact ⟨0, Nat.zero_le _, rfl, HMZ.out, HRZ.out, HBZ.out⟩
      case round =>
        obtain ⟨f, hf, rfl, hmz, hrz, hbz⟩ := hrel
        by_cases hlf : f < 64
        · have hlf2 : (f : Int) < 64 := by omega
          have hlf0 : (0 : Int) ≤ f := by omega
          obtain ⟨t, ht⟩ : ∃ t, T.now.getD f ⟨#[]⟩ = t := ⟨_, rfl⟩
          have d0 := hrz.cNow
          have d5 := hrz.cOff
          have dn := hrz.now.file hlf
          rw [ht] at dn
          have HSz := Lib.hid (fun k => same_of ((hmz.drewN k).sizeTo (f := f) (m := t.size) (by unfold sizeF; rw [if_neg (by omega), Int.toNat_natCast, ht])))
          have HMZ2 := Lib.hid hmz
          have HRZ2 := Lib.hid hrz
          have HBZ2 := Lib.hid hbz
          rw [HON.out] at d5
          cases on with
          | true =>
            have HAl := Lib.hid (fun k => same_of ((hmz.drewN k).allTo (f := f) (s := t) (by unfold allS; rw [HON.out, if_neg (by rw [errF_file hlf]; simp), Int.toNat_natCast, ht])))
            clear hmz hrz hbz ht hlf
            go_upto_region 17 with fail
            go_quiet (first
              | (go_at_call 11; refine Calls.quiet_of_same (HSz.out _))
              | (go_at_call 17; refine Calls.quiet_of_same (HAl.out _)))
            go_wp2_with fail
            go_roundw
            case rel => exact ⟨f + 1, by omega, by go_num, HMZ2.out.drewN nq, HRZ2.out.drewN nq, ⟨HBZ2.out.os, HBZ2.out.tape, HBZ2.out.output, HBZ2.out.size, HBZ2.out.block⟩⟩
            case measure => simp [intOf]; omega
          | false =>
            clear hmz hrz hbz ht hlf
            go_upto_region 17 with fail
            go_quiet (first
              | (go_at_call 11; refine Calls.quiet_of_same (HSz.out _)))
            go_wp2_with fail
            go_roundw
            case rel => exact ⟨f + 1, by omega, by go_num, HMZ2.out.drewN nq, HRZ2.out.drewN nq, ⟨HBZ2.out.os, HBZ2.out.tape, HBZ2.out.output, HBZ2.out.size, HBZ2.out.block⟩⟩
            case measure => simp [intOf]; omega
        · obtain rfl : f = 64 := by omega
          have HBZ2 := Lib.hid hbz
          clear hmz hrz hbz
          go_wp2_with fail
          go_ret
          exact ⟨rfl, HBZ2.out⟩
theorem law_DiskPlays (v0 : Value) (a0 : List OpT) (w : World) (w0 : KO.At w v0 a0) (x0 : a0.length ≤ 9223372036854775807) (y0 : ∀ y ∈ a0, OpOk w y) :
    Calls Try.prog 4 #[v0] w fun e w' => e = .returned (.bool true) ∧ Below w.heap.size w w' := plays_any v0 a0 w w0 x0 y0
end Go.Proofs.Ytoacnhiophgfcaa.Dk
