/- disk: DiskSure. -/
import Derived.Test.YtoacnhiophgfcaaDkQ
import Derived.Test.YtoacnhiophgfcaaDkQ2
import Derived.Test.YtoacnhiophgfcaaDkL
import Derived.Deep.Cut
namespace Go.Proofs.Ytoacnhiophgfcaa.Dk
open Go.RowKit Go.Proofs.Ytoacnhiophgfcaa.Gr

def thenS (f : Int) (S : St) (M : List OpT) : St := M.foldl (fun S x => if x.file = f then S else opD S x) S
theorem thenS_take {f : Int} {S : St} {M : List OpT} {i : Nat} {x : OpT} (h : M[i]? = some x) : thenS f S (M.take (i + 1)) = if x.file = f then thenS f S (M.take i) else opD (thenS f S (M.take i)) x := by
  rw [List.take_add_one, h]
  unfold thenS
  rw [List.foldl_append]
  rfl
theorem GoodN.then {n : Nat} {S : St} (h : GoodN n S) (f : Int) : ∀ (M : List OpT), GoodN (n + M.length) (thenS f S M)
  | [] => h
  | x :: M => by
    show GoodN (n + (x :: M).length) (thenS f (if x.file = f then S else Dk.opD S x) M)
    rw [show n + (x :: M).length = n + 1 + M.length by simp; omega]
    split
    · exact (h.mono (by omega)).then f M
    · exact (h.opD x).then f M
theorem Whole.then {n : Nat} {S : St} (h : Whole S) (hg : GoodN n S) (f : Int) : ∀ (M : List OpT), Whole (thenS f S M)
  | [] => h
  | x :: M => by
    show Whole (thenS f (if x.file = f then S else Dk.opD S x) M)
    split
    · exact h.then hg f M
    · exact (h.opD hg x).then (hg.opD x) f M
theorem Sure.then {f : Nat} {u : ByteArray} {S : St} (h : Sure f u S) : ∀ (M : List OpT), Sure f u (thenS f S M)
  | [] => h
  | x :: M => by
    show Sure f u (thenS f (if x.file = f then S else Dk.opD S x) M)
    by_cases e : x.file = f
    · rw [if_pos e]
      exact h.then M
    · rw [if_neg e]
      exact (h.opD x e).then M
theorem Sure.all {f : Nat} {u : ByteArray} {S : St} (h : Sure f u S) (hw : Whole S) (hf : f < 64) : allS S f = u := by
  unfold allS
  rw [hw.on, if_neg (by rw [errF_file hf]; simp), Int.toNat_natCast]
  exact h.now
theorem Whole.allS {S : St} (h : Whole S) {f : Nat} (hf : f < 64) : allS S f = S.now.getD f ⟨#[]⟩ := by
  unfold Dk.allS
  rw [h.on, if_neg (by rw [errF_file hf]; simp), Int.toNat_natCast]
theorem op_one (w : World) (x : OpT) : KO.At (w.alloc (.cells #[.int .i64 x.kind, .int .i64 x.file, .int .i64 x.at_, .int .i64 x.n, .string x.s, .slice x.kA x.kN x.kC] 41)) (.slice (some ⟨w.heap.size, 0, none⟩) 1 1) [x] :=
  Or.inr ⟨w.heap.size, 0, 1, rfl, by simp, Nat.le_refl _, fun j u hj => by
    rw [Nat.zero_add, Lib.cell_of_heap (heap_alloc_new w _)]
    simp only [Kind.flat, KO, OpT.cells, List.flatMap_cons, List.flatMap_nil, List.append_nil] at hj
    rw [← hj]
    simp⟩
theorem ki_mega (w : World) : KI.At (w.alloc (.cells #[.int .i64 1048576] 3)) (.slice (some ⟨w.heap.size, 0, none⟩) 1 1) [1048576] :=
  Or.inr ⟨w.heap.size, 0, 1, rfl, by simp, Nat.le_refl _, fun j u hj => by
    rw [Nat.zero_add, Lib.cell_of_heap (heap_alloc_new w _)]
    simp only [Kind.flat, KI, List.flatMap_cons, List.flatMap_nil, List.append_nil] at hj
    rw [← hj]
    simp⟩
theorem at_old {α : Type} {P : Program} {K : Kind P α} {w : World} {v : Value} {L : List α} (h : K.At w v L) (h0 : L ≠ []) (k : Nat) (hk : v.ownBlock = some k) : k < w.heap.size := by
  rcases h with ⟨a, cap, rfl, rfl⟩ | ⟨g, o, cap, rfl, h0, _, hr⟩
  · exact absurd rfl h0
  · simp [Value.ownBlock] at hk
    subst hk
    have hpos : 0 < (K.flat L).length := by rw [K.flat_len]; exact Nat.mul_pos h0 K.pos
    exact World.block_lt_of_cell? _ _ (hr 0 _ (List.getElem?_eq_getElem hpos))
theorem Mine.lt {B n g : Nat} {w : World} {lv : Value} {S : St} (h : Mine B n w g lv S) (k : Nat) (hk : foot g lv k) : k < w.heap.size := by
  rcases hk with h1 | h1
  · rw [h1]; exact h.at_.lt
  · obtain ⟨cs, hc⟩ := own_type h.at_.own k h1
    exact (Array.getElem?_eq_some_iff.1 hc).1
theorem Mine.run {B n g : Nat} {w : World} {lv : Value} {S : St} (h : Mine B n w g lv S) (hB : B ≤ w.heap.size) (v : Value) (L : List OpT) (hn : n + L.length ≤ 1000000) (hA : KO.At w v L) (hv : L ≠ [] → ∀ k, v.ownBlock = some k → ¬ foot g lv k) :
    Calls Try.prog 27 #[.pointer (some ⟨g, 0, none⟩), v] w fun e w' => e = .returned (.tuple #[]) ∧ Below B w w' ∧ ∃ lv', Mine B (n + L.length) w' g lv' (runS S L) :=
  (code_run g lv S v L n w h.at_ h.good hn hA hv).mono fun _ _ ⟨he, lv', hl⟩ => by
    obtain ⟨h1, h2⟩ := h.next hl (h.good.run L) hB
    exact ⟨he, h2, lv', h1⟩
/-- The row of what was, its first i filled. -/
def wasR (N : List ByteArray) (i : Nat) : List Value := (N.take i).map .string ++ List.replicate (64 - i) (.string ⟨#[]⟩)
theorem wasR_len (N : List ByteArray) (i : Nat) (hN : N.length = 64) (hi : i ≤ 64) : (wasR N i).length = 64 := by simp [wasR, hN]; omega
theorem wasR_set (N : List ByteArray) (i : Nat) (hN : N.length = 64) (hi : i < 64) : (wasR N i).set i (.string (N.getD i ⟨#[]⟩)) = wasR N (i + 1) := by
  unfold wasR
  rw [List.set_append_right _ _ (by simp; omega), List.take_add_one, List.getElem?_eq_getElem (by omega)]
  have e1 : ((N.take i).map Value.string).length = i := by simp; omega
  rw [e1, Nat.sub_self, show 64 - i = (64 - (i + 1)) + 1 by omega, List.replicate_succ, List.set_cons_zero, List.map_append, List.append_assoc]
  rw [List.getD_eq_getElem?_getD, List.getElem?_eq_getElem (by omega)]
  rfl
theorem wasR_end (N : List ByteArray) (hN : N.length = 64) : wasR N 64 = N.map .string := by
  unfold wasR
  rw [List.take_of_length_le (by omega), Nat.sub_self, List.replicate_zero, List.append_nil]
theorem was_zero : (Try.prog.info? 52).map (·.zero) = some (some (.agg (wasR (List.replicate 64 ⟨#[]⟩) 0).toArray)) := by kernel_rfl
theorem wasR_zero (N M : List ByteArray) : wasR N 0 = wasR M 0 := rfl
theorem str_size (w : World) : (sizeOf 9).run Try.prog w = .ok 1 w := Try.sizeOf9 w
theorem index_was (N : List ByteArray) (hl : N.length = 64) (f : Nat) (hf : f < 64) (w : World) : (Instr.index 52 (.agg (N.map Value.string).toArray) (.int .i64 f)).run Try.prog w = .ok (.string (N.getD f ⟨#[]⟩)) w :=
  index_row Try.underlying52 (by simp [isAgg, run_underlying Try.underlying9]) (str_size w) hf (by rw [List.getElem?_toArray, List.getElem?_map, List.getD_eq_getElem?_getD, List.getElem?_eq_getElem (by omega)]; rfl) _
theorem allS_crash {n : Nat} {T : St} (h : Whole T) (hg : GoodN n T) {f : Nat} (hf : f < 64) : allS (crashS T (List.replicate T.loose.length 1048576)) f = T.now.getD f ⟨#[]⟩ := by
  unfold allS
  rw [if_neg (by show ¬ errF true f ≠ 0; rw [errF_file hf]; simp), Int.toNat_natCast]
  show (crashQ T (List.replicate T.loose.length 1048576)).getD f ⟨#[]⟩ = _
  rw [h.all hg]
/-- What the law answers. -/
def YesPost (w : World) (e : Ending) (w' : World) : Prop := e = .returned (.bool true) ∧ Below w.heap.size w w'

set_option maxRecDepth 100000 in
set_option maxHeartbeats 6400000 in
theorem sure_any (v0 v1 kv : Value) (L M : List OpT) (keep : List Int) (f : Int) (w : World) (h0 : KO.At w v0 L) (h1 : KO.At w v1 M) (hk : KI.At w kv keep) (hL : L.length ≤ 9223372036854775807) (hM : M.length ≤ 9223372036854775807) :
    Calls Try.prog 6 #[v0, v1, .int .i64 f, kv] w (YesPost w) := by
  have HW := Lib.hid (works_any w)
  obtain ⟨ka, kc, rfl, hkc⟩ := hk.form
  have H0 := Lib.hid h0
  have H1 := Lib.hid h1
  have HK := Lib.hid hk
  have HL := Lib.hid hL
  have HM := Lib.hid hM
  obtain ⟨kn, hkn⟩ : ∃ m, keep.length = m := ⟨_, rfl⟩
  rw [hkn] at HK ⊢
  clear h0 h1 hk hL hM hkn hkc
  go_enter Try.func6, Try.ntmps6
  go_wp2_with fail
  refine HW.out.mono ?_
  rintro e ww ⟨rfl, hbw⟩
  have HBW := Lib.hid hbw
  clear hbw HW
  go_wp2_with fail
  refine (code_heavy v0 L ww (H0.out.kept HBW.out) HL.out).mono ?_
  rintro e w1 ⟨⟨b1, rfl, hl1⟩, hb1⟩
  have HB1 := Lib.hid (HBW.out.trans (hb1.mono HBW.out.size))
  have HL1 := Lib.hid hl1
  clear hb1 hl1 HBW
  cases b1 with
  | true =>
    go_wp2_with fail
    go_ret
    exact ⟨rfl, HB1.out⟩
  | false =>
  go_wp2_with fail
  refine (code_heavy v1 M w1 (H1.out.kept HB1.out) HM.out).mono ?_
  rintro e w2 ⟨⟨b2, rfl, hl2⟩, hb2⟩
  have HB2 := Lib.hid (HB1.out.trans (hb2.mono HB1.out.size))
  have HL2 := Lib.hid hl2
  clear hb2 hl2 HB1
  cases b2 with
  | true =>
    go_wp2_with fail
    go_ret
    exact ⟨rfl, HB2.out⟩
  | false =>
  by_cases hk1 : 1024 < kn
  · have hki : (1024 : Int) < (kn : Int) := by omega
    go_wp2_with fail
    go_ret
    exact ⟨rfl, HB2.out⟩
  have hki : decide ((1024 : Int) < (kn : Int)) = false := by simp; omega
  by_cases hf0 : f < 0
  · go_wp2_with fail
    go_ret
    exact ⟨rfl, HB2.out⟩
  by_cases hf1 : 64 ≤ f
  · go_wp2_with fail
    go_ret
    exact ⟨rfl, HB2.out⟩
  obtain ⟨fn, rfl⟩ : ∃ n : Nat, f = n := ⟨f.toNat, by omega⟩
  have HFN := Lib.hid (show fn < 64 by omega)
  have hf2 : decide ((64 : Int) ≤ (fn : Int)) = false := by simp; omega
  have hf3 : decide ((fn : Int) < 0) = false := by simp
  have hL : L.length ≤ 200 := by have h := HL1.out; simp at h; exact h.1
  have hM : M.length ≤ 200 := by have h := HL2.out; simp at h; exact h.1
  have HLL := Lib.hid hL
  have HMM := Lib.hid hM
  clear hL hM HL1 HL2 hf0 hf1
  go_wp2_with fail
  refine (code_New _).mono ?_
  rintro e w3 ⟨rfl, hd0, hb0⟩
  obtain ⟨g, hg⟩ : ∃ g, w2.heap.size = g := ⟨_, rfl⟩
  obtain ⟨B, hB⟩ : ∃ B, w.heap.size = B := ⟨_, rfl⟩
  have hB0 : w.heap.size ≤ w2.heap.size := HB2.out.size
  have hm3 := mine_new hd0 good_new hB0
  have hs3 := Nat.le_trans hB0 hb0.size
  have hb3 := HB2.out.trans (hb0.mono hB0)
  rw [hg] at hm3
  rw [hg]
  rw [hB] at hm3 hs3 hb3
  have HM3 := Lib.hid hm3
  have HS3 := Lib.hid hs3
  have HB3 := Lib.hid hb3
  have HBB := Lib.hid hB
  have HO0 := Lib.hid (H0.out.kept (by rw [hB]; exact hb3))
  have HV0 := Lib.hid (show L ≠ [] → ∀ k, v0.ownBlock = some k → ¬ foot g (.slice none 0 0) k from fun hne k hk hfo => by
    have h1 := at_old H0.out hne k hk
    have h2 := hm3.fb k hfo
    omega)
  clear hd0 hb0 hB0 hg hB hm3 hs3 hb3 HB2 H0
  go_wp2_with fail
  refine (HM3.out.run HS3.out v0 L (by have := HLL.out; omega) HO0.out HV0.out).mono ?_
  rintro e w4 ⟨rfl, hb4, lv4, hm4⟩
  have hn4 : 0 + L.length ≤ 200 := by have := HLL.out; omega
  have HM4 := Lib.hid (show Mine B 200 w4 g lv4 (runS newS L) from ⟨hm4.at_, hm4.good.mono hn4, hm4.gB, hm4.own⟩)
  have HB4 := Lib.hid (HB3.out.trans hb4)
  have HS4 := Lib.hid (Nat.le_trans HS3.out hb4.size)
  have hwh := whole_new.run good_new L
  have hsy := Sure.of_sync hwh HM4.out.good HFN.out
  obtain ⟨u, hu⟩ : ∃ u, (runS newS L).now.getD fn ⟨#[]⟩ = u := ⟨_, rfl⟩
  obtain ⟨S1, hS1⟩ : ∃ S, runS newS L = S := ⟨_, rfl⟩
  rw [hS1] at HM4 hwh hsy hu
  rw [hu] at hsy
  have hw2 := hwh.sync HM4.out.good fn
  obtain ⟨S2, hS2⟩ : ∃ S, (syncerS S1 fn).2 = S := ⟨_, rfl⟩
  rw [hS2] at hsy hw2
  have HSY := Lib.hid (show syncerS S1 fn = (0, S2) from Prod.ext hsy.1 hS2)
  have HSU := Lib.hid hsy.2
  have HWH := Lib.hid hw2
  clear hb4 hm4 hn4 hwh hsy hu hS1 hw2 hS2 HM3 HB3 HS3 HO0 HV0 HLL
  go_wp2_with fail
  refine (HM4.out.syncTo (by decide) HS4.out HSY.out).mono ?_
  rintro e w5 ⟨rfl, hb5, lv5, hm5⟩
  have HM5 := Lib.hid hm5
  have HB5 := Lib.hid (HB4.out.trans hb5)
  have HS5 := Lib.hid (Nat.le_trans HS4.out hb5.size)
  clear hb5 hm5 HM4 HB4 HS4 HSY
  go_wp2_with fail
  refine (HM5.out.allTo (HSU.out.all HWH.out HFN.out)).mono ?_
  rintro e w' ⟨rfl, rfl⟩
  obtain ⟨va, vc, hv1, hvc⟩ := H1.out.form
  obtain ⟨m, hm⟩ : ∃ m, M.length = m := ⟨_, rfl⟩
  rw [hm] at hv1
  subst hv1
  have HMN := Lib.hid hm
  have HT0 := Lib.hid (show thenS fn S2 (M.take 0) = S2 from rfl)
  have hm2 : (m : Int) ≤ 200 := by have := HMM.out; rw [hm] at this; omega
  clear hm hvc
  go_wp2_with fail
  go_loopw [53] (fun iv wr => ∃ (i : Nat) (lz : Value), i ≤ m ∧ iv = .int .i64 i ∧ Mine B (201 + i) wr g lz (thenS fn S2 (M.take i)) ∧ Below B w wr ∧ B ≤ wr.heap.size) (fun iv _ => m - (intOf iv).toNat)
  case atStart => exact ⟨0, lv5, Nat.zero_le _, rfl, HM5.out, HB5.out, HS5.out⟩
  case round =>
    obtain ⟨i, lz, hi, rfl, hmz, hbz, hsz⟩ := hrel
    by_cases hlt : i < m
    · have hlt2 : (i : Int) < (m : Int) := by omega
      have hbw : Below w.heap.size w wr := by rw [HBB.out]; exact hbz
      obtain ⟨gg, o, cap', hav, _, hr⟩ := (H1.out.kept hbw).some (by rw [HMN.out]; omega)
      injection hav with hav1 hav2 hav3
      subst hav1
      clear hav2 hav3
      have hx := List.getElem?_eq_getElem (show i < M.length by rw [HMN.out]; exact hlt)
      obtain ⟨x, hxx⟩ : ∃ x, M[i]'(by rw [HMN.out]; exact hlt) = x := ⟨_, rfl⟩
      rw [hxx] at hx
      have HX := Lib.hid (at_op hr hx)
      have HST := Lib.hid (thenS_take (f := fn) (S := S2) hx)
      obtain ⟨T, hT⟩ : ∃ T, thenS fn S2 (M.take i) = T := ⟨_, rfl⟩
      rw [hT] at hmz HST
      have hbx : Below wr.heap.size wr (wr.alloc (.cells #[.int .i64 x.kind, .int .i64 x.file, .int .i64 x.at_, .int .i64 x.n, .string x.s, .slice x.kA x.kN x.kC] 41)) := (Below.refl _ _).alloc (Nat.le_refl _) _
      have hq := heap_alloc_new wr (.cells #[.int .i64 x.kind, .int .i64 x.file, .int .i64 x.at_, .int .i64 x.n, .string x.s, .slice x.kA x.kN x.kC] 41)
      have hml := hmz.below hbx
      have hbl := hbz.trans (hbx.mono hsz)
      have hsl := Nat.le_trans hsz hbx.size
      clear hxx hr hx hT hbw hmz hbz hsz hbx
      go_upto_region 13 with (refine wpList_load_mid rfl 41 (.tmp 55) rfl gg (o + i * 6) rfl [.int .i64 x.kind, .int .i64 x.file, .int .i64 x.at_, .int .i64 x.n, .string x.s, .slice x.kA x.kN x.kC] _ HX.out Try.underlying41 rfl op_info ?_)
      generalize wr.alloc (.cells #[.int .i64 x.kind, .int .i64 x.file, .int .i64 x.at_, .int .i64 x.n, .string x.s, .slice x.kA x.kN x.kC] 41) = w6 at hq hml hbl hsl ⊢
      obtain ⟨q, hqe⟩ : ∃ q, wr.heap.size = q := ⟨_, rfl⟩
      rw [hqe] at hq
      rw [hqe]
      have c1 : w6.cell? ⟨q, 1, none⟩ = some (.int .i64 x.file) := Lib.cell_of_heap hq 1
      have HQ := Lib.hid hq
      have HML := Lib.hid hml
      have HBL := Lib.hid hbl
      have HSL := Lib.hid hsl
      clear hq hml hbl hsl hqe HX
      by_cases hxf : x.file = fn
      · rw [hxf] at c1
        have HTT := Lib.hid (HST.out.trans (if_pos hxf))
        clear hxf
        go_wp2_with fail
        go_roundw
        case rel => exact ⟨i + 1, lz, by omega, by go_num, by rw [HTT.out]; exact ⟨HML.out.at_, HML.out.good.mono (by omega), HML.out.gB, HML.out.own⟩, HBL.out, HSL.out⟩
        case measure => simp [intOf]; omega
      · have HTT := Lib.hid (HST.out.trans (if_neg hxf))
        have hxb : (x.file != (fn : Int)) = true := by simpa using hxf
        have hby : Below w6.heap.size w6 (w6.alloc (.cells #[.int .i64 x.kind, .int .i64 x.file, .int .i64 x.at_, .int .i64 x.n, .string x.s, .slice x.kA x.kN x.kC] 41)) := (Below.refl _ _).alloc (Nat.le_refl _) _
        have HM7 := Lib.hid (HML.out.below hby)
        have HS7 := Lib.hid (Nat.le_trans HSL.out hby.size)
        have HB7 := Lib.hid (HBL.out.trans (hby.mono HSL.out))
        have HO7 := Lib.hid (op_one w6 x)
        have HV7 := Lib.hid (show [x] ≠ [] → ∀ k, (Value.slice (some ⟨w6.heap.size, 0, none⟩) 1 1).ownBlock = some k → ¬ foot g lz k from fun _ k hk hfo => by
          have h1 := HML.out.lt k hfo
          have h2 : some w6.heap.size = some k := hk
          injection h2 with h2
          omega)
        have HIM := Lib.hid (show 201 + i + 1 ≤ 1000000 by have h1 := HMM.out; have h2 := HMN.out; omega)
        clear hxf hby
        go_wp2_with (refine wpList_load_row rfl 41 (.tmp 12) rfl q rfl 41 #[.int .i64 x.kind, .int .i64 x.file, .int .i64 x.at_, .int .i64 x.n, .string x.s, .slice x.kA x.kN x.kC] (0, 0) _ HQ.out Try.underlying41 rfl op_info ?_)
        refine (HM7.out.run HS7.out _ [x] HIM.out HO7.out HV7.out).mono ?_
        rintro e w8 ⟨rfl, hb8, l8, hm8⟩
        have HM8 := Lib.hid (show Mine B (201 + (i + 1)) w8 g l8 (opD T x) from ⟨hm8.at_, hm8.good.mono (by simp; omega), hm8.gB, hm8.own⟩)
        have HB8 := Lib.hid (HB7.out.trans hb8)
        have HS8 := Lib.hid (Nat.le_trans HS7.out hb8.size)
        clear hb8 hm8
        go_wp2_with fail
        go_roundw
        case rel => exact ⟨i + 1, l8, by omega, by go_num, by rw [HTT.out]; exact HM8.out, HB8.out, HS8.out⟩
        case measure => simp [intOf]; omega
    · obtain rfl : i = m := by omega
      have HEQ := Lib.hid (show M.take i = M by rw [List.take_of_length_le (by rw [HMN.out]; exact Nat.le_refl _)])
      rw [HEQ.out] at hmz
      have hsu := HSU.out.then M
      have hwh := HWH.out.then HM5.out.good fn M
      obtain ⟨T, hT⟩ : ∃ T, thenS fn S2 M = T := ⟨_, rfl⟩
      rw [hT] at hmz hsu hwh
      have HMZ := Lib.hid (show Mine B 401 wr g lz T from ⟨hmz.at_, hmz.good.mono (by omega), hmz.gB, hmz.own⟩)
      have HBZ := Lib.hid hbz
      have HSZ := Lib.hid hsz
      have HSUT := Lib.hid hsu
      have HWHT := Lib.hid hwh
      clear hmz hbz hsz hsu hwh hT HEQ HSU HWH HM5 HB5 HS5 HT0 hi hlt
      go_wp2_with fail
      refine (code_Copy g lz T wr HMZ.out.at_ (by have := HMZ.out.good.loose; omega)).mono ?_
      rintro e w6 ⟨rfl, hb6, lu, hd6, hlu⟩
      obtain ⟨C, hC⟩ : ∃ C, wr.heap.size = C := ⟨_, rfl⟩
      have hCB : B ≤ C := by rw [← hC]; exact HSZ.out
      have HMD := Lib.hid (HMZ.out.below hb6)
      have HLT := Lib.hid (show ∀ k, foot g lz k → k < C from fun k hk => by rw [← hC]; exact HMZ.out.lt k hk)
      rw [hC] at hd6 hlu
      rw [hC]
      have HMO := Lib.hid (show Mine B 401 w6 C lu T from ⟨hd6, HMZ.out.good, hCB, fun k hk => by have := hlu k hk; omega⟩)
      have HOF := Lib.hid (show ∀ k, foot C lu k → C ≤ k from fun k hk => by
        rcases hk with h | h
        · omega
        · have := hlu k h; omega)
      have HB6 := Lib.hid (HBZ.out.trans (hb6.mono HSZ.out))
      have HC6 := Lib.hid (show C < w6.heap.size from HMO.out.at_.lt)
      have HCB := Lib.hid hCB
      clear hb6 hd6 hlu hC hCB HMZ HBZ HSZ
      have hz := zero_run was_zero
      rw [wasR_zero _ T.now] at hz
      have hby : Below w6.heap.size w6 (w6.alloc (.cells (wasR T.now 0).toArray 52)) := (Below.refl _ _).alloc (Nat.le_refl _) _
      have HP7 := Lib.hid (heap_alloc_new w6 (.cells (wasR T.now 0).toArray 52))
      have HMD7 := Lib.hid (HMD.out.below hby)
      have HMO7 := Lib.hid (HMO.out.below hby)
      have HPN := Lib.hid (show (∀ k, foot g lz k → k ≠ w6.heap.size) ∧ ∀ k, foot C lu k → k ≠ w6.heap.size from ⟨fun k hk e => by have := HMD.out.lt k hk; omega, fun k hk e => by have := HMO.out.lt k hk; omega⟩)
      have HB7 := Lib.hid (HB6.out.trans (hby.mono (by have h1 := HC6.out; have h2 := HCB.out; omega)))
      have HR7 := Lib.hid (show w6.heap.size < (w6.alloc (.cells (wasR T.now 0).toArray 52)).heap.size by simp)
      generalize hW0 : wasR T.now 0 = W0 at hz hby HP7 HMD7 HMO7 HB7 HR7
      have HW0 := Lib.hid hW0
      clear hby hW0
      go_upto_region 18 with fail
      clear hz
      generalize w6.alloc (.cells W0.toArray 52) = w7 at HP7 HMD7 HMO7 HB7 HR7 ⊢
      have HPC := Lib.hid (show C < w6.heap.size from HC6.out)
      generalize w6.heap.size = p at HP7 HPN HR7 HPC ⊢
      have HNL := Lib.hid (show T.now.length = 64 from HMD.out.at_.now)
      clear HMD HMO HB6 HC6
      go_wp2_with fail
      go_loopw [68] (fun iv wz => ∃ i : Nat, i ≤ 64 ∧ iv = .int .i64 i ∧ wz.heap[p]? = some (.cells (wasR T.now i).toArray 52 (0, 0)) ∧ Frm (fun k => k = p) w7 wz) (fun iv _ => 64 - (intOf iv).toNat)
      case atStart => exact ⟨0, Nat.zero_le _, rfl, by rw [HW0.out]; exact HP7.out, Frm.refl _ _⟩
      case round =>
        obtain ⟨j, hj, rfl, hpz, hfz⟩ := hrel
        by_cases hlt : j < 64
        · have hlt2 : (j : Int) < 64 := by omega
          have hd := HMD7.out.kept hfz HPN.out.1
          have hal := hd.allTo (HWHT.out.allS (f := j) hlt)
          have HAL := Lib.hid hal
          have hcp := cell_row hpz (i := j) (v := .string ⟨#[]⟩) (by
            unfold wasR
            have hl := HNL.out
            rw [List.getElem?_append_right (by simp; omega), List.getElem?_replicate, if_pos (by simp; omega)])
          have hfp : wr.frozen? ⟨p, j, none⟩ = false := by simp [World.frozen?, hpz]
          have hset := setCell_eq_setRow wr p j _ _ _ (.string (T.now.getD j ⟨#[]⟩)) hpz
          rw [List.setIfInBounds_toArray, wasR_set _ _ HNL.out hlt] at hset
          have HN9 := Lib.hid (show (wr.setCell ⟨p, j, none⟩ (.string (T.now.getD j ⟨#[]⟩))).heap[p]? = some (.cells (wasR T.now (j + 1)).toArray 52 (0, 0)) by rw [hset]; exact setRow_heap _ _ _ _ _ _ hpz)
          have HF9 := Lib.hid (Frm.setCell (F := fun k => k = p) (p := ⟨p, j, none⟩) hfz (Or.inl rfl) (.string (T.now.getD j ⟨#[]⟩)))
          generalize T.now.getD j ⟨#[]⟩ = sj at HAL HN9 HF9
          clear hd hal hset hpz hfz
          go_wp2_with fail
          refine HAL.out.mono ?_
          rintro e w' ⟨rfl, rfl⟩
          go_wp2_with fail
          go_roundw
          case rel => exact ⟨j + 1, by omega, by go_num, HN9.out, HF9.out⟩
          case measure => simp [intOf]; omega
        · obtain rfl : j = 64 := by omega
          rw [wasR_end _ HNL.out] at hpz
          have HPZ := Lib.hid hpz
          have HMD8 := Lib.hid (HMD7.out.kept hfz HPN.out.1)
          have HMO8 := Lib.hid (HMO7.out.kept hfz HPN.out.2)
          have hBp : B ≤ p := by have h1 := HPC.out; have h2 := HCB.out; omega
          have hB8 := HB7.out.trans (hfz.below (B := B) (by have h1 := HR7.out; omega) (fun k hk => by rw [hk]; exact hBp))
          have HB8 := Lib.hid hB8
          have HS8 := Lib.hid (show B ≤ wr.heap.size by have h1 := HR7.out; have h2 := hfz.size; omega)
          have HK8 := Lib.hid (HK.out.kept (show Below w.heap.size w wr by rw [HBB.out]; exact hB8))
          have HSC := Lib.hid (HSUT.out.crash HMD8.out.good HFN.out keep)
          clear hpz hfz hj hlt hBp hB8 HMD7 HMO7 HB7 HP7
          go_wp2_with fail
          refine (code_Crash g lz T (.slice ka kn kc) keep wr HMD8.out.at_ (HMD8.out.good.good (by decide)) HK8.out).mono ?_
          rintro e w9 ⟨rfl, hl9⟩
          have hnx := HMD8.out.next hl9 (HMD8.out.good.crash keep) HS8.out
          have HMD9 := Lib.hid hnx.1
          have HMO9 := Lib.hid (HMO8.out.kept hl9.frm (fun k hk hfo => by have h1 := HOF.out k hk; have h2 := HLT.out k hfo; omega))
          have HP9 := Lib.hid ((hl9.frm.block p (Array.getElem?_eq_some_iff.1 HPZ.out).1 (fun hfo => by have h1 := HPC.out; have h2 := HLT.out p hfo; omega)).trans HPZ.out)
          have HB9 := Lib.hid (HB8.out.trans hnx.2)
          have HS9 := Lib.hid (Nat.le_trans HS8.out hnx.2.size)
          clear hl9 hnx HMD8 HMO8 HPZ HB8 HS8 HK8
          go_wp2_with fail
          refine (HMD9.out.allTo HSC.out).mono ?_
          rintro e w' ⟨rfl, rfl⟩
          go_wp2_with fail
          refine (HMD9.out.looseTo (m := 0) rfl).mono ?_
          rintro e w' ⟨rfl, rfl⟩
          obtain ⟨z, hz⟩ : ∃ z, T.loose.length = z := ⟨_, rfl⟩
          have hz4 : (z : Int) ≤ 401 := by have := HMO9.out.good.loose; omega
          have HZ := Lib.hid hz
          clear hz
          go_wp2_with fail
          refine (HMO9.out.looseTo HZ.out).mono ?_
          rintro e w' ⟨rfl, rfl⟩
          go_wp2_with fail
          go_loopw [16, 95] (fun ev iv wz => ∃ i : Nat, i ≤ z ∧ iv = .int .i64 i ∧ KI.Own w9.heap.size ev (List.replicate i 1048576) wz ∧ Below w9.heap.size w9 wz) (fun _ iv _ => z - (intOf iv).toNat)
          case atStart => exact ⟨0, Nat.zero_le _, rfl, Kind.Own.nil _ _, Below.refl _ _⟩
          case round =>
            obtain ⟨j, hj, rfl, ho, hb⟩ := hrel
            by_cases hlt : j < z
            · have hlt2 : (j : Int) < (z : Int) := by omega
              have hby : Below wr.heap.size wr (wr.alloc (.cells #[.int .i64 1048576] 3)) := (Below.refl _ _).alloc (Nat.le_refl _) _
              have HO := Lib.hid (ho.kept hby)
              have HB := Lib.hid (hb.trans (hby.mono hb.size))
              have HK1 := Lib.hid (ki_mega wr)
              have HSB := Lib.hid (show w9.heap.size ≤ (wr.alloc (.cells #[.int .i64 1048576] 3)).heap.size by have := hb.size; simp; omega)
              have HN1 := Lib.hid (show ((List.replicate j (1048576 : Int)).length + [(1048576 : Int)].length) * (KI.bytes + 1) ≤ 1099511627776 by simp [KI]; omega)
              clear hby ho hb
              go_wp2_with (refine wpList_append_at (K := KI) rfl (.tmp 97) (.tmp 98) 33 rfl Try.underlying33 w9.heap.size rfl HO.out _ [1048576] rfl HK1.out HN1.out HSB.out ?_; intro v3 w4' hown3 hbb3; have HO3 := Lib.hid hown3; have HB3' := Lib.hid (HB.out.trans hbb3); clear hown3 hbb3)
              go_roundw
              case rel => exact ⟨j + 1, by omega, by go_num, by rw [List.replicate_succ']; exact HO3.out, HB3'.out⟩
              case measure => simp [intOf]; omega
            · obtain rfl : j = z := by omega
              have HMO10 := Lib.hid (HMO9.out.below hb)
              have HP10 := Lib.hid ((hb.block p (Array.getElem?_eq_some_iff.1 HP9.out).1).trans HP9.out)
              have HB10 := Lib.hid (HB9.out.trans (hb.mono HS9.out))
              have HS10 := Lib.hid (Nat.le_trans HS9.out hb.size)
              have HKK := Lib.hid ho.reads
              obtain ⟨ea, en, ec, rfl⟩ : ∃ a n c, u16 = .slice a n c := by
                rcases ho.form with ⟨h1, _⟩ | ⟨_, _, h1, _⟩
                · exact ⟨_, _, _, h1⟩
                · exact ⟨_, _, _, h1⟩
              clear ho hb hj hlt HMO9 HP9 HB9 HS9
              go_wp2_with fail
              refine (code_Crash C lu T (.slice ea en ec) (List.replicate j 1048576) wr HMO10.out.at_ (HMO10.out.good.good (by decide)) HKK.out).mono ?_
              rintro e w11 ⟨rfl, hl11⟩
              have hnx := HMO10.out.next hl11 (HMO10.out.good.crash _) HS10.out
              have HMO11 := Lib.hid hnx.1
              have HP11 := Lib.hid ((hl11.frm.block p (Array.getElem?_eq_some_iff.1 HP10.out).1 (fun hfo => HPN.out.2 p hfo rfl)).trans HP10.out)
              have HB11 := Lib.hid (HB10.out.trans hnx.2)
              have HALL := Lib.hid (fun (f : Nat) (hf : f < 64) => allS_crash HWHT.out HMO10.out.good hf)
              rw [HZ.out] at HALL
              have HI := Lib.hid (show (Try.prog.info? 52).map (·.size) = some (T.now.map Value.string).toArray.size by
                rw [List.size_toArray, List.length_map, HNL.out]
                kernel_rfl)
              clear hl11 hnx HMO10 HP10 HB10 HS10 HKK
              go_wp2_with (refine wpList_load_row rfl 52 (.tmp 14) rfl p rfl 52 (T.now.map Value.string).toArray (0, 0) _ HP11.out Try.underlying52 rfl HI.out ?_)
              go_loopw [106] (fun iv wz => ∃ i : Nat, i ≤ 64 ∧ iv = .int .i64 i ∧ w11 = wz) (fun iv _ => 64 - (intOf iv).toNat)
              case atStart => exact ⟨0, Nat.zero_le _, rfl, rfl⟩
              case round =>
                obtain ⟨k, hk, rfl, rfl⟩ := hrel
                by_cases hlt : k < 64
                · have hlt2 : (k : Int) < 64 := by omega
                  have hidx := index_was T.now HNL.out k hlt w11
                  have HAK := Lib.hid (HMO11.out.allTo (HALL.out k hlt))
                  generalize T.now.getD k ⟨#[]⟩ = sk at hidx HAK
                  go_wp2_with fail
                  refine HAK.out.mono ?_
                  rintro e w' ⟨rfl, rfl⟩
                  go_wp2_with fail
                  go_roundw
                  case rel => exact ⟨k + 1, by omega, by go_num, trivial⟩
                  case measure => simp [intOf]; omega
                · obtain rfl : k = 64 := by omega
                  go_wp2_with fail
                  go_ret
                  exact ⟨rfl, by rw [HBB.out]; exact HB11.out⟩
end Go.Proofs.Ytoacnhiophgfcaa.Dk
