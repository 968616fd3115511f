/- disk: the document's Crash. -/
import Derived.Test.YtepcfmigkhacgaaDoorRdCa
import Derived.StillTailTactics
import Derived.Deep.CutRange
namespace Go.Proofs.YtepcfmigkhacgaaDoor.Dk
open Go.RowKit Go.Proofs.YtepcfmigkhacgaaDoor.Gr
def sliceLen : Value → Nat
  | .slice _ n _ => n
  | _ => 0
theorem refC_step (sure : List ByteArray) (keep : List Int) (L : List Ch) (i : Nat) (x : Ch) (h : L[i]? = some x) : refC sure keep L (i + 1) = (refC sure keep L i).set x.file ⟨(doneB x ((refC sure keep L i).getD x.file ⟨#[]⟩).data.toList (keptN keep i)).toArray⟩ := by
  show (match L[i]? with | some c => _ | none => _) = _
  rw [h]
theorem refC_small {N : Nat} {S : St} (hS : GoodN N S) (keep : List Int) (i : Nat) {f : Nat} (hf : f < 64) : ((refC S.sure keep S.loose i).getD f ⟨#[]⟩).size ≤ 1048576 := by
  have h := refC_get S.sure keep S.loose hS.lenS (fun c hc => (hS.chs c hc).1) f hf i
  have h2 := crashN_small S.sure keep S.loose hS.sure hS.chs i
  have e : ∀ s : ByteArray, s.data.toList.length = s.size := fun s => by rw [Array.length_toList]; rfl
  rw [← e, h]
  unfold getX
  cases hx : (crashN S.sure keep S.loose i).getD f none with
  | none => rw [Option.getD_none, e]; exact getD_size hS.sure f
  | some b => exact h2 f b hx
theorem srow_of_own {B : Nat} {w : World} {v : Value} {N : List ByteArray} (h : KS.Own B v N w) (hN : N.length = 64) : ∃ g cap, v = .slice (some ⟨g, 0, none⟩) 64 cap ∧ SRow w g cap N ∧ B ≤ g := by
  have hflat : KS.flat N = N.map Value.string := by
    unfold Kind.flat
    rw [← List.flatMap_singleton' (N.map Value.string), List.flatMap_map]
    rfl
  rcases h.2 with ⟨_, e⟩ | ⟨g, cap, cur, rfl, hb, hg, h1, h2, h3, h4⟩
  · omega
  · refine ⟨g, cap, by rw [hN], ⟨⟨cur.toList.drop 64, ?_⟩, hN, by omega⟩, hb⟩
    rw [hN, hflat] at h4
    rw [← h4, show 64 * KS.size = 64 from rfl, List.take_append_drop]
    exact hg
theorem BAt.pushed {w : World} {g c j n : Nat} {L : List UInt8} (h : BAt w (.slice (some ⟨g, 0, none⟩) (L ++ List.replicate j 0 ++ [0]).length c) (L ++ List.replicate j 0 ++ [0])) (hn : L.length + j + 1 = n) : BAt w (.slice (some ⟨g, 0, none⟩) n c) (L ++ List.replicate (j + 1) 0) := by
  have e : L ++ List.replicate j (0 : UInt8) ++ [0] = L ++ List.replicate (j + 1) 0 := by rw [List.append_assoc, List.replicate_succ']
  rw [e] at h
  rw [show (L ++ List.replicate (j + 1) (0 : UInt8)).length = n by simp; omega] at h
  exact h
section
variable {B r na nc sa sc : Nat} {lv : Value} {goes : Int} {S : St}
set_option maxRecDepth 100000 in
set_option maxHeartbeats 6400000 in
theorem ref_Crash (w : World) (h : RAt B w r na nc sa sc lv goes S) {N : Nat} (hS : GoodN N S) (hN : N ≤ 1000000) (hB : B ≤ w.heap.size) (kv : Value) (keep : List Int) (hK : ∀ w', Kp B (RefT na sa) w w' → KI.At w' kv keep) (hkl : keep.length ≤ 1000000000) (hkw : ∀ z ∈ keep, (Lit.int .i64 z).wf = true) :
    Calls Tryd.prog 30 #[.pointer (some ⟨r, 0, none⟩), kv] w (RPost B w r na sa (.tuple #[]) (crashS S keep)) := by
  obtain ⟨ka, kc, rfl, hkc⟩ := (hK w Kp.refl).form
  obtain ⟨kn, hkn⟩ : ∃ n, keep.length = n := ⟨_, rfl⟩
  rw [hkn] at hkl hK
  have HKN := Lib.hid hkn
  obtain ⟨la, lc, hlv, hlc⟩ := h.loose.reads.form
  subst hlv
  obtain ⟨m, hm⟩ : ∃ m, S.loose.length = m := ⟨_, rfl⟩
  rw [hm] at h hlc
  have hmb : m ≤ 1000000 := by have := hS.loose; omega
  have HM := Lib.hid hm
  have HK := Lib.hid hK
  have HS := Lib.hid hS
  have HB := Lib.hid hB
  have HR := Lib.hid h
  have HW := Lib.hid hkw
  unfold RPost
  rw [hkn]
  clear h hm hK hS hB hN hkn hkc hkw
  go_enter Tryd.func30, Tryd.ntmps30
  go_wp2_with fail
  go_loopw [4] (fun iv wr => ∃ i : Nat, i ≤ m ∧ iv = .int .i64 i ∧ RAt B wr r na nc sa sc (.slice la m lc) goes { S with sure := refC S.sure keep S.loose i } ∧ Kp B (RefT na sa) w wr) (fun iv _ => m - (intOf iv).toNat)
  case atStart => exact ⟨0, Nat.zero_le _, rfl, HR.out, Kp.refl⟩
  case round =>
    obtain ⟨i, hi, rfl, hR, hKp⟩ := hrel
    have hcl := hR.cLoose
    by_cases hlt : i < m
    · have hlt2 : (i : Int) < (m : Int) := by omega
      obtain ⟨g, o, cap', hav, _, hr⟩ := hR.loose.reads.some (by show 0 < S.loose.length; rw [HM.out]; omega)
      have hav' : Value.slice la m lc = .slice (some ⟨g, o, none⟩) m cap' := by rw [hav]; show Value.slice _ S.loose.length _ = _; rw [HM.out]
      injection hav' with hav1 hav2 hav3
      subst hav1
      have hx := List.getElem?_eq_getElem (show i < S.loose.length by rw [HM.out]; exact hlt)
      obtain ⟨x, hxx⟩ : ∃ x, S.loose[i]'(by rw [HM.out]; exact hlt) = x := ⟨_, rfl⟩
      rw [hxx] at hx
      have hgx := HS.out.chs x (List.mem_of_getElem? hx)
      have HX := Lib.hid (at_kr hr hx)
      have HXI := Lib.hid hx
      have hxf := hgx.1
      have hxf2 : (x.file : Int) < 64 := by omega
      have hxf0 : (0 : Int) ≤ x.file := by omega
      have hw2 : Below wr.heap.size wr (wr.alloc (.cells #[.int .i64 x.file, .int .i64 x.at_, .string x.s, .bool x.cut] 104)) := (Below.refl _ _).alloc (Nat.le_refl _) _
      have hq := heap_alloc_new wr (.cells #[.int .i64 x.file, .int .i64 x.at_, .string x.s, .bool x.cut] 104)
      have HQL := Lib.hid (show wr.heap.size < (wr.alloc (.cells #[.int .i64 x.file, .int .i64 x.at_, .string x.s, .bool x.cut] 104)).heap.size by simp)
      have HR2 := Lib.hid (hR.below hw2)
      have HK2 := Lib.hid (hKp.trans (Kp.of_below hw2))
      have hi0 : (0 : Int) ≤ i := by omega
      have HGX := Lib.hid hgx
      have HXF := Lib.hid hxf
      clear hr hx hxx hgx hav hav2 hav3 hR hKp hw2
      go_upto_region 5 with (refine wpList_load_mid rfl 104 (.tmp 23) rfl g (o + i * 4) rfl [.int .i64 x.file, .int .i64 x.at_, .string x.s, .bool x.cut] _ HX.out Tryd.underlying104 rfl (by kernel_rfl) ?_)
      generalize wr.alloc (.cells #[.int .i64 x.file, .int .i64 x.at_, .string x.s, .bool x.cut] 104) = w2 at hq HQL HR2 HK2 ⊢
      obtain ⟨q, hqe⟩ : ∃ q, wr.heap.size = q := ⟨_, rfl⟩
      rw [hqe] at hq HQL
      rw [hqe]
      have HQ := Lib.hid hq
      obtain ⟨nv, hnv⟩ : ∃ nv, keep.getD i 0 = nv := ⟨_, rfl⟩
      have HNV := Lib.hid hnv
      have hke := HK.out w2 HK2.out
      clear hcl hq hqe hnv
      go_upto_if 28 with fail
      go_cut [6] from 9 to 104 (fun s6 wx => s6 = .int .i64 nv ∧ w2 = wx)
      case first =>
        by_cases hik : i < kn
        · have hik2 : (i : Int) < (kn : Int) := by omega
          obtain ⟨g3, o3, cap3, hav3, _, hr3⟩ := hke.some (by rw [HKN.out]; omega)
          rw [HKN.out] at hav3
          injection hav3 with e1 e2 e3
          subst e1
          have hy := List.getElem?_eq_getElem (show i < keep.length by rw [HKN.out]; exact hik)
          have hcx : w2.cell? ⟨g3, o3 + i, none⟩ = some (.int .i64 nv) := by
            have := range_thing (K := KI) hr3 hy (j := 0) (u := .int .i64 (keep[i]'(by rw [HKN.out]; exact hik))) rfl
            rw [← HNV.out, List.getD_eq_getElem?_getD, hy]
            simpa [KI] using this
          clear hr3 hy hke e2 e3 hik
          go_wp2_with fail
          go_meet
          case rel => exact ⟨rfl, rfl⟩
        · have hik2 : ¬ (i : Int) < (kn : Int) := by omega
          have hn0 : nv = 0 := by
            rw [← HNV.out, List.getD_eq_getElem?_getD, List.getElem?_eq_none (by rw [HKN.out]; omega)]
            rfl
          clear hke hik
          go_wp2_with fail
          go_meet
          case rel => exact ⟨by rw [hn0], rfl⟩
      case rest =>
        obtain ⟨rfl, rfl⟩ := hcut
        obtain ⟨s, hs⟩ : ∃ s, (refC S.sure keep S.loose i).getD x.file ⟨#[]⟩ = s := ⟨_, rfl⟩
        have HRC := Lib.hid (refC_step S.sure keep S.loose i x HXI.out)
        rw [hs] at HRC
        have HSD := Lib.hid hs
        have hs1 : s.size ≤ 1048576 := by rw [← hs]; exact refC_small HS.out keep i HXF.out
        have HS1 := Lib.hid hs1
        have HSS := Lib.hid (show s.size ≤ 140737488355328 by omega)
        have HKP := Lib.hid (show keptN keep i = (max nv 0).toNat by unfold keptN; rw [HNV.out])
        clear hs hs1 hke
        go_upto_region 7 with fail
        refine QT.wp_region_facts_tail 9 (by kernel_rfl) (fun w' => Below w2.heap.size w2 w') (fun n v w' => (([.val (.pointer (some ⟨r, 0, none⟩)), .val (.pointer (some ⟨r, 0, none⟩)), .val (.pointer (some ⟨r, 1, none⟩)), .val (.slice (some ⟨sa, 0, none⟩) 64 sc), .val (.pointer (some ⟨q, 0, none⟩)), .val (.int .i64 x.file), .val (.pointer (some ⟨sa, x.file, none⟩)), .val (.string s), .bytes (fun i => w2.heap.size ≤ i) s.data.toList] : List FactD).getD n (.val undef) : FactD).holds v w') (by kernel_rfl) (by kernel_rfl) (Below.refl _ _).drew (fun w1 w2 h1 hb => h1.trans (hb.mono h1.size)) (fun n v w1 w2 h hb => FactD.kept _ v w1 w2 h hb) (fun n o hn ho a wz hI hag hdep => ?_) (fun a wz hI hag hf => ?_)
        · have t0 : a.eval (.tmp 0) = .pointer (some ⟨r, 0, none⟩) := hag.old 0 _ (by kernel_rfl) rfl
          have t5 : a.eval (.tmp 5) = .pointer (some ⟨q, 0, none⟩) := hag.old 5 _ (by kernel_rfl) rfl
          have hrz := HR2.out.below hI
          have c0 : wz.cell? ⟨q, 0, none⟩ = some (.int .i64 x.file) := by rw [Lib.cell_of_heap ((hI.block q HQL.out).trans HQ.out)]; rfl
          have cS := hrz.cSure
          have cs : wz.cell? ⟨sa, x.file, none⟩ = some (.string s) := (hrz.sure.file HXF.out).trans (by rw [HSD.out])
          match n, ho with
          | 0, ho =>
            obtain rfl := (Option.some.inj ho).symm
            exact ⟨rfl, QT.wp_value (BigFrame.run_move (.tmp 0) rfl wz) ⟨_, rfl, t0, Below.refl _ _⟩⟩
          | 1, ho =>
            obtain rfl := (Option.some.inj ho).symm
            have d33 : a.eval (.tmp 33) = .pointer (some ⟨r, 0, none⟩) := hdep _ (Array.mem_of_getElem? (i := 0) rfl) rfl _ _ rfl rfl
            exact ⟨rfl, QT.wp_value (v := .pointer (some ⟨r, 0, none⟩)) (by simp [go_sem, QT.nf d33]) ⟨_, rfl, rfl, Below.refl _ _⟩⟩
          | 2, ho =>
            obtain rfl := (Option.some.inj ho).symm
            have d34 : a.eval (.tmp 34) = .pointer (some ⟨r, 0, none⟩) := hdep _ (Array.mem_of_getElem? (i := 0) rfl) rfl _ _ rfl rfl
            exact ⟨rfl, QT.wp_value (v := .pointer (some ⟨r, 1, none⟩)) (by simp [go_sem, QT.nf d34]) ⟨_, rfl, rfl, Below.refl _ _⟩⟩
          | 3, ho =>
            obtain rfl := (Option.some.inj ho).symm
            have d35 : a.eval (.tmp 35) = .pointer (some ⟨r, 1, none⟩) := hdep _ (Array.mem_of_getElem? (i := 0) rfl) rfl _ _ rfl rfl
            exact ⟨rfl, QT.wp_value (v := .slice (some ⟨sa, 0, none⟩) 64 sc) (by simp [go_sem, QT.nf d35, cS]) ⟨_, rfl, rfl, Below.refl _ _⟩⟩
          | 4, ho =>
            obtain rfl := (Option.some.inj ho).symm
            exact ⟨rfl, QT.wp_value (v := .pointer (some ⟨q, 0, none⟩)) (by simp [go_sem, QT.nf t5]) ⟨_, rfl, rfl, Below.refl _ _⟩⟩
          | 5, ho =>
            obtain rfl := (Option.some.inj ho).symm
            have d37 : a.eval (.tmp 37) = .pointer (some ⟨q, 0, none⟩) := hdep _ (Array.mem_of_getElem? (i := 0) rfl) rfl _ _ rfl rfl
            exact ⟨rfl, QT.wp_value (v := .int .i64 x.file) (by simp [go_sem, QT.nf d37, c0]) ⟨_, rfl, rfl, Below.refl _ _⟩⟩
          | 6, ho =>
            obtain rfl := (Option.some.inj ho).symm
            have d36 : a.eval (.tmp 36) = .slice (some ⟨sa, 0, none⟩) 64 sc := hdep _ (Array.mem_of_getElem? (i := 0) rfl) rfl _ _ rfl rfl
            have d38 : a.eval (.tmp 38) = .int .i64 x.file := hdep _ (Array.mem_of_getElem? (i := 1) rfl) rfl _ _ rfl rfl
            exact ⟨rfl, QT.wp_value (v := .pointer (some ⟨sa, x.file, none⟩)) (by simp [go_sem, QT.nf d36, QT.nf d38, hxf2, hxf0]) ⟨_, rfl, rfl, Below.refl _ _⟩⟩
          | 7, ho =>
            obtain rfl := (Option.some.inj ho).symm
            have d39 : a.eval (.tmp 39) = .pointer (some ⟨sa, x.file, none⟩) := hdep _ (Array.mem_of_getElem? (i := 0) rfl) rfl _ _ rfl rfl
            exact ⟨rfl, QT.wp_value (v := .string s) (by simp [go_sem, QT.nf d39, cs]) ⟨_, rfl, rfl, Below.refl _ _⟩⟩
          | 8, ho =>
            obtain rfl := (Option.some.inj ho).symm
            have d40 : a.eval (.tmp 40) = .string s := hdep _ (Array.mem_of_getElem? (i := 0) rfl) rfl _ _ rfl rfl
            obtain ⟨v9, W9, hr9, hB9, hb9, ho9⟩ := conv_text wz s HSS.out
            exact ⟨rfl, by unfold Oper.wp execOp; simp only [d40, Sem.run_bind, hr9, Result.andThen_ok, Sem.run_pure]; exact ⟨v9, rfl, ⟨hB9, fun i hi => Nat.le_trans hI.size (ho9 i hi)⟩, hb9⟩⟩
          | n + 9, ho => omega
        · have f0 : a.eval (.tmp 33) = .pointer (some ⟨r, 0, none⟩) := hf 0 _ _ (by omega) rfl rfl
          have f1 : a.eval (.tmp 34) = .pointer (some ⟨r, 0, none⟩) := hf 1 _ _ (by omega) rfl rfl
          have f2 : a.eval (.tmp 35) = .pointer (some ⟨r, 1, none⟩) := hf 2 _ _ (by omega) rfl rfl
          have f3 : a.eval (.tmp 36) = .slice (some ⟨sa, 0, none⟩) 64 sc := hf 3 _ _ (by omega) rfl rfl
          have f4 : a.eval (.tmp 37) = .pointer (some ⟨q, 0, none⟩) := hf 4 _ _ (by omega) rfl rfl
          have f5 : a.eval (.tmp 38) = .int .i64 x.file := hf 5 _ _ (by omega) rfl rfl
          have f6 : a.eval (.tmp 39) = .pointer (some ⟨sa, x.file, none⟩) := hf 6 _ _ (by omega) rfl rfl
          have f7 : a.eval (.tmp 40) = .string s := hf 7 _ _ (by omega) rfl rfl
          obtain ⟨u8, f8⟩ : ∃ u, a.eval (.tmp 41) = u := ⟨_, rfl⟩
          have y8 : ((.bytes (fun i => w2.heap.size ≤ i) s.data.toList) : FactD).holds (a.eval (.tmp 41)) wz := hf 8 _ _ (by omega) rfl rfl
          rw [f8] at y8
          have ha := hag.puts [(33, .pointer (some ⟨r, 0, none⟩)), (34, .pointer (some ⟨r, 0, none⟩)), (35, .pointer (some ⟨r, 1, none⟩)), (36, .slice (some ⟨sa, 0, none⟩) 64 sc), (37, .pointer (some ⟨q, 0, none⟩)), (38, .int .i64 x.file), (39, .pointer (some ⟨sa, x.file, none⟩)), (40, .string s), (41, u8)] rfl (by simp) (by simp only [List.forall_mem_cons, List.not_mem_nil, false_implies, implies_true, and_true]; exact ⟨f0, f1, f2, f3, f4, f5, f6, f7, f8⟩)
          subst ha
          clear hag hf f0 f1 f2 f3 f4 f5 f6 f7 f8
          simp only [List.foldl_cons, List.foldl_nil, Act.put, List.drop_succ_cons, List.drop_zero, List.setIfInBounds_toArray, List.set_cons_succ, List.set_cons_zero]
          obtain ⟨hB8, hO8⟩ := y8
          obtain ⟨gb, bc, hv8, hcap, hgl⟩ := hB8.form
          subst hv8
          have HGB := Lib.hid (show w2.heap.size ≤ gb from hO8 gb rfl)
          have hqz := (hI.block q HQL.out).trans HQ.out
          have c1 := Lib.cell_of_heap hqz 1
          have c2 := Lib.cell_of_heap hqz 2
          have c3 := Lib.cell_of_heap hqz 3
          simp only [List.getElem?_toArray, List.getElem?_cons_succ, List.getElem?_cons_zero] at c1 c2 c3
          have HB8 := Lib.hid hB8
          have HI8 := Lib.hid hI
          have hbl : s.data.toList.length = s.size := by rw [Array.length_toList]; rfl
          rw [hbl] at hcap HB8
          rw [hbl]
          have HBL0 := Lib.hid hbl
          clear hB8 hO8 hI hbl hqz
          have hat0 : (0 : Int) ≤ x.at_ := by omega
          by_cases hct : x.cut = true
          · rw [hct] at c3
            by_cases hn0 : 0 < nv
            · by_cases hl3 : x.at_ < s.size
              · have hl3i : (x.at_ : Int) < (s.size : Int) := by omega
                have hl3c : (x.at_ : Int) ≤ (bc : Int) := by omega
                obtain ⟨a9, n9, d9, e9, hn9, _, hT9⟩ := HB8.out.take x.at_ (by rw [HBL0.out]; omega)
                cases e9
                have HBX := Lib.hid hT9
                have HDX := Lib.hid (show s.data.toList.take x.at_ = doneB x s.data.toList (keptN keep i) by
                  rw [HKP.out]; unfold doneB; rw [if_neg (by omega), if_pos hct])
                clear hT9 hct hn9 hl3
                go_upto_region 10 with fail
                have HBLX := HI8
                go_wp2_with fail
                go_loopw [7, 8] (fun bv iv wr => bv = .slice (some ⟨gb, 0, none⟩) (x.at_) bc ∧ iv = .int .i64 0 ∧ wz = wr) (fun _ _ _ => 0)
                case atStart => exact ⟨rfl, rfl, rfl⟩
                case round =>
                  obtain ⟨rfl, rfl, rfl⟩ := hrel
                  go_upto_region 16 with fail
                  refine wp_region_still_tail 8 (by kernel_rfl) (by kernel_rfl) ?_
                  simp only [List.take_succ_cons, List.take_zero, List.drop_succ_cons, List.drop_zero]
                  have hdr := (Below.refl _ _ : Below wz.heap.size wz wz).drew
                  have hr5 := (HR2.out.below HBLX.out).below hdr
                  have hbx5 := HBX.out.frm (F := fun _ => False) (Frm.of_below hdr) (fun _ _ => id)
                  have hqx5 := (hdr.block q (Nat.lt_of_lt_of_le HQL.out HBLX.out.size)).trans ((HBLX.out.block q HQL.out).trans HQ.out)
                  have HK5 := Lib.hid ((HK2.out.trans (Kp.of_below HBLX.out)).trans (Kp.of_below hdr))
                  clear hdr
                  show wpStill _ _ wz.drew (fun a' => wpList _ _ _ _ a' wz.drew) _ _
                  generalize wz.drew = w5 at hr5 hbx5 hqx5 HK5 ⊢
                  have c05 : w5.cell? ⟨q, 0, none⟩ = some (.int .i64 x.file) := by rw [Lib.cell_of_heap hqx5]; rfl
                  have hcS := hr5.cSure
                  have hc35 := hr5.sure.file HXF.out
                  have hfz := hr5.sure.fz
                  have htx := hbx5.text
                  have HR6 := Lib.hid (hr5.putSure HXF.out ⟨(s.data.toList.take x.at_).toArray⟩)
                  have HK6 := Lib.hid (hr5.sure.kSet (Or.inr rfl) hr5.bS HK5.out x.file (.string ⟨(s.data.toList.take x.at_).toArray⟩))
                  clear hr5 hbx5 hqx5
                  repeat still_step
                  refine wpStill_nil ?_
                  go_wp2_with fail
                  go_roundw
                  case rel => exact ⟨i + 1, by omega, by go_num, by rw [HRC.out, ← HDX.out]; exact HR6.out, HK6.out⟩
                  case measure => simp [intOf]; omega
              · have hl3i : ¬ (x.at_ : Int) < (s.size : Int) := by omega
                have HBX := Lib.hid HB8.out
                have HDX := Lib.hid (show s.data.toList = doneB x s.data.toList (keptN keep i) by
                  rw [HKP.out]; unfold doneB; rw [if_neg (by omega), if_pos hct, List.take_of_length_le (by rw [HBL0.out]; omega)])
                clear hct hl3
                go_upto_region 10 with fail
                have HBLX := HI8
                go_wp2_with fail
                go_loopw [7, 8] (fun bv iv wr => bv = .slice (some ⟨gb, 0, none⟩) (s.size) bc ∧ iv = .int .i64 0 ∧ wz = wr) (fun _ _ _ => 0)
                case atStart => exact ⟨rfl, rfl, rfl⟩
                case round =>
                  obtain ⟨rfl, rfl, rfl⟩ := hrel
                  go_upto_region 16 with fail
                  refine wp_region_still_tail 8 (by kernel_rfl) (by kernel_rfl) ?_
                  simp only [List.take_succ_cons, List.take_zero, List.drop_succ_cons, List.drop_zero]
                  have hdr := (Below.refl _ _ : Below wz.heap.size wz wz).drew
                  have hr5 := (HR2.out.below HBLX.out).below hdr
                  have hbx5 := HBX.out.frm (F := fun _ => False) (Frm.of_below hdr) (fun _ _ => id)
                  have hqx5 := (hdr.block q (Nat.lt_of_lt_of_le HQL.out HBLX.out.size)).trans ((HBLX.out.block q HQL.out).trans HQ.out)
                  have HK5 := Lib.hid ((HK2.out.trans (Kp.of_below HBLX.out)).trans (Kp.of_below hdr))
                  clear hdr
                  show wpStill _ _ wz.drew (fun a' => wpList _ _ _ _ a' wz.drew) _ _
                  generalize wz.drew = w5 at hr5 hbx5 hqx5 HK5 ⊢
                  have c05 : w5.cell? ⟨q, 0, none⟩ = some (.int .i64 x.file) := by rw [Lib.cell_of_heap hqx5]; rfl
                  have hcS := hr5.cSure
                  have hc35 := hr5.sure.file HXF.out
                  have hfz := hr5.sure.fz
                  have htx := hbx5.text
                  have HR6 := Lib.hid (hr5.putSure HXF.out ⟨(s.data.toList).toArray⟩)
                  have HK6 := Lib.hid (hr5.sure.kSet (Or.inr rfl) hr5.bS HK5.out x.file (.string ⟨(s.data.toList).toArray⟩))
                  clear hr5 hbx5 hqx5
                  repeat still_step
                  refine wpStill_nil ?_
                  go_wp2_with fail
                  go_roundw
                  case rel => exact ⟨i + 1, by omega, by go_num, by rw [HRC.out, ← HDX.out]; exact HR6.out, HK6.out⟩
                  case measure => simp [intOf]; omega
            · have HBX := Lib.hid HB8.out
              have HDX := Lib.hid (show s.data.toList = doneB x s.data.toList (keptN keep i) by
                rw [HKP.out]; unfold doneB; rw [if_pos (by omega)])
              clear hct
              go_upto_region 10 with fail
              have HBLX := HI8
              go_wp2_with fail
              go_loopw [7, 8] (fun bv iv wr => bv = .slice (some ⟨gb, 0, none⟩) (s.size) bc ∧ iv = .int .i64 0 ∧ wz = wr) (fun _ _ _ => 0)
              case atStart => exact ⟨rfl, rfl, rfl⟩
              case round =>
                obtain ⟨rfl, rfl, rfl⟩ := hrel
                go_upto_region 16 with fail
                refine wp_region_still_tail 8 (by kernel_rfl) (by kernel_rfl) ?_
                simp only [List.take_succ_cons, List.take_zero, List.drop_succ_cons, List.drop_zero]
                have hdr := (Below.refl _ _ : Below wz.heap.size wz wz).drew
                have hr5 := (HR2.out.below HBLX.out).below hdr
                have hbx5 := HBX.out.frm (F := fun _ => False) (Frm.of_below hdr) (fun _ _ => id)
                have hqx5 := (hdr.block q (Nat.lt_of_lt_of_le HQL.out HBLX.out.size)).trans ((HBLX.out.block q HQL.out).trans HQ.out)
                have HK5 := Lib.hid ((HK2.out.trans (Kp.of_below HBLX.out)).trans (Kp.of_below hdr))
                clear hdr
                show wpStill _ _ wz.drew (fun a' => wpList _ _ _ _ a' wz.drew) _ _
                generalize wz.drew = w5 at hr5 hbx5 hqx5 HK5 ⊢
                have c05 : w5.cell? ⟨q, 0, none⟩ = some (.int .i64 x.file) := by rw [Lib.cell_of_heap hqx5]; rfl
                have hcS := hr5.cSure
                have hc35 := hr5.sure.file HXF.out
                have hfz := hr5.sure.fz
                have htx := hbx5.text
                have HR6 := Lib.hid (hr5.putSure HXF.out ⟨(s.data.toList).toArray⟩)
                have HK6 := Lib.hid (hr5.sure.kSet (Or.inr rfl) hr5.bS HK5.out x.file (.string ⟨(s.data.toList).toArray⟩))
                clear hr5 hbx5 hqx5
                repeat still_step
                refine wpStill_nil ?_
                go_wp2_with fail
                go_roundw
                case rel => exact ⟨i + 1, by omega, by go_num, by rw [HRC.out, ← HDX.out]; exact HR6.out, HK6.out⟩
                case measure => simp [intOf]; omega
          · rw [show x.cut = false by simpa using hct] at c3
            have HCF := Lib.hid (show x.cut = false by simpa using hct)
            have hcut := show x.cut = false by simpa using hct
            obtain ⟨kp, hkp⟩ : ∃ kp, (max nv 0).toNat = kp := ⟨_, rfl⟩
            have HKQ := Lib.hid hkp
            have hlen : x.s.data.toList.length = x.s.size := by rw [Array.length_toList]; rfl
            have HLN := Lib.hid hlen
            have HDN := Lib.hid (show inB x.at_ x.s.data.toList s.data.toList (min kp x.s.size) = doneB x s.data.toList (keptN keep i) by
              have e := inB_done x s.data.toList (keptN keep i)
              unfold farK cutB at e
              rw [hcut] at e
              simp only [Bool.false_eq_true, if_false, false_and] at e
              rw [HKP.out, HKQ.out] at e
              rw [HKP.out, HKQ.out]
              exact e)
            have hgx2 := HGX.out.2
            clear hct hcut hkp hlen c1 c2
            go_upto_region 10 with fail
            clear c3
            go_wp2_with fail
            go_loopw [7, 8] (fun bv iv wr => ∃ (k gk nk ck : Nat), k ≤ min kp x.s.size ∧ bv = .slice (some ⟨gk, 0, none⟩) nk ck ∧ iv = .int .i64 k ∧ BAt wr (.slice (some ⟨gk, 0, none⟩) nk ck) (inB x.at_ x.s.data.toList s.data.toList k) ∧ w2.heap.size ≤ gk ∧ Below w2.heap.size w2 wr) (fun _ iv _ => min kp x.s.size - (intOf iv).toNat)
            case atStart => exact ⟨0, gb, s.size, bc, Nat.zero_le _, rfl, rfl, HB8.out, HGB.out, HI8.out⟩
            case round =>
              obtain ⟨k, gk, nk, ck, hk, rfl, rfl, hBk, hgk, hbk⟩ := hrel
              have hqk := (hbk.block q HQL.out).trans HQ.out
              have c1 : wr.cell? ⟨q, 1, none⟩ = some (.int .i64 x.at_) := by rw [Lib.cell_of_heap hqk]; rfl
              have c2 : wr.cell? ⟨q, 2, none⟩ = some (.string x.s) := by rw [Lib.cell_of_heap hqk]; rfl
              have c3 : wr.cell? ⟨q, 3, none⟩ = some (.bool false) := by rw [Lib.cell_of_heap hqk, ← HCF.out]; rfl
              have hk0 : (0 : Int) ≤ k := by omega
              have hnk : nk = (inB x.at_ x.s.data.toList s.data.toList k).length := by
                obtain ⟨_, _, e, _⟩ := hBk.form
                injection e
              have hLk := inB_len x.at_ x.s.data.toList s.data.toList k (by rw [HLN.out]; omega)
              have hLb : nk ≤ 2097152 := by
                have h1 := HBL0.out
                have h2 := HS1.out
                rw [hnk, hLk]
                split
                · omega
                · exact Nat.max_le.2 ⟨by omega, by omega⟩
              by_cases hkk : k < min kp x.s.size
              · have hk1 : (k : Int) < nv := by have := HKQ.out; omega
                have hk2 : (k : Int) < (x.s.size : Int) := by omega
                have hk2n : k < x.s.size := by omega
                have HBK := Lib.hid hBk
                have HGK := Lib.hid hgk
                have HBW := Lib.hid hbk
                have HNK := Lib.hid hnk
                obtain ⟨y, hyv⟩ : ∃ y, x.s[k]'hk2n = y := ⟨_, rfl⟩
                have hy : x.s.data.toList[k]? = some y := by rw [← hyv, Array.getElem?_toList, Array.getElem?_eq_getElem (show k < x.s.data.size from hk2n)]; rfl
                have HYV := Lib.hid hyv
                have HY := Lib.hid hy
                have HKK := Lib.hid hkk
                clear hBk hgk hbk hqk hnk hLk hy hyv hk hkk
                go_wp2_with fail
                clear c1 c2 c3
                go_loopw [7] (fun bv wj => ∃ (gj nj cj j : Nat), bv = .slice (some ⟨gj, 0, none⟩) nj cj ∧ BAt wj (.slice (some ⟨gj, 0, none⟩) nj cj) (inB x.at_ x.s.data.toList s.data.toList k ++ List.replicate j 0) ∧ nj = nk + j ∧ j ≤ x.at_ + k + 1 - nk ∧ w2.heap.size ≤ gj ∧ Below w2.heap.size w2 wj) (fun bv _ => x.at_ + k + 1 - sliceLen bv)
                case atStart => exact ⟨gk, nk, ck, 0, rfl, by rw [List.replicate_zero, List.append_nil]; exact HBK.out, rfl, Nat.zero_le _, HGK.out, HBW.out⟩
                case round =>
                  obtain ⟨gj, nj, cj, j, rfl, hBj, hnj, hj, hgj, hbj⟩ := hrel
                  have hqj := (hbj.block q HQL.out).trans HQ.out
                  have c1 : wr.cell? ⟨q, 1, none⟩ = some (.int .i64 x.at_) := by rw [Lib.cell_of_heap hqj]; rfl
                  by_cases hle : nj ≤ x.at_ + k
                  · have hle2 : (nj : Int) ≤ (x.at_ : Int) + (k : Int) := by omega
                    have hba : Below wr.heap.size wr (wr.alloc (.cells #[.int .u8 0] 5)) := (Below.refl _ _).alloc (Nat.le_refl _) _
                    have HBA := Lib.hid (hBj.frm (F := fun _ => False) (Frm.of_below hba) (fun _ _ => id))
                    have HBB := Lib.hid (hbj.trans (hba.mono hbj.size))
                    have HZR := Lib.hid (show (wr.alloc (.cells #[.int .u8 0] 5)).rangeAt wr.heap.size 0 (bv [0]) from fun j u hj => by
                      rw [Nat.zero_add, Lib.cell_of_heap (heap_alloc_new wr _)]
                      rw [← hj]
                      simp [bv])
                    have HGJ := Lib.hid hgj
                    have HSZ := Lib.hid (show w2.heap.size ≤ (wr.alloc (.cells #[.int .u8 0] 5)).heap.size from Nat.le_trans hbj.size hba.size)
                    have hll : (inB x.at_ x.s.data.toList s.data.toList k ++ List.replicate j (0 : UInt8)).length = nj := by rw [List.length_append, ← HNK.out, List.length_replicate, hnj]
                    have HLL := Lib.hid (show (inB x.at_ x.s.data.toList s.data.toList k ++ List.replicate j (0 : UInt8)).length + 1 ≤ 1099511627776 by rw [hll]; omega)
                    clear hBj hbj hgj hqj hba hll
                    go_wp2_with (refine wpList_append_push rfl (.tmp 83) (.tmp 84) rfl (.slice (some ⟨gj, 0, none⟩) nj cj) _ rfl HBA.out 0 wr.heap.size rfl HZR.out HLL.out ?_; intro v5 w5 hB5 hf5 ho5; obtain ⟨g5, cp5, hv5, _, _⟩ := hB5.form; subst hv5; have HB5 := Lib.hid hB5; have HF5 := Lib.hid (HBB.out.trans (hf5.below HSZ.out (fun i hi => by simp [Value.ownBlock] at hi; have := HGJ.out; omega))); have HG5 := Lib.hid (show w2.heap.size ≤ g5 by rcases ho5 g5 rfl with h | h; (simp [Value.ownBlock] at h; have := HGJ.out; omega); (have := HSZ.out; omega)); clear hB5 hf5 ho5)
                    go_roundw
                    case rel => exact ⟨g5, _, cp5, j + 1, rfl, BAt.pushed HB5.out (by omega), by rw [← HNK.out], by omega, HG5.out, HF5.out⟩
                    case measure => simp [sliceLen]; have := HNK.out; omega
                  · have hle2 : ¬ (nj : Int) ≤ (x.at_ : Int) + (k : Int) := by omega
                    have hje : j = x.at_ + k + 1 - nk := by omega
                    have HBJ := Lib.hid hBj
                    have HBQ := Lib.hid hbj
                    have HGJ := Lib.hid hgj
                    have HJE := Lib.hid hje
                    clear hBj hbj hgj hqj hje
                    go_upto_region 15 with fail
                    clear c1
                    refine wp_region_still_tail 9 (by kernel_rfl) (by kernel_rfl) ?_
                    simp only [List.take_succ_cons, List.take_zero, List.drop_succ_cons, List.drop_zero]
                    have hdr := (Below.refl _ _ : Below wr.heap.size wr wr).drew
                    have hb6 := HBJ.out.frm (F := fun _ => False) (Frm.of_below hdr) (fun _ _ => id)
                    have hbw6 := HBQ.out.trans (hdr.mono HBQ.out.size)
                    have hq6 := (hbw6.block q HQL.out).trans HQ.out
                    clear hdr
                    show wpStill _ _ wr.drew (fun a' => wpList _ _ _ _ a' wr.drew) _ _
                    generalize wr.drew = w6 at hb6 hbw6 hq6 ⊢
                    have c1 : w6.cell? ⟨q, 1, none⟩ = some (.int .i64 x.at_) := by rw [Lib.cell_of_heap hq6]; rfl
                    have c2 : w6.cell? ⟨q, 2, none⟩ = some (.string x.s) := by rw [Lib.cell_of_heap hq6]; rfl
                    obtain ⟨hth, hput⟩ := hb6.put (x.at_ + k) [y] (by simp; omega)
                    have hc7 := (hth 0 (by simp)).1
                    have hf7 := (hth 0 (by simp)).2
                    rw [Nat.add_zero] at hc7 hf7
                    obtain ⟨u7, hu7⟩ := Option.isSome_iff_exists.1 hc7
                    have HP := Lib.hid hput
                    have HBW6 := Lib.hid hbw6
                    clear hb6 hbw6 hq6 hth hput hc7
                    repeat still_step
                    refine wpStill_nil ?_
                    go_wp2_with fail
                    go_roundw
                    case rel => exact ⟨k + 1, gj, nk + j, cj, by have := HKK.out; omega, rfl, by go_num, by
                      have e1 := List.set_eq_take_append_cons_drop (l := inB x.at_ x.s.data.toList s.data.toList k ++ List.replicate j (0 : UInt8)) (i := x.at_ + k) (a := y)
                      rw [if_pos (by rw [List.length_append, ← HNK.out, List.length_replicate]; omega)] at e1
                      have e2 := inB_step x.at_ x.s.data.toList s.data.toList k y HY.out
                      rw [← HNK.out, ← HJE.out, e1] at e2
                      rw [← e2, ← hnj]
                      have e3 := HP.out
                      rw [List.append_assoc] at e3
                      rw [HYV.out]
                      exact e3, HGJ.out, (Frm.setCell (F := fun _ => False) (p := ⟨gj, x.at_ + k, none⟩) (Frm.of_below HBW6.out) (Or.inr HGJ.out) _).below (Nat.le_refl _) (fun _ h => h.elim)⟩
                    case measure => simp [intOf]; have := HKK.out; omega
              · have hkeq : k = min kp x.s.size := by omega
                have HBX := Lib.hid hBk
                have HBLX := Lib.hid hbk
                have HDX := Lib.hid (show inB x.at_ x.s.data.toList s.data.toList k = doneB x s.data.toList (keptN keep i) by rw [hkeq]; exact HDN.out)
                by_cases hkn : k < kp
                · have hk1 : (k : Int) < nv := by have := HKQ.out; omega
                  have hk2 : ¬ (k : Int) < (x.s.size : Int) := by omega
                  clear hBk hgk hbk hqk hnk hLk hkk hkn hkeq
                  go_upto_region 16 with fail
                  refine wp_region_still_tail 8 (by kernel_rfl) (by kernel_rfl) ?_
                  simp only [List.take_succ_cons, List.take_zero, List.drop_succ_cons, List.drop_zero]
                  have hdr := (Below.refl _ _ : Below wr.heap.size wr wr).drew
                  have hr5 := (HR2.out.below HBLX.out).below hdr
                  have hbx5 := HBX.out.frm (F := fun _ => False) (Frm.of_below hdr) (fun _ _ => id)
                  have hqx5 := (hdr.block q (Nat.lt_of_lt_of_le HQL.out HBLX.out.size)).trans ((HBLX.out.block q HQL.out).trans HQ.out)
                  have HK5 := Lib.hid ((HK2.out.trans (Kp.of_below HBLX.out)).trans (Kp.of_below hdr))
                  clear hdr
                  show wpStill _ _ wr.drew (fun a' => wpList _ _ _ _ a' wr.drew) _ _
                  generalize wr.drew = w5 at hr5 hbx5 hqx5 HK5 ⊢
                  have c05 : w5.cell? ⟨q, 0, none⟩ = some (.int .i64 x.file) := by rw [Lib.cell_of_heap hqx5]; rfl
                  have hcS := hr5.cSure
                  have hc35 := hr5.sure.file HXF.out
                  have hfz := hr5.sure.fz
                  have htx := hbx5.text
                  have HR6 := Lib.hid (hr5.putSure HXF.out ⟨(inB x.at_ x.s.data.toList s.data.toList k).toArray⟩)
                  have HK6 := Lib.hid (hr5.sure.kSet (Or.inr rfl) hr5.bS HK5.out x.file (.string ⟨(inB x.at_ x.s.data.toList s.data.toList k).toArray⟩))
                  clear hr5 hbx5 hqx5
                  repeat still_step
                  refine wpStill_nil ?_
                  go_wp2_with fail
                  go_roundw
                  case rel => exact ⟨i + 1, by omega, by go_num, by rw [HRC.out, ← HDX.out]; exact HR6.out, HK6.out⟩
                  case measure => simp [intOf]; omega
                · have hk1 : ¬ (k : Int) < nv := by have := HKQ.out; omega
                  clear hBk hgk hbk hqk hnk hLk hkk hkn hkeq
                  go_upto_region 16 with fail
                  refine wp_region_still_tail 8 (by kernel_rfl) (by kernel_rfl) ?_
                  simp only [List.take_succ_cons, List.take_zero, List.drop_succ_cons, List.drop_zero]
                  have hdr := (Below.refl _ _ : Below wr.heap.size wr wr).drew
                  have hr5 := (HR2.out.below HBLX.out).below hdr
                  have hbx5 := HBX.out.frm (F := fun _ => False) (Frm.of_below hdr) (fun _ _ => id)
                  have hqx5 := (hdr.block q (Nat.lt_of_lt_of_le HQL.out HBLX.out.size)).trans ((HBLX.out.block q HQL.out).trans HQ.out)
                  have HK5 := Lib.hid ((HK2.out.trans (Kp.of_below HBLX.out)).trans (Kp.of_below hdr))
                  clear hdr
                  show wpStill _ _ wr.drew (fun a' => wpList _ _ _ _ a' wr.drew) _ _
                  generalize wr.drew = w5 at hr5 hbx5 hqx5 HK5 ⊢
                  have c05 : w5.cell? ⟨q, 0, none⟩ = some (.int .i64 x.file) := by rw [Lib.cell_of_heap hqx5]; rfl
                  have hcS := hr5.cSure
                  have hc35 := hr5.sure.file HXF.out
                  have hfz := hr5.sure.fz
                  have htx := hbx5.text
                  have HR6 := Lib.hid (hr5.putSure HXF.out ⟨(inB x.at_ x.s.data.toList s.data.toList k).toArray⟩)
                  have HK6 := Lib.hid (hr5.sure.kSet (Or.inr rfl) hr5.bS HK5.out x.file (.string ⟨(inB x.at_ x.s.data.toList s.data.toList k).toArray⟩))
                  clear hr5 hbx5 hqx5
                  repeat still_step
                  refine wpStill_nil ?_
                  go_wp2_with fail
                  go_roundw
                  case rel => exact ⟨i + 1, by omega, by go_num, by rw [HRC.out, ← HDX.out]; exact HR6.out, HK6.out⟩
                  case measure => simp [intOf]; omega
    · obtain rfl : i = m := by omega
      have hall := refC_all S keep HS.out.lenS (fun c hc => (HS.out.chs c hc).1)
      rw [HM.out] at hall
      rw [hall] at hR
      have hwb := hKp.below HB.out
      have HR1 := Lib.hid hR
      have HK1 := Lib.hid hKp
      have HBW := Lib.hid (Nat.le_trans HB.out hKp.size)
      have HWW := Lib.hid hKp.size
      clear hall hR hKp hwb
      obtain ⟨Z, hZ⟩ : ∃ Z, crashQ S keep = Z := ⟨_, rfl⟩
      rw [hZ] at HR1
      have HZ := Lib.hid hZ
      have hba : Below wr.heap.size wr (wr.alloc (.cells #[] 9)) := (Below.refl _ _).alloc (Nat.le_refl _) _
      have hR2 := HR1.out.below hba
      have hcs := hR2.cSure
      have HBA := Lib.hid hba
      have HO0 := Lib.hid (show KS.Own wr.heap.size (.slice (some ⟨wr.heap.size, 0, none⟩) 0 0) [] (wr.alloc (.cells #[] 9)) from ⟨rfl, Or.inr ⟨wr.heap.size, 0, #[], rfl, Nat.le_refl _, heap_alloc_new wr _, Nat.le_refl _, by unfold maxLen; omega, rfl, rfl⟩⟩)
      have HAZ := Lib.hid hR2.sure.at_
      have HZL := Lib.hid (show ([] : List ByteArray).length + Z.length = 64 by have := hR2.sure.len; simpa using this)
      have HBZ := Lib.hid (show (([] : List ByteArray).length + Z.length) * (KS.bytes + 1) ≤ 1099511627776 by rw [HZL.out]; decide)
      have HSA := Lib.hid (show sa < wr.heap.size from HR1.out.sure.lt)
      clear hba hZ hR2
      go_upto_region 18 with (first
        | (refine wpList_append_at (K := KS) rfl (.tmp 106) (.tmp 110) 54 rfl Tryd.underlying54 wr.heap.size rfl HO0.out _ Z rfl HAZ.out HBZ.out HBA.out.size ?_; intro v5 w5 hown5 hb5; obtain ⟨g5, cap5, hv5, hS5, hg5⟩ := srow_of_own hown5 (by simpa using HZL.out); subst hv5; have hR5 := HR1.out.below (HBA.out.trans hb5); have hf5 := hR5.fz; have hcn5 := hR5.cNow; have HR5 := Lib.hid hR5; have HS5 := Lib.hid hS5; have HG5 := Lib.hid hg5; have HB5 := Lib.hid (HBA.out.trans hb5); clear hown5 hb5 hS5 hg5 hR5))
      have hR6 := HR5.out.field (i := 0) (u := .slice (some ⟨g5, 0, none⟩) 64 cap5) (na' := g5) (nc' := cap5) (sa' := sa) (sc' := sc) (lv' := .slice la i lc) (goes' := goes) (S' := { S with now := Z, sure := Z }) (by simp) HS5.out HR5.out.sure HR5.out.loose (by have h1 := HSA.out; have h2 := HG5.out; omega) (by have h1 := HBW.out; have h2 := HG5.out; omega) HR5.out.bS
      have HK6 := Lib.hid (HR5.out.kSet (HK1.out.trans (Kp.of_below HB5.out)) 0 (.slice (some ⟨g5, 0, none⟩) 64 cap5))
      clear hf5 hcn5 hcs
      generalize w5.setCell ⟨r, 0, none⟩ _ = w6 at hR6 HK6 ⊢
      have hf6 := hR6.fz
      have hc6 := hR6.cLoose
      have HR7 := Lib.hid (hR6.field (i := 2) (u := .slice none 0 0) (na' := g5) (nc' := cap5) (sa' := sa) (sc' := sc) (lv' := .slice none 0 0) (goes' := goes) (S' := { S with now := Z, sure := Z, loose := [] }) (by simp) hR6.now hR6.sure (Kind.Own.nil _ _) hR6.ne hR6.bN hR6.bS)
      have HK7 := Lib.hid (hR6.kSet HK6.out 2 (.slice none 0 0))
      clear hR6
      go_upto_region 19 with fail
      generalize w6.setCell ⟨r, 2, none⟩ _ = w7 at HR7 HK7 ⊢
      clear hf6 hc6
      have hf7 := HR7.out.fz
      have hc7 := HR7.out.cOff
      have HR8 := Lib.hid (HR7.out.off _ false)
      have HK8 := Lib.hid (HR7.out.kSet HK7.out 5 (.bool false))
      go_upto_region 20 with fail
      generalize w7.setCell ⟨r, 5, none⟩ _ = w8 at HR8 HK8 ⊢
      clear hf7 hc7
      have hf8 := HR8.out.fz
      have hc8 := HR8.out.cGoes
      have HR9 := Lib.hid ((HR8.out.goesTo _ (-1)).lasts (-1))
      have HK9 := Lib.hid (HR8.out.kSet HK8.out 4 (.int .i64 (-1)))
      go_wp2_with fail
      exact bodyPost_end (results_none Tryd.results30 _ _ _) rfl ⟨rfl, HK9.out, _, _, _, _, _, _, by unfold crashS; rw [HZ.out]; exact HR9.out, fun _ => Or.inl ⟨rfl, by decide, by show (-1 : Int) < (S.ops : Int); omega⟩, Or.inr (Nat.le_trans HWW.out HG5.out), Or.inl rfl⟩
end
end Go.Proofs.YtepcfmigkhacgaaDoor.Dk
