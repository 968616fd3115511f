/- disk: the document's Append. -/
import Derived.Test.YtoacnhiophgfcaaDkV
import Derived.StillTailTactics
import Derived.Deep.RegionHeld3
import Derived.Deep.AppendLies
import Derived.Deep.Cut
namespace Go.Proofs.Ytoacnhiophgfcaa.Dk
open Go.RowKit Go.Proofs.Ytoacnhiophgfcaa.Gr
theorem kr_info : (Try.prog.info? 89).map (fun i => (i.zero, i.size, i.bytes)) = some (some (.agg #[.int .i64 0, .int .i64 0, .string ⟨#[]⟩, .bool false]), 4, 40) := by kernel_rfl
section
variable {B r na nc sa sc : Nat} {lv : Value} {goes : Int} {S : St}
/-- A field is set. -/
theorem ref_field {w : World} {A : Array Value} {i : Nat} {u : Value} (hh : w.heap[r]? = some (.cells A 47 (0, 0)))
    (hc : A.setIfInBounds i u = #[.slice (some ⟨na, 0, none⟩) 64 nc, .slice (some ⟨sa, 0, none⟩) 64 sc, lv, .int .i64 S.ops, .int .i64 goes, .bool (!S.on)])
    (hn : SRow w na nc S.now) (hs : SRow w sa sc S.sure) (hl : KR.Own B lv S.loose w) (hne : na ≠ sa) (hbR : B ≤ r) (hbN : B ≤ na) (hbS : B ≤ sa) : RAt B (w.setCell ⟨r, i, none⟩ u) r na nc sa sc lv goes S := by
  obtain ⟨X, hX⟩ := hn.heap
  obtain ⟨Y, hY⟩ := hs.heap
  refine ⟨?_, hn.other (fun e => ?_) u, hs.other (fun e => ?_) u, own_setc hl (own_ne hl hh (by decide)) u, hne, hbR, hbN, hbS⟩
  · rw [setCell_eq_setRow w r i _ _ _ _ hh, setRow_heap _ _ _ _ _ _ hh, hc]
  · have e2 : na = r := e
    rw [e2, hh] at hX
    simp at hX
  · have e2 : sa = r := e
    rw [e2, hh] at hY
    simp at hY
theorem row_grown {w w2 : World} {L : List Ch} (hl : KR.Own B lv L w) (hg : w.grownBy w2 lv.ownBlock) {k : Nat} {cs : Array Value} {t : TypeId} {fz : Nat × Nat} (hk : w.heap[k]? = some (.cells cs t fz)) (ht : KR.T ≠ t) : w2.heap[k]? = some (.cells cs t fz) := by
  rw [hg.block k (Array.getElem?_eq_some_iff.1 hk).1 (fun e => own_ne hl hk ht e.symm)]
  exact hk
theorem srow_grown {w w2 : World} {L : List Ch} (hl : KR.Own B lv L w) (hg : w.grownBy w2 lv.ownBlock) {g cap : Nat} {N : List ByteArray} (h : SRow w g cap N) : SRow w2 g cap N := by
  obtain ⟨X, hX⟩ := h.heap
  exact ⟨⟨X, row_grown hl hg hX (by decide)⟩, h.len, h.cap⟩
/-- The row of loose changes has grown, and is laid. -/
theorem RAt.grow {w w2 : World} (h : RAt B w r na nc sa sc lv goes S) (hg : w.grownBy w2 lv.ownBlock) {x : Ch} {k cap m : Nat} (hown : KR.Own B (.slice (some ⟨k, 0, none⟩) m cap) (S.loose ++ [x]) w2) :
    RAt B (w2.setCell ⟨r, 2, none⟩ (.slice (some ⟨k, 0, none⟩) m cap)) r na nc sa sc (.slice (some ⟨k, 0, none⟩) m cap) goes { S with loose := S.loose ++ [x] } ∧ Kp B RefTy w (w2.setCell ⟨r, 2, none⟩ (.slice (some ⟨k, 0, none⟩) m cap)) ∧
    w2.cell? ⟨r, 2, none⟩ = some lv ∧ w2.frozen? ⟨r, 2, none⟩ = false := by
  have hh := row_grown h.loose hg h.heap (by decide)
  refine ⟨ref_field hh (by simp) (srow_grown h.loose hg h.now) (srow_grown h.loose hg h.sure) hown h.ne h.bR h.bN h.bS, ?_, by rw [Lib.cell_of_heap hh]; rfl, by simp [World.frozen?, hh]⟩
  refine Kp.setCell (Kp.grown Kp.refl hg fun i hi => ?_) hh (Or.inr ⟨h.bR, Or.inl rfl⟩) _
  obtain ⟨cs, hc⟩ := own_type h.loose i hi
  exact ⟨_, _, _, hc, Or.inr ⟨h.loose.base i hi, Or.inr (Or.inr rfl)⟩⟩

theorem RAt.grow2 {w w2 : World} (h : RAt B w r na nc sa sc lv goes S) {o : Obj} (hg : (w.alloc o).drew.grownBy w2 lv.ownBlock) {x : Ch} {k cap : Nat} (hown : w2.ownsRow B 89 4 (.slice (some ⟨k, 0, none⟩) (S.loose.length + 1) cap) (S.loose.length + 1) (KR.flat S.loose ++ KR.flat [x])) :
    RAt B (w2.setCell ⟨r, 2, none⟩ (.slice (some ⟨k, 0, none⟩) (S.loose.length + 1) cap)) r na nc sa sc (.slice (some ⟨k, 0, none⟩) (S.loose.length + 1) cap) goes { S with loose := S.loose ++ [x] } ∧ Kp B RefTy w (w2.setCell ⟨r, 2, none⟩ (.slice (some ⟨k, 0, none⟩) (S.loose.length + 1) cap)) ∧
    w2.cell? ⟨r, 2, none⟩ = some lv ∧ w2.frozen? ⟨r, 2, none⟩ = false ∧ w2.cell? ⟨r, 0, none⟩ = some (.slice (some ⟨na, 0, none⟩) 64 nc) ∧ SRow w2 na nc S.now := by
  have hb : Below w.heap.size w (w.alloc o).drew := ((Below.refl _ _).alloc (Nat.le_refl _) _).drew
  obtain ⟨h1, h2, h3, h4⟩ := (h.below hb).grow hg (x := x) (k := k) (cap := cap) (m := S.loose.length + 1) (by
    unfold Kind.Own
    rw [KR.flat_append, List.length_append]
    exact hown)
  refine ⟨h1, (Kp.of_below hb).trans h2, h3, h4, ?_, srow_grown (h.below hb).loose hg (h.below hb).now⟩
  rw [Lib.cell_of_heap (row_grown (h.below hb).loose hg (h.below hb).heap (by decide))]
  rfl

/-- One change in a slice of one. -/
theorem ref_one {w : World} {x : Ch} : ∀ (j : Nat) (u : Value), (KR.flat [x])[j]? = some u → (w.alloc (.cells #[.int .i64 x.file, .int .i64 x.at_, .string x.s, .bool x.cut] 89)).cell? ((⟨w.heap.size, 0, none⟩ : Addr).add j) = some u := fun j u hj => by
  rw [Addr.add_mid, Nat.zero_add, Lib.cell_of_heap (heap_alloc_new w _)]
  simp only [Kind.flat, KR, List.flatMap_cons, List.flatMap_nil, List.append_nil] at hj
  rw [← hj]
  simp

/-- What an operation leaves. -/
inductive FactR where
  | val (v : Value)
  | one (x : Ch) (H : Nat)
  | own (B n : Nat) (L : List Ch)
def FactR.holds : FactR → Value → World → Prop
  | .val v0, v, _ => v = v0
  | .one x H, v, w => ∃ g, v = .slice (some ⟨g, 0, none⟩) 1 1 ∧ (H ≤ g ∧ g < w.heap.size) ∧ KR.At w v [x]
  | .own B n L, v, w => KR.Own B v L w ∧ ∃ k cap, v = .slice (some ⟨k, 0, none⟩) n cap
theorem FactR.kept (f : FactR) (v : Value) (w w' : World) (h : f.holds v w) (hb : Below w.heap.size w w') : f.holds v w' := by
  cases f with
  | val v0 => exact h
  | one x H => obtain ⟨g, h1, h2, h3⟩ := h; exact ⟨g, h1, ⟨h2.1, Nat.lt_of_lt_of_le h2.2 hb.size⟩, h3.kept hb⟩
  | own B n L => exact ⟨h.1.kept hb, h.2⟩
/-- All but the row of loose changes is as it was. -/
structure RHalf (B : Nat) (w w' : World) (r na nc sa sc : Nat) (lv : Value) (goes : Int) (S : St) : Prop where
  kp : Kp B RefTy w w'
  heap : w'.heap[r]? = some (.cells #[.slice (some ⟨na, 0, none⟩) 64 nc, .slice (some ⟨sa, 0, none⟩) 64 sc, lv, .int .i64 S.ops, .int .i64 goes, .bool (!S.on)] 47 (0, 0))
  now : SRow w' na nc S.now
  sure : SRow w' sa sc S.sure
theorem RAt.half {w w' : World} (h : RAt B w r na nc sa sc lv goes S) (hb : Below w.heap.size w w') : RHalf B w w' r na nc sa sc lv goes S :=
  ⟨Kp.of_below hb, (h.below hb).heap, (h.below hb).now, (h.below hb).sure⟩
theorem RHalf.below {w w' w2 : World} (h : RHalf B w w' r na nc sa sc lv goes S) (hb : Below w'.heap.size w' w2) : RHalf B w w2 r na nc sa sc lv goes S :=
  ⟨h.kp.trans (Kp.of_below hb), (hb.block r (Array.getElem?_eq_some_iff.1 h.heap).1).trans h.heap, h.now.kp (B := B) (T := fun _ => False) (Kp.of_below hb) id, h.sure.kp (B := B) (T := fun _ => False) (Kp.of_below hb) id⟩
theorem RAt.halfGrown {w w' w2 : World} (h : RAt B w r na nc sa sc lv goes S) (hb : Below w.heap.size w w') (hg : w'.grownBy w2 lv.ownBlock) : RHalf B w w2 r na nc sa sc lv goes S := by
  have h' := h.below hb
  refine ⟨(Kp.of_below hb).trans (Kp.grown Kp.refl hg fun i hi => ?_), row_grown h'.loose hg h'.heap (by decide), srow_grown h'.loose hg h'.now, srow_grown h'.loose hg h'.sure⟩
  obtain ⟨cs, hc⟩ := own_type h'.loose i hi
  exact ⟨_, _, _, hc, Or.inr ⟨h'.loose.base i hi, Or.inr (Or.inr rfl)⟩⟩
theorem at_grown {w w2 : World} {row : Option Nat} {g : Nat} {v : Value} {L : List Ch} (h : KR.At w v L) (hg : w.grownBy w2 row) (hv : ∃ n c, v = .slice (some ⟨g, 0, none⟩) n c) (hr : row ≠ some g) : KR.At w2 v L := by
  obtain ⟨n, c, rfl⟩ := hv
  rcases h with ⟨a, cap, h1, h2⟩ | ⟨g', o, cap, h1, h0, hc, hx⟩
  · exact Or.inl ⟨a, cap, h1, h2⟩
  · refine Or.inr ⟨g', o, cap, h1, h0, hc, fun j u hj => ?_⟩
    have hcell := hx j u hj
    cases h1
    rw [World.cell?_of_block (hg.block g (World.block_lt_of_cell? _ _ hcell) (Ne.symm hr))]
    exact hcell
theorem RHalf.lay {w w2 : World} (h : RHalf B w w2 r na nc sa sc lv goes S) (h0 : RAt B w r na nc sa sc lv goes S) {lu : Value} {L : List Ch} (hown : KR.Own B lu L w2) :
    RAt B (w2.setCell ⟨r, 2, none⟩ lu) r na nc sa sc lu goes { S with loose := L } ∧ Kp B RefTy w (w2.setCell ⟨r, 2, none⟩ lu) ∧ w2.cell? ⟨r, 2, none⟩ = some lv ∧ w2.frozen? ⟨r, 2, none⟩ = false :=
  ⟨ref_field h.heap (by simp) h.now h.sure hown h0.ne h0.bR h0.bN h0.bS, h.kp.setCell h.heap (Or.inr ⟨h0.bR, Or.inl rfl⟩) _, by rw [Lib.cell_of_heap h.heap]; rfl, by simp [World.frozen?, h.heap]⟩

set_option maxRecDepth 100000 in
set_option maxHeartbeats 3200000 in
theorem ref_Append (w : World) (h : RAt B w r na nc sa sc lv goes S) (hg : GoesOk S goes) (hn : S.ops ≤ 1000000000) (hL : S.loose.length ≤ 1000000000) (hz : ∀ s ∈ S.now, s.size ≤ 1048576) (hB : B ≤ w.heap.size) (f : Int) (s : ByteArray) (hs : s.size ≤ 16777216) :
    Calls Try.prog 38 #[.pointer (some ⟨r, 0, none⟩), .int .i64 f, .string s] w (RPost B w r (.int .i64 (appendS S f s).1) (appendS S f s).2) := by
  have HF := Lib.hid (ref_file w f h)
  have HR := Lib.hid h
  have HG := Lib.hid hg
  have hc := h.cNow
  by_cases he : errF S.on f = 0
  · obtain ⟨hon, hf⟩ := errF_zero he
    obtain ⟨k, rfl⟩ : ∃ k : Nat, f = k := ⟨f.toNat, by omega⟩
    have hk : k < 64 := by omega
    have hc2 := h.now.file hk
    have hsz := getD_size hz k
    unfold appendS RPost
    rw [if_neg (fun x => x he), Int.toNat_natCast]
    rw [he] at HF
    have HO := Lib.hid (ref_step w h hn hon hg)
    have HGO := Lib.hid (off_op hg hon).2.2
    obtain ⟨t, ht⟩ : ∃ t, S.now.getD k ⟨#[]⟩ = t := ⟨_, rfl⟩
    rw [ht] at hc2 hsz ⊢
    have hi : (k : Int) < 64 := by omega
    have hi0 : (0 : Int) ≤ k := by omega
    have hadd : IntKind.i64.wrap ((t.size : Int) + s.size) = t.size + s.size := wrap_in _ (by omega) (by omega)
    by_cases hl : 1048576 - (t.size : Int) < s.size
    · rw [if_pos hl]
      have hl2 : (1048576 : Int) < (t.size : Int) + s.size := by omega
      clear h hg hz hf hon he hk ht hl hL hn hB
      go_enter Try.func38, Try.ntmps38
      go_wp2_with fail
      refine HF.out.mono ?_
      rintro e w' ⟨rfl, rfl⟩
      go_wp2_with fail
      go_ret
      exact ⟨rfl, Kp.refl, _, _, _, _, _, _, HR.out, HG.out⟩
    rw [if_neg hl]
    have hl2 : (t.size : Int) + s.size ≤ 1048576 := by omega
    rcases opS_two S with ho | ho
    · have hn1 := opS_now S
      have hl1 := opS_loose S
      rw [if_neg (fun x => x ho)]
      rw [ho] at HO
      generalize (opS S).2 = S1 at HO hn1 hl1 HGO ⊢
      rw [← hl1] at hL
      rw [← hn1] at ht
      unfold putS
      rw [ht]
      have HT := Lib.hid ht
      have HK := Lib.hid hk
      have HL := Lib.hid hL
      have HBB := Lib.hid hB
      clear h hg hz hf hon he hk ht hl hL hn hB ho hn1 hl1
      go_enter Try.func38, Try.ntmps38
      go_wp2_with fail
      refine HF.out.mono ?_
      rintro e w' ⟨rfl, rfl⟩
      go_wp2_with fail
      refine HO.out.mono ?_
      rintro e w1 ⟨rfl, hr1, hk1⟩
      have HR1 := Lib.hid hr1
      have HK1 := Lib.hid hk1
      have HB1 := Lib.hid (Nat.le_trans HBB.out hk1.size)
      clear hc hc2 hr1 hk1 HF HO HR HG
      have hc := HR1.out.cNow
      have hcl := HR1.out.cLoose
      have hc2 := HR1.out.now.file HK.out
      rw [HT.out] at hc2
      go_upto_region 8 with (fail)
      refine QT.wp_region_facts_one 18 17 (by decide) (by kernel_rfl) (fun w' => Below w1.heap.size w1 w') (fun w' => RHalf B w1 w' r na nc sa sc lv goes S1) (fun n v w' => (([.val (.pointer (some ⟨r, 0, none⟩)), .val (.pointer (some ⟨r, 0, none⟩)), .val (.pointer (some ⟨r, 0, none⟩)), .val (.pointer (some ⟨r, 2, none⟩)), .val (lv), .val (.int .i64 k), .val (.pointer (some ⟨r, 0, none⟩)), .val (.pointer (some ⟨r, 0, none⟩)), .val (.pointer (some ⟨r, 0, none⟩)), .val (.slice (some ⟨na, 0, none⟩) 64 nc), .val (.int .i64 k), .val (.pointer (some ⟨na, k, none⟩)), .val (.string t), .val (.int .i64 t.size), .val (.string s), .val (.agg #[.int .i64 k, .int .i64 t.size, .string s, .bool false]), .one ⟨k, t.size, false, s⟩ w1.heap.size, .own B (S1.loose.length + 1) (S1.loose ++ [⟨k, t.size, false, s⟩])] : List FactR).getD n (.val undef) : FactR).holds v w') (by kernel_rfl) (by kernel_rfl) (Below.refl _ _).drew (fun w1 w2 h1 hb => h1.trans (hb.mono h1.size)) (fun w1 w2 h1 hb => h1.below hb) (fun n v w1 w2 h hb => FactR.kept _ v w1 w2 h hb) (fun o ho a wz hI hag hdep => ?_) (fun n o hn hnd ho a wz hI hag hdep => ?_) (fun a wz hI hag hf => ?_)
      · have t0 : a.eval (.tmp 0) = .pointer (some ⟨r, 0, none⟩) := hag.old 0 _ (by kernel_rfl) rfl
        have t1 : a.eval (.tmp 1) = .int .i64 k := hag.old 1 _ (by kernel_rfl) rfl
        have t2 : a.eval (.tmp 2) = .string s := hag.old 2 _ (by kernel_rfl) rfl
        obtain rfl := (Option.some.inj ho).symm
        have d33 : a.eval (.tmp 33) = lv := hdep _ (Array.mem_of_getElem? (i := 0) rfl) rfl _ _ rfl rfl
        have d45 : ((.one ⟨k, t.size, false, s⟩ w1.heap.size) : FactR).holds (a.eval (.tmp 45)) wz := hdep _ (Array.mem_of_getElem? (i := 1) rfl) rfl _ _ rfl rfl
        obtain ⟨g1, e1, hg1, hat1⟩ := d45
        obtain ⟨g2, o2, cap2, e2, _, hr2⟩ := hat1.some (by simp)
        obtain ⟨i0, hi0, hz0, hz1, hz2⟩ := info_parts kr_info
        rw [e1] at e2
        cases e2
        have hBz : B ≤ wz.heap.size := Nat.le_trans HB1.out hI.size
        have hLn := HL.out
        refine ⟨rfl, wp_append_lies wz (.tmp 33) (.tmp 45) 45 rfl B 89 i0 _ 4 40 Try.underlying45 hi0 hz0 hz1 hz2 rfl (by omega) lv S1.loose.length (KR.flat S1.loose) d33 (HR1.out.below hI).loose ⟨g1, 0, none⟩ 1 1 (KR.flat [⟨k, t.size, false, s⟩]) e1 rfl (fun j u hj => by rw [Addr.add_mid]; exact hr2 j u hj) (KR.flat_one _) (by omega) (by unfold maxLen; omega) (by omega) hBz _ rfl ?_⟩
        intro gg cap w2 hown2 hgrow hat2 hlt2
        refine ⟨_, rfl, ⟨?_, gg, cap, rfl⟩, HR1.out.halfGrown hI hgrow, fun j u hj hu => ?_⟩
        · show KR.Own B _ _ w2
          unfold Kind.Own
          rw [KR.flat_append, List.length_append]
          exact hown2
        · match j, hj, hu with
          | 0, _, hu => exact hu
          | 1, _, hu => exact hu
          | 2, _, hu => exact hu
          | 3, _, hu => exact hu
          | 4, _, hu => exact hu
          | 5, _, hu => exact hu
          | 6, _, hu => exact hu
          | 7, _, hu => exact hu
          | 8, _, hu => exact hu
          | 9, _, hu => exact hu
          | 10, _, hu => exact hu
          | 11, _, hu => exact hu
          | 12, _, hu => exact hu
          | 13, _, hu => exact hu
          | 14, _, hu => exact hu
          | 15, _, hu => exact hu
          | 16, _, hu =>
            obtain ⟨g3, h1, h2, h3⟩ := hu
            have hlt : ∀ i, lv.ownBlock = some i → i < w1.heap.size := fun i hi => by
              obtain ⟨cs, hc⟩ := own_type HR1.out.loose i hi
              exact (Array.getElem?_eq_some_iff.1 hc).1
            exact ⟨g3, h1, ⟨h2.1, Nat.lt_of_lt_of_le h2.2 hgrow.size⟩, at_grown h3 hgrow ⟨1, 1, h1⟩ (fun e => by have := hlt g3 e; have := h2.1; omega)⟩
          | 17, hj, _ => exact absurd rfl hj
          | j + 18, _, hu => exact hu
      · have t0 : a.eval (.tmp 0) = .pointer (some ⟨r, 0, none⟩) := hag.old 0 _ (by kernel_rfl) rfl
        have t1 : a.eval (.tmp 1) = .int .i64 k := hag.old 1 _ (by kernel_rfl) rfl
        have t2 : a.eval (.tmp 2) = .string s := hag.old 2 _ (by kernel_rfl) rfl
        have hsz : w1.heap.size ≤ wz.heap.size := hI.elim (fun h => h.size) (fun h => h.kp.size)
        have hh : RHalf B w1 wz r na nc sa sc lv goes S1 := hI.elim (fun h => HR1.out.half h) id
        have c0 : wz.cell? ⟨r, 0, none⟩ = some (.slice (some ⟨na, 0, none⟩) 64 nc) := by rw [Lib.cell_of_heap hh.heap]; rfl
        have c2 : wz.cell? ⟨r, 2, none⟩ = some lv := by rw [Lib.cell_of_heap hh.heap]; rfl
        have cs : wz.cell? ⟨na, k, none⟩ = some (.string t) := by rw [hh.now.file HK.out, HT.out]
        match n, ho with
        | 0, ho =>
          obtain rfl := (Option.some.inj ho).symm
          exact ⟨rfl, QT.wp_value (BigFrame.run_move (.tmp 0) rfl wz) ⟨_, rfl, t0, Below.refl _ _⟩⟩
        | 1, ho =>
          obtain rfl := (Option.some.inj ho).symm
          exact ⟨rfl, QT.wp_value (BigFrame.run_move (.tmp 0) rfl wz) ⟨_, rfl, t0, Below.refl _ _⟩⟩
        | 2, ho =>
          obtain rfl := (Option.some.inj ho).symm
          have d30 : a.eval (.tmp 30) = .pointer (some ⟨r, 0, none⟩) := hdep _ (Array.mem_of_getElem? (i := 0) rfl) rfl _ _ rfl rfl
          exact ⟨rfl, QT.wp_value (v := .pointer (some ⟨r, 0, none⟩)) (by simp [go_sem, QT.nf d30]) ⟨_, rfl, rfl, Below.refl _ _⟩⟩
        | 3, ho =>
          obtain rfl := (Option.some.inj ho).symm
          have d31 : a.eval (.tmp 31) = .pointer (some ⟨r, 0, none⟩) := hdep _ (Array.mem_of_getElem? (i := 0) rfl) rfl _ _ rfl rfl
          exact ⟨rfl, QT.wp_value (v := .pointer (some ⟨r, 2, none⟩)) (by simp [go_sem, QT.nf d31]) ⟨_, rfl, rfl, Below.refl _ _⟩⟩
        | 4, ho =>
          obtain rfl := (Option.some.inj ho).symm
          have d32 : a.eval (.tmp 32) = .pointer (some ⟨r, 2, none⟩) := hdep _ (Array.mem_of_getElem? (i := 0) rfl) rfl _ _ rfl rfl
          exact ⟨rfl, QT.wp_value (v := lv) (by simp [go_sem, QT.nf d32, c2]) ⟨_, rfl, rfl, Below.refl _ _⟩⟩
        | 5, ho =>
          obtain rfl := (Option.some.inj ho).symm
          exact ⟨rfl, QT.wp_value (BigFrame.run_move (.tmp 1) rfl wz) ⟨_, rfl, t1, Below.refl _ _⟩⟩
        | 6, ho =>
          obtain rfl := (Option.some.inj ho).symm
          exact ⟨rfl, QT.wp_value (BigFrame.run_move (.tmp 0) rfl wz) ⟨_, rfl, t0, Below.refl _ _⟩⟩
        | 7, ho =>
          obtain rfl := (Option.some.inj ho).symm
          have d35 : a.eval (.tmp 35) = .pointer (some ⟨r, 0, none⟩) := hdep _ (Array.mem_of_getElem? (i := 0) rfl) rfl _ _ rfl rfl
          exact ⟨rfl, QT.wp_value (v := .pointer (some ⟨r, 0, none⟩)) (by simp [go_sem, QT.nf d35]) ⟨_, rfl, rfl, Below.refl _ _⟩⟩
        | 8, ho =>
          obtain rfl := (Option.some.inj ho).symm
          have d36 : a.eval (.tmp 36) = .pointer (some ⟨r, 0, none⟩) := hdep _ (Array.mem_of_getElem? (i := 0) rfl) rfl _ _ rfl rfl
          exact ⟨rfl, QT.wp_value (v := .pointer (some ⟨r, 0, none⟩)) (by simp [go_sem, QT.nf d36]) ⟨_, rfl, rfl, Below.refl _ _⟩⟩
        | 9, ho =>
          obtain rfl := (Option.some.inj ho).symm
          have d37 : a.eval (.tmp 37) = .pointer (some ⟨r, 0, none⟩) := hdep _ (Array.mem_of_getElem? (i := 0) rfl) rfl _ _ rfl rfl
          exact ⟨rfl, QT.wp_value (v := .slice (some ⟨na, 0, none⟩) 64 nc) (by simp [go_sem, QT.nf d37, c0]) ⟨_, rfl, rfl, Below.refl _ _⟩⟩
        | 10, ho =>
          obtain rfl := (Option.some.inj ho).symm
          exact ⟨rfl, QT.wp_value (BigFrame.run_move (.tmp 1) rfl wz) ⟨_, rfl, t1, Below.refl _ _⟩⟩
        | 11, ho =>
          obtain rfl := (Option.some.inj ho).symm
          have d38 : a.eval (.tmp 38) = .slice (some ⟨na, 0, none⟩) 64 nc := hdep _ (Array.mem_of_getElem? (i := 0) rfl) rfl _ _ rfl rfl
          have d39 : a.eval (.tmp 39) = .int .i64 k := hdep _ (Array.mem_of_getElem? (i := 1) rfl) rfl _ _ rfl rfl
          exact ⟨rfl, QT.wp_value (v := .pointer (some ⟨na, k, none⟩)) (by simp [go_sem, QT.nf d38, QT.nf d39, hi, hi0]) ⟨_, rfl, rfl, Below.refl _ _⟩⟩
        | 12, ho =>
          obtain rfl := (Option.some.inj ho).symm
          have d40 : a.eval (.tmp 40) = .pointer (some ⟨na, k, none⟩) := hdep _ (Array.mem_of_getElem? (i := 0) rfl) rfl _ _ rfl rfl
          exact ⟨rfl, QT.wp_value (v := .string t) (by simp [go_sem, QT.nf d40, cs]) ⟨_, rfl, rfl, Below.refl _ _⟩⟩
        | 13, ho =>
          obtain rfl := (Option.some.inj ho).symm
          have d41 : a.eval (.tmp 41) = .string t := hdep _ (Array.mem_of_getElem? (i := 0) rfl) rfl _ _ rfl rfl
          exact ⟨rfl, QT.wp_value (v := .int .i64 t.size) (by simp [go_sem, QT.nf d41]) ⟨_, rfl, rfl, Below.refl _ _⟩⟩
        | 14, ho =>
          obtain rfl := (Option.some.inj ho).symm
          exact ⟨rfl, QT.wp_value (BigFrame.run_move (.tmp 2) rfl wz) ⟨_, rfl, t2, Below.refl _ _⟩⟩
        | 15, ho =>
          obtain rfl := (Option.some.inj ho).symm
          have d34 : a.eval (.tmp 34) = .int .i64 k := hdep _ (Array.mem_of_getElem? (i := 0) rfl) rfl _ _ rfl rfl
          have d42 : a.eval (.tmp 42) = .int .i64 t.size := hdep _ (Array.mem_of_getElem? (i := 1) rfl) rfl _ _ rfl rfl
          have d43 : a.eval (.tmp 43) = .string s := hdep _ (Array.mem_of_getElem? (i := 2) rfl) rfl _ _ rfl rfl
          exact ⟨rfl, QT.wp_value (v := .agg #[.int .i64 k, .int .i64 t.size, .string s, .bool false]) (by simp [go_sem, QT.nf d34, QT.nf d42, QT.nf d43]) ⟨_, rfl, rfl, Below.refl _ _⟩⟩
        | 16, ho =>
          obtain rfl := (Option.some.inj ho).symm
          have d44 : a.eval (.tmp 44) = .agg #[.int .i64 k, .int .i64 t.size, .string s, .bool false] := hdep _ (Array.mem_of_getElem? (i := 0) rfl) rfl _ _ rfl rfl
          exact ⟨rfl, wp_build_at (K := KR) 45 1 _ rfl Try.underlying45 [⟨k, t.size, false, s⟩] rfl (by decide) (by decide) (by simp [d44, KR]) (fun w' hat hnew hb => ⟨_, rfl, ⟨_, rfl, ⟨hsz, (Array.getElem?_eq_some_iff.1 hnew).1⟩, hat⟩, hb⟩)⟩
        | 17, ho =>
          exact absurd rfl hnd
        | n + 18, ho => omega
      · have f0 : a.eval (.tmp 29) = .pointer (some ⟨r, 0, none⟩) := hf 0 _ _ (by omega) rfl rfl
        have f1 : a.eval (.tmp 30) = .pointer (some ⟨r, 0, none⟩) := hf 1 _ _ (by omega) rfl rfl
        have f2 : a.eval (.tmp 31) = .pointer (some ⟨r, 0, none⟩) := hf 2 _ _ (by omega) rfl rfl
        have f3 : a.eval (.tmp 32) = .pointer (some ⟨r, 2, none⟩) := hf 3 _ _ (by omega) rfl rfl
        have f4 : a.eval (.tmp 33) = lv := hf 4 _ _ (by omega) rfl rfl
        have f5 : a.eval (.tmp 34) = .int .i64 k := hf 5 _ _ (by omega) rfl rfl
        have f6 : a.eval (.tmp 35) = .pointer (some ⟨r, 0, none⟩) := hf 6 _ _ (by omega) rfl rfl
        have f7 : a.eval (.tmp 36) = .pointer (some ⟨r, 0, none⟩) := hf 7 _ _ (by omega) rfl rfl
        have f8 : a.eval (.tmp 37) = .pointer (some ⟨r, 0, none⟩) := hf 8 _ _ (by omega) rfl rfl
        have f9 : a.eval (.tmp 38) = .slice (some ⟨na, 0, none⟩) 64 nc := hf 9 _ _ (by omega) rfl rfl
        have f10 : a.eval (.tmp 39) = .int .i64 k := hf 10 _ _ (by omega) rfl rfl
        have f11 : a.eval (.tmp 40) = .pointer (some ⟨na, k, none⟩) := hf 11 _ _ (by omega) rfl rfl
        have f12 : a.eval (.tmp 41) = .string t := hf 12 _ _ (by omega) rfl rfl
        have f13 : a.eval (.tmp 42) = .int .i64 t.size := hf 13 _ _ (by omega) rfl rfl
        have f14 : a.eval (.tmp 43) = .string s := hf 14 _ _ (by omega) rfl rfl
        have f15 : a.eval (.tmp 44) = .agg #[.int .i64 k, .int .i64 t.size, .string s, .bool false] := hf 15 _ _ (by omega) rfl rfl
        obtain ⟨u16, f16⟩ : ∃ u, a.eval (.tmp 45) = u := ⟨_, rfl⟩
        have y16 : ((.one ⟨k, t.size, false, s⟩ w1.heap.size) : FactR).holds (a.eval (.tmp 45)) wz := hf 16 _ _ (by omega) rfl rfl
        rw [f16] at y16
        obtain ⟨u17, f17⟩ : ∃ u, a.eval (.tmp 46) = u := ⟨_, rfl⟩
        have y17 : ((.own B (S1.loose.length + 1) (S1.loose ++ [⟨k, t.size, false, s⟩])) : FactR).holds (a.eval (.tmp 46)) wz := hf 17 _ _ (by omega) rfl rfl
        rw [f17] at y17
        have ha := hag.puts [(29, .pointer (some ⟨r, 0, none⟩)), (30, .pointer (some ⟨r, 0, none⟩)), (31, .pointer (some ⟨r, 0, none⟩)), (32, .pointer (some ⟨r, 2, none⟩)), (33, lv), (34, .int .i64 k), (35, .pointer (some ⟨r, 0, none⟩)), (36, .pointer (some ⟨r, 0, none⟩)), (37, .pointer (some ⟨r, 0, none⟩)), (38, .slice (some ⟨na, 0, none⟩) 64 nc), (39, .int .i64 k), (40, .pointer (some ⟨na, k, none⟩)), (41, .string t), (42, .int .i64 t.size), (43, .string s), (44, .agg #[.int .i64 k, .int .i64 t.size, .string s, .bool false]), (45, u16), (46, u17)] rfl (by simp) (by simp only [List.forall_mem_cons, List.not_mem_nil, false_implies, implies_true, and_true]; exact ⟨f0, f1, f2, f3, f4, f5, f6, f7, f8, f9, f10, f11, f12, f13, f14, f15, f16, f17⟩)
        subst ha
        clear hag hf f0 f1 f2 f3 f4 f5 f6 f7 f8 f9 f10 f11 f12 f13 f14 f15 f16 f17
        simp only [List.foldl_cons, List.foldl_nil, Act.put, List.drop_succ_cons, List.drop_zero, List.setIfInBounds_toArray, List.set_cons_succ, List.set_cons_zero]
        obtain ⟨hown17, k17, cap17, rfl⟩ := y17
        obtain ⟨hR2, hK2, hq2, hf2⟩ := hI.lay HR1.out hown17
        have HR2 := Lib.hid hR2
        have HK2 := Lib.hid (HK1.out.trans hK2)
        clear hR2 hK2 hown17 y16 hI hc hc2 hcl
        go_upto_region 9 with (fail)
        generalize wz.setCell ⟨r, 2, none⟩ _ = w2 at HR2 HK2 ⊢
        clear hq2 hf2
        refine wp_region_still_tail 14 (by kernel_rfl) (by kernel_rfl) ?_
        simp only [List.take_succ_cons, List.take_zero, List.drop_succ_cons, List.drop_zero]
        have hr3 := HR2.out.below (Below.refl _ _).drew
        have HK3 := Lib.hid (HK2.out.drew)
        show wpStill _ _ w2.drew (fun a' => wpList _ _ _ _ a' w2.drew) _ _
        generalize w2.drew = w3 at hr3 HK3 ⊢
        have hc := hr3.cNow
        have hc2 := hr3.now.file HK.out
        have hfz := hr3.now.fz
        simp only at hc2
        rw [HT.out] at hc2
        have HR4 := Lib.hid (hr3.putNow HK.out (t ++ s))
        have HK4 := Lib.hid (hr3.now.kSet hr3.bN HK3.out k (.string (t ++ s)))
        clear hr3 HR2 HK2
        have hns : ¬ 9223372036854775807 < t.size + s.size := by omega
        repeat still_step
        refine wpStill_nil ?_
        go_wp2_with fail
        go_ret
        exact ⟨rfl, HK4.out, _, _, _, _, _, _, HR4.out, HGO.out⟩
    · have hr : (opS S).1 ≠ 0 := by rw [ho]; decide
      rw [if_pos hr]
      rw [ho] at HO ⊢
      generalize (opS S).2 = S1 at HO HGO ⊢
      clear h hg hz hf hon he hk ht hl hL hn hB ho hr
      go_enter Try.func38, Try.ntmps38
      go_wp2_with fail
      refine HF.out.mono ?_
      rintro e w' ⟨rfl, rfl⟩
      go_wp2_with fail
      refine HO.out.mono ?_
      rintro e w1 ⟨rfl, hr1, hk1⟩
      have HR1 := Lib.hid hr1
      have HK1 := Lib.hid hk1
      clear hr1 hk1
      go_wp2_with fail
      go_ret
      exact ⟨rfl, HK1.out, _, _, _, _, _, _, HR1.out, HGO.out⟩
  · unfold appendS RPost
    rw [if_pos he]
    generalize errF S.on f = x at HF he ⊢
    have he2 : (x == 0) = false := by simpa using he
    have he3 : (x != 0) = true := by simpa using he
    clear h hg
    go_enter Try.func38, Try.ntmps38
    go_wp2_with fail
    refine HF.out.mono ?_
    rintro e w' ⟨rfl, rfl⟩
    go_wp2_with fail
    go_ret
    exact ⟨rfl, Kp.refl, _, _, _, _, _, _, HR.out, HG.out⟩
end
end Go.Proofs.Ytoacnhiophgfcaa.Dk
