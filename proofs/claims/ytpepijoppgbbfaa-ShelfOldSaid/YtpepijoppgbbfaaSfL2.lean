/- shelf: ShelfPlays. -/
import Derived.Test.YtpepijoppgbbfaaSfH
import Derived.Laws.CopyOwn
namespace Go.Proofs.Ytpepijoppgbbfaa.Shf
open Go.RowKit Go.Shelf Go.Proofs.Ytpepijoppgbbfaa.Gr

/-- What an operation leaves. -/
inductive FactP where
  | val (v : Value)
  | shelf (l : List Th)
  | list (g : Nat) (l : List Th)
def FactP.holds : FactP → Value → World → Prop
  | .val v0, v, _ => v = v0
  | .shelf l, v, w => ∃ S, v = .agg S ∧ ShelfAt w.heap.size w S l
  | .list g l, v, w => KT.At w v l ∧ ∀ j, v.ownBlock = some j → j ≠ g
theorem FactP.kept (f : FactP) (v : Value) (w w' : World) (h : f.holds v w) (hb : Below w.heap.size w w') : f.holds v w' := by
  cases f with
  | val v0 => exact h
  | shelf l =>
    obtain ⟨S, hv, hS⟩ := h
    exact ⟨S, hv, hS.below hb hb.size⟩
  | list g l => exact ⟨h.1.kept hb, h.2⟩
theorem wp_enter_to {P : Program} {o : Oper} {a : Act} {w : World} {K : Act → World → Prop} {Q : Exit → Act → World → Prop} {f : FuncId} {args : Array Value} {R : Value → World → Prop} (h : (execOp a.eval o).run P w = .ok (.enter f args) w) (hc : Calls P f args w fun e w' => ∃ v, e = .returned v ∧ R v w') (hk : ∀ v w', R v w' → K (a.put o.dst v) w') : o.wp P a w K Q := by
  unfold Oper.wp
  rw [h]
  exact hc.mono fun e w' ⟨v, he, hr⟩ => by subst he; exact hk v w' hr
/-- Another block's row is stored: the list is what it was. -/
theorem at_store {α : Type} {P : Program} {K : Kind P α} {w : World} {v : Value} {L : List α} {g : Nat} {C : Array Value} (h : K.At w v L) (hg : ∀ j, v.ownBlock = some j → j ≠ g) : K.At (w.setRow g C) v L := by
  rcases h with h | ⟨k, o, cap, rfl, h0, hc, hr⟩
  · exact Or.inl h
  · have hk : k ≠ g := hg k rfl
    refine Or.inr ⟨k, o, cap, rfl, h0, hc, fun j u hj => ?_⟩
    have := hr j u hj
    rw [← this]
    exact World.cell?_of_block (setRow_other _ _ _ _ hk)
theorem code_PutF (S : Array Value) (l : List Th) (k : ByteArray) (z : Nat) (w : World) (hS : ShelfAt w.heap.size w S l) (hl : l.length ≤ 10000000000) :
    Calls Try.prog 9 #[.agg S, .string k, .int .u64 z] w fun e w' => ∃ v, e = .returned v ∧ (FactP.shelf (putL l k z)).holds v w' ∧ Below w.heap.size w w' :=
  (code_PutS S l k z w hS hl).mono fun _ _ ⟨S', he, h1, h2⟩ => ⟨_, he, ⟨S', rfl, h1⟩, h2⟩
theorem code_DropF (S : Array Value) (l : List Th) (k : ByteArray) (w : World) (hS : ShelfAt w.heap.size w S l) (hl : l.length ≤ 10000000000) :
    Calls Try.prog 11 #[.agg S, .string k] w fun e w' => ∃ v, e = .returned v ∧ (FactP.shelf (dropL l k)).holds v w' ∧ Below w.heap.size w w' :=
  (code_DropS S l k w hS hl).mono fun _ _ ⟨S', he, h1, h2⟩ => ⟨_, he, ⟨S', rfl, h1⟩, h2⟩
theorem ref_PutF (v : Value) (l : List Th) (k : ByteArray) (z : Nat) (g : Nat) (w : World) (hT : KT.At w v l) (hl : l.length ≤ 10000000000) (hg : g < w.heap.size) :
    Calls Try.prog 15 #[v, .string k, .int .u64 z] w fun e w' => ∃ v, e = .returned v ∧ (FactP.list g (putL l k z)).holds v w' ∧ Below w.heap.size w w' :=
  (ref_PutL v l k z w hT hl).mono fun _ _ ⟨_, he, h1, h2, h3⟩ => ⟨_, he, ⟨h1, fun j hj => by have := h2 j hj; omega⟩, h3⟩
theorem ref_DropF (v : Value) (l : List Th) (k : ByteArray) (g : Nat) (w : World) (hT : KT.At w v l) (hl : l.length ≤ 10000000000) (hg : g < w.heap.size) (hv : ∀ j, v.ownBlock = some j → j ≠ g) :
    Calls Try.prog 16 #[v, .string k] w fun e w' => ∃ v, e = .returned v ∧ (FactP.list g (dropL l k)).holds v w' ∧ Below w.heap.size w w' :=
  (ref_DropL v l k w hT hl).mono fun _ _ ⟨_, he, h1, h2, h3⟩ => ⟨_, he, ⟨h1, fun j hj => (h2 j hj).elim (fun h => by omega) (hv j)⟩, h3⟩
theorem nextV_form (o : Option Th) : ∃ (k : ByteArray) (v : Nat) (b : Bool), nextV o = .tuple #[.string k, .int .u64 v, .bool b] := by
  cases o with
  | none => exact ⟨_, 0, _, rfl⟩
  | some x => exact ⟨_, _, _, rfl⟩
theorem put_le (l : List Th) (k : ByteArray) (z : Nat) : (putL l k z).length ≤ l.length + 1 := by
  rw [put_len]
  split <;> omega
theorem drop_le (l : List Th) (k : ByteArray) : (dropL l k).length ≤ l.length := by
  rw [drop_len]
  split <;> omega

set_option maxRecDepth 100000 in
set_option maxHeartbeats 12800000 in
theorem plays_any (v0 : Value) (L : List OpT) (w : World) (hT : KO.At w v0 L) (hl : L.length ≤ 9223372036854775807) :
    Calls Try.prog 4 #[v0] w fun e w' => e = .returned (.bool true) ∧ Below w.heap.size w w' := by
  have HN := Lib.hid (fun w => code_NewS w)
  have HWK := Lib.hid works_any
  have HHV := Lib.hid (fun w hT => heavy_any v0 L w hT hl)
  obtain ⟨av, cap, rfl, hcap⟩ := hT.form
  have HT := Lib.hid hT
  clear hT
  go_enter Try.func4, Try.ntmps4
  go_wp2_with fail
  refine (HWK.out _).mono ?_
  rintro e w1 ⟨rfl, hb1⟩
  go_wp2_with fail
  refine (HHV.out _ (HT.out.kept hb1)).mono ?_
  rintro e w2 ⟨b, rfl, hb300, hb2⟩
  have HB2 := Lib.hid (hb1.trans (hb2.mono hb1.size))
  clear hb1 hb2
  cases b with
  | true =>
    go_wp2_with fail
    go_ret
    exact ⟨rfl, HB2.out⟩
  | false =>
    have h300 := hb300 rfl
    clear hb300
    go_wp2_with fail
    refine (HN.out _).mono ?_
    rintro e w3 ⟨S0, rfl, hS0, hb3⟩
    have HR0 := Lib.hid hS0.row
    have HS0 := Lib.hid hS0
    have HB3 := Lib.hid (HB2.out.trans (hb3.mono HB2.out.size))
    clear hS0 hb3
    go_upto_region 6 with (refine wpList_store_row rfl 24 (.tmp 3) (.tmp 21) rfl (w3.heap.size + 1) S0 rfl rfl 24 zeroS (heap_alloc2_new _ _ _) HR0.out.info HR0.out.size.symm HR0.out.one ?_)
    have h3a := heap_alloc2_new w3 (.cells #[] 55) (.cells zeroS 24)
    have hb4 : Below w3.heap.size w3 ((w3.alloc (.cells #[] 55)).alloc (.cells zeroS 24)) := ((Below.refl _ _).alloc (Nat.le_refl _) _).alloc (by simp) _
    have h3b := setRow_heap _ _ _ S0 _ _ h3a
    have hb4' : Below w3.heap.size w3 (((w3.alloc (.cells #[] 55)).alloc (.cells zeroS 24)).setRow (w3.heap.size + 1) S0) := below_setRow hb4 (Nat.le_succ _) _
    have hs4 : (((w3.alloc (.cells #[] 55)).alloc (.cells zeroS 24)).setRow (w3.heap.size + 1) S0).heap.size = w3.heap.size + 2 := by simp [World.setRow]
    clear h3a hb4
    generalize ((w3.alloc (.cells #[] 55)).alloc (.cells zeroS 24)).setRow (w3.heap.size + 1) S0 = w4 at h3b hb4' hs4 ⊢
    obtain ⟨g3, hg3⟩ : ∃ x, w3.heap.size + 1 = x := ⟨_, rfl⟩
    rw [hg3] at h3b
    rw [hg3]
    have hbs := HB3.out.size
    have HB4 := Lib.hid (HB3.out.trans (hb4'.mono HB3.out.size))
    have HS4 := Lib.hid (HS0.out.below hb4' hb4'.size)
    have H34 := Lib.hid h3b
    have hne0 : w3.heap.size ≠ g3 := by omega
    have HG := Lib.hid (show w.heap.size ≤ g3 by omega)
    generalize w3.heap.size = gz at hne0 ⊢
    have HNE := Lib.hid hne0
    clear h3b hb4' hs4 hg3 hbs HB3 HS0 HB2 hne0 HWK HHV HN
    go_wp2_with fail
    go_loopw [4, 25] (fun lv iv wr => ∃ (i : Nat) (l : List Th) (S : Array Value), i ≤ L.length ∧ l.length ≤ i ∧ iv = .int .i64 i ∧ wr.heap[g3]? = some (.cells S 24 (0, 0)) ∧ ShelfAt wr.heap.size wr S l ∧ KT.At wr lv l ∧ (∀ j, lv.ownBlock = some j → j ≠ g3) ∧ Below w.heap.size w wr) (fun _ iv _ => L.length - (intOf iv).toNat)
    case atStart => exact ⟨0, [], S0, Nat.zero_le _, Nat.le_refl _, rfl, H34.out, HS4.out, Kind.At.nil _ _, fun j hj => by simp [Value.ownBlock] at hj; rw [← hj]; exact HNE.out, HB4.out⟩
    case round =>
      obtain ⟨i, l, S, hi, hli, rfl, h3, hS, hM, hown, hb⟩ := hrel
      have HR := Lib.hid hS.row
      by_cases hlt : i < L.length
      · obtain ⟨g, o, cap', hav, _, hr⟩ := (HT.out.kept hb).some (by omega)
        have hx := List.getElem?_eq_getElem hlt
        obtain ⟨x, hxx⟩ : ∃ x, L[i] = x := ⟨_, rfl⟩
        rw [hxx] at hx
        obtain ⟨c0, c1, c2, c3⟩ := op_cells hr hx
        injection hav with hav1 _ hav2
        subst hav1 hav2
        have hlti : (i : Int) < (L.length : Int) := by omega
        clear hxx hr hx
        go_upto_region 9 with (fail)
        obtain ⟨ma, mcap, rfl, hmc⟩ := hM.form
        have hb1 : Below wr.heap.size wr (wr.alloc (.cells #[.int .i64 x.kind, .int .i64 x.n, .string x.key, .int .u64 x.v] 39)) := (Below.refl _ _).alloc (Nat.le_refl _) _
        have h6 := heap_alloc_new wr (.cells #[.int .i64 x.kind, .int .i64 x.n, .string x.key, .int .u64 x.v] 39)
        have h3lt := (Array.getElem?_eq_some_iff.1 h3).1
        have hs6 : (wr.alloc (.cells #[.int .i64 x.kind, .int .i64 x.n, .string x.key, .int .u64 x.v] 39)).heap.size = wr.heap.size + 1 := by simp
        generalize wr.alloc (.cells #[.int .i64 x.kind, .int .i64 x.n, .string x.key, .int .u64 x.v] 39) = W at hb1 h6 hs6 ⊢
        have HS := Lib.hid (hS.below hb1 hb1.size)
        have HM := Lib.hid (hM.kept hb1)
        have HB := Lib.hid (hb.trans (hb1.mono hb.size))
        have H3 := Lib.hid ((hb1.block g3 h3lt).trans h3)
        have HOWN := Lib.hid hown
        have HLE := Lib.hid (show l.length ≤ 10000000000 by omega)
        have HLI := Lib.hid hli
        obtain ⟨g6, hg6⟩ : ∃ y, wr.heap.size = y := ⟨_, rfl⟩
        rw [hg6] at h6 h3lt hs6
        rw [hg6]
        have H6 := Lib.hid h6
        have HLT := Lib.hid (show g3 < W.heap.size ∧ g6 < W.heap.size by omega)
        have k0 : W.cell? ⟨g6, 0, none⟩ = some (.int .i64 x.kind) := by rw [Lib.cell_of_heap h6]; rfl
        clear hb1 h6 hs6 hS hM hb h3 hown hg6 h3lt hli c0 c1 c2 c3
        by_cases e0 : x.kind = 0
        · rw [e0] at k0
          go_upto_region 11 with (fail)
          refine QT.wp_region_facts_tail 12 (by kernel_rfl) (fun w' => Below W.heap.size W w') (fun n v w' => (([.val (.agg S), .val (.pointer (some ⟨g6, 2, none⟩)), .val (.string x.key), .val (.pointer (some ⟨g6, 3, none⟩)), .val (.int .u64 x.v), .shelf (putL l x.key x.v), .val (.slice ma l.length mcap), .val (.pointer (some ⟨g6, 2, none⟩)), .val (.string x.key), .val (.pointer (some ⟨g6, 3, none⟩)), .val (.int .u64 x.v), .list g3 (putL l x.key x.v)] : List FactP).getD n (.val undef) : FactP).holds v w') (by kernel_rfl) (by kernel_rfl) (Below.refl _ _).drew (fun w1 w2 h1 hb => h1.trans (hb.mono h1.size)) (fun n v w1 w2 h hb => FactP.kept _ v w1 w2 h hb) (fun n o hn ho a wz hI hag hdep => ?_) (fun a wz hI hag hf => ?_)
          · have t3 : a.eval (.tmp 3) = .pointer (some ⟨g3, 0, none⟩) := hag.old 3 _ (by kernel_rfl) rfl
            have t4 : a.eval (.tmp 4) = .slice ma l.length mcap := hag.old 4 _ (by kernel_rfl) rfl
            have t6 : a.eval (.tmp 6) = .pointer (some ⟨g6, 0, none⟩) := hag.old 6 _ (by kernel_rfl) rfl
            have ck : wz.cell? ⟨g6, 2, none⟩ = some (.string x.key) := by rw [Lib.cell_of_heap ((hI.block g6 HLT.out.2).trans H6.out)]; rfl
            have cv : wz.cell? ⟨g6, 3, none⟩ = some (.int .u64 x.v) := by rw [Lib.cell_of_heap ((hI.block g6 HLT.out.2).trans H6.out)]; rfl
            match n, ho with
            | 0, ho =>
              obtain rfl := (Option.some.inj ho).symm
              exact ⟨rfl, wp_load_row 24 (.tmp 3) rfl g3 t3 24 S (0, 0) _ ((hI.block g3 HLT.out.1).trans H3.out) Try.underlying24 rfl HR.out.info ⟨_, rfl, rfl, Below.refl _ _⟩⟩
            | 1, ho =>
              obtain rfl := (Option.some.inj ho).symm
              exact ⟨rfl, QT.wp_value (v := .pointer (some ⟨g6, 2, none⟩)) (by simp [go_sem, QT.nf t6]) ⟨_, rfl, rfl, Below.refl _ _⟩⟩
            | 2, ho =>
              obtain rfl := (Option.some.inj ho).symm
              have d34 : a.eval (.tmp 34) = .pointer (some ⟨g6, 2, none⟩) := hdep _ (Array.mem_of_getElem? (i := 0) rfl) rfl _ _ rfl rfl
              exact ⟨rfl, QT.wp_value (v := .string x.key) (by simp [go_sem, QT.nf d34, ck]) ⟨_, rfl, rfl, Below.refl _ _⟩⟩
            | 3, ho =>
              obtain rfl := (Option.some.inj ho).symm
              exact ⟨rfl, QT.wp_value (v := .pointer (some ⟨g6, 3, none⟩)) (by simp [go_sem, QT.nf t6]) ⟨_, rfl, rfl, Below.refl _ _⟩⟩
            | 4, ho =>
              obtain rfl := (Option.some.inj ho).symm
              have d36 : a.eval (.tmp 36) = .pointer (some ⟨g6, 3, none⟩) := hdep _ (Array.mem_of_getElem? (i := 0) rfl) rfl _ _ rfl rfl
              exact ⟨rfl, QT.wp_value (v := .int .u64 x.v) (by simp [go_sem, QT.nf d36, cv]) ⟨_, rfl, rfl, Below.refl _ _⟩⟩
            | 5, ho =>
              obtain rfl := (Option.some.inj ho).symm
              have d33 : a.eval (.tmp 33) = .agg S := hdep _ (Array.mem_of_getElem? (i := 0) rfl) rfl _ _ rfl rfl
              have d35 : a.eval (.tmp 35) = .string x.key := hdep _ (Array.mem_of_getElem? (i := 1) rfl) rfl _ _ rfl rfl
              have d37 : a.eval (.tmp 37) = .int .u64 x.v := hdep _ (Array.mem_of_getElem? (i := 2) rfl) rfl _ _ rfl rfl
              exact ⟨rfl, wp_enter_to (f := 9) (args := #[.agg S, .string x.key, .int .u64 x.v]) (R := fun v w' => (.shelf (putL l x.key x.v) : FactP).holds v w' ∧ Below wz.heap.size wz w') (by simp [go_sem, QT.nf d33, QT.nf d35, QT.nf d37]) (code_PutF S l x.key x.v wz (HS.out.below hI hI.size) HLE.out) fun v w' h => ⟨v, rfl, h.1, h.2⟩⟩
            | 6, ho =>
              obtain rfl := (Option.some.inj ho).symm
              exact ⟨rfl, QT.wp_value (BigFrame.run_move (.tmp 4) rfl wz) ⟨_, rfl, t4, Below.refl _ _⟩⟩
            | 7, ho =>
              obtain rfl := (Option.some.inj ho).symm
              exact ⟨rfl, QT.wp_value (v := .pointer (some ⟨g6, 2, none⟩)) (by simp [go_sem, QT.nf t6]) ⟨_, rfl, rfl, Below.refl _ _⟩⟩
            | 8, ho =>
              obtain rfl := (Option.some.inj ho).symm
              have d40 : a.eval (.tmp 40) = .pointer (some ⟨g6, 2, none⟩) := hdep _ (Array.mem_of_getElem? (i := 0) rfl) rfl _ _ rfl rfl
              exact ⟨rfl, QT.wp_value (v := .string x.key) (by simp [go_sem, QT.nf d40, ck]) ⟨_, rfl, rfl, Below.refl _ _⟩⟩
            | 9, ho =>
              obtain rfl := (Option.some.inj ho).symm
              exact ⟨rfl, QT.wp_value (v := .pointer (some ⟨g6, 3, none⟩)) (by simp [go_sem, QT.nf t6]) ⟨_, rfl, rfl, Below.refl _ _⟩⟩
            | 10, ho =>
              obtain rfl := (Option.some.inj ho).symm
              have d42 : a.eval (.tmp 42) = .pointer (some ⟨g6, 3, none⟩) := hdep _ (Array.mem_of_getElem? (i := 0) rfl) rfl _ _ rfl rfl
              exact ⟨rfl, QT.wp_value (v := .int .u64 x.v) (by simp [go_sem, QT.nf d42, cv]) ⟨_, rfl, rfl, Below.refl _ _⟩⟩
            | 11, ho =>
              obtain rfl := (Option.some.inj ho).symm
              have d39 : a.eval (.tmp 39) = .slice ma l.length mcap := hdep _ (Array.mem_of_getElem? (i := 0) rfl) rfl _ _ rfl rfl
              have d41 : a.eval (.tmp 41) = .string x.key := hdep _ (Array.mem_of_getElem? (i := 1) rfl) rfl _ _ rfl rfl
              have d43 : a.eval (.tmp 43) = .int .u64 x.v := hdep _ (Array.mem_of_getElem? (i := 2) rfl) rfl _ _ rfl rfl
              exact ⟨rfl, wp_enter_to (f := 15) (args := #[.slice ma l.length mcap, .string x.key, .int .u64 x.v]) (R := fun v w' => (.list g3 (putL l x.key x.v) : FactP).holds v w' ∧ Below wz.heap.size wz w') (by simp [go_sem, QT.nf d39, QT.nf d41, QT.nf d43]) (ref_PutF _ l x.key x.v g3 wz (HM.out.kept hI) HLE.out (Nat.lt_of_lt_of_le HLT.out.1 hI.size)) fun v w' h => ⟨v, rfl, h.1, h.2⟩⟩
            | n + 12, ho => omega
          · have f0 : a.eval (.tmp 33) = .agg S := hf 0 _ _ (by omega) rfl rfl
            have f1 : a.eval (.tmp 34) = .pointer (some ⟨g6, 2, none⟩) := hf 1 _ _ (by omega) rfl rfl
            have f2 : a.eval (.tmp 35) = .string x.key := hf 2 _ _ (by omega) rfl rfl
            have f3 : a.eval (.tmp 36) = .pointer (some ⟨g6, 3, none⟩) := hf 3 _ _ (by omega) rfl rfl
            have f4 : a.eval (.tmp 37) = .int .u64 x.v := hf 4 _ _ (by omega) rfl rfl
            obtain ⟨u5, f5, y5⟩ := hf 5 _ _ (by omega) rfl rfl
            have f6 : a.eval (.tmp 39) = .slice ma l.length mcap := hf 6 _ _ (by omega) rfl rfl
            have f7 : a.eval (.tmp 40) = .pointer (some ⟨g6, 2, none⟩) := hf 7 _ _ (by omega) rfl rfl
            have f8 : a.eval (.tmp 41) = .string x.key := hf 8 _ _ (by omega) rfl rfl
            have f9 : a.eval (.tmp 42) = .pointer (some ⟨g6, 3, none⟩) := hf 9 _ _ (by omega) rfl rfl
            have f10 : a.eval (.tmp 43) = .int .u64 x.v := hf 10 _ _ (by omega) rfl rfl
            obtain ⟨u11, f11⟩ : ∃ u, a.eval (.tmp 44) = u := ⟨_, rfl⟩
            have y11 := hf 11 _ _ (by omega) rfl rfl
            rw [f11] at y11
            have ha := hag.puts [(33, .agg S), (34, .pointer (some ⟨g6, 2, none⟩)), (35, .string x.key), (36, .pointer (some ⟨g6, 3, none⟩)), (37, .int .u64 x.v), (38, .agg u5), (39, .slice ma l.length mcap), (40, .pointer (some ⟨g6, 2, none⟩)), (41, .string x.key), (42, .pointer (some ⟨g6, 3, none⟩)), (43, .int .u64 x.v), (44, u11)] rfl (by simp) (by simp only [List.forall_mem_cons, List.not_mem_nil, false_implies, implies_true, and_true]; exact ⟨f0, f1, f2, f3, f4, f5, f6, f7, f8, f9, f10, f11⟩)
            subst ha
            clear hag hf f0 f1 f2 f3 f4 f5 f6 f7 f8 f9 f10 f11
            simp only [List.foldl_cons, List.foldl_nil, Act.put, List.drop_succ_cons, List.drop_zero, List.setIfInBounds_toArray, List.set_cons_succ, List.set_cons_zero]
            rename World => w7
            have hR7 := y5.row
            have h37 := (hI.block g3 HLT.out.1).trans H3.out
            have hS7 := y5
            have hM7 := y11.1
            have hown8 := y11.2
            have hb7 := HB.out.trans (hI.mono HB.out.size)
            have hsz : S.size = u5.size := by rw [HR.out.size, hR7.size]
            have HR7 := Lib.hid hR7
            have H37 := Lib.hid h37
            have hS8 := (hS7.store (C := u5) h37)
            have hM8 := at_store (C := u5) hM7 hown8
            have hb8 := below_setRow hb7 HG.out u5
            have h38 := setRow_heap _ _ _ u5 _ _ h37
            have hs8 : (w7.setRow g3 u5).heap.size = w7.heap.size := by simp [World.setRow]
            rw [← hs8] at hS8
            have HS8' := Lib.hid hS8
            have HM8' := Lib.hid hM8
            have HW8' := Lib.hid hown8
            have HB8' := Lib.hid hb8
            have H38' := Lib.hid h38
            clear hI y5 y11 hR7 h37 hS7 hM7 hb7 hS8 hM8 hb8 h38 hs8 hown8
            go_upto_region 24 with (refine wpList_store_row rfl 24 (.tmp 3) (.tmp 38) rfl g3 u5 rfl rfl 24 S H37.out HR7.out.info hsz HR7.out.one ?_)
            have hS8 := HS8'.out
            have hM8 := HM8'.out
            have hown8 := HW8'.out
            have hb8 := HB8'.out
            have h38 := H38'.out
            clear HS8' HM8' HW8' HB8' H38' H37
            generalize w7.setRow g3 u5 = w8 at hS8 hM8 hb8 h38 ⊢
            obtain ⟨mb, mcap2, rfl, _⟩ := hM8.form
            have HS8 := Lib.hid hS8
            have HM8 := Lib.hid hM8
            have HB8 := Lib.hid hb8
            have H38 := Lib.hid h38
            have HR8 := Lib.hid hS8.row
            have HLE8 := Lib.hid (show (putL l x.key x.v).length ≤ i + 1 by have := put_le l x.key x.v; have := HLI.out; omega)
            have HLEN := Lib.hid (code_LenS u5 (putL l x.key x.v) w8 hS8 (by have := HLE8.out; omega))
            have hlt8 := (Array.getElem?_eq_some_iff.1 h38).1
            obtain ⟨m, hm⟩ : ∃ m, (putL l x.key x.v).length = m := ⟨_, rfl⟩
            have HLM := Lib.hid hm
            rw [hm] at HLEN hown8
            rw [hm]
            have HW8 := Lib.hid hown8
            clear hS8 hM8 hown8 hb8 h38 hm
            go_wp2_with (refine wpList_load_row rfl 24 (.tmp 3) rfl g3 rfl 24 u5 (0, 0) _ H38.out Try.underlying24 rfl HR8.out.info ?_)
            refine HLEN.out.mono ?_
            rintro e w9 ⟨rfl, hb9⟩
            have H39 := Lib.hid ((hb9.block g3 hlt8).trans H38.out)
            have HS9 := Lib.hid (HS8.out.below hb9 hb9.size)
            have HM9 := Lib.hid (HM8.out.kept hb9)
            have HB9 := Lib.hid (HB8.out.trans (hb9.mono HB8.out.size))
            rw [HLM.out] at HM9
            clear hb9
            go_wp2_with fail
            go_roundw
            case rel => exact ⟨i + 1, putL l x.key x.v, u5, by omega, HLE8.out, by go_num, H39.out, HS9.out, HM9.out, HW8.out, HB9.out⟩
            case measure => simp [intOf]; omega
        · have b0 : (x.kind == 0) = false := by rw [beq_eq_false_iff_ne]; exact e0
          by_cases e1 : x.kind = 1
          · rw [e1] at k0
            go_upto_region 13 with (fail)
            refine QT.wp_region_facts_tail 8 (by kernel_rfl) (fun w' => Below W.heap.size W w') (fun n v w' => (([.val (.agg S), .val (.pointer (some ⟨g6, 2, none⟩)), .val (.string x.key), .shelf (dropL l x.key), .val (.slice ma l.length mcap), .val (.pointer (some ⟨g6, 2, none⟩)), .val (.string x.key), .list g3 (dropL l x.key)] : List FactP).getD n (.val undef) : FactP).holds v w') (by kernel_rfl) (by kernel_rfl) (Below.refl _ _).drew (fun w1 w2 h1 hb => h1.trans (hb.mono h1.size)) (fun n v w1 w2 h hb => FactP.kept _ v w1 w2 h hb) (fun n o hn ho a wz hI hag hdep => ?_) (fun a wz hI hag hf => ?_)
            · have t3 : a.eval (.tmp 3) = .pointer (some ⟨g3, 0, none⟩) := hag.old 3 _ (by kernel_rfl) rfl
              have t4 : a.eval (.tmp 4) = .slice ma l.length mcap := hag.old 4 _ (by kernel_rfl) rfl
              have t6 : a.eval (.tmp 6) = .pointer (some ⟨g6, 0, none⟩) := hag.old 6 _ (by kernel_rfl) rfl
              have ck : wz.cell? ⟨g6, 2, none⟩ = some (.string x.key) := by rw [Lib.cell_of_heap ((hI.block g6 HLT.out.2).trans H6.out)]; rfl
              have cv : wz.cell? ⟨g6, 3, none⟩ = some (.int .u64 x.v) := by rw [Lib.cell_of_heap ((hI.block g6 HLT.out.2).trans H6.out)]; rfl
              match n, ho with
              | 0, ho =>
                obtain rfl := (Option.some.inj ho).symm
                exact ⟨rfl, wp_load_row 24 (.tmp 3) rfl g3 t3 24 S (0, 0) _ ((hI.block g3 HLT.out.1).trans H3.out) Try.underlying24 rfl HR.out.info ⟨_, rfl, rfl, Below.refl _ _⟩⟩
              | 1, ho =>
                obtain rfl := (Option.some.inj ho).symm
                exact ⟨rfl, QT.wp_value (v := .pointer (some ⟨g6, 2, none⟩)) (by simp [go_sem, QT.nf t6]) ⟨_, rfl, rfl, Below.refl _ _⟩⟩
              | 2, ho =>
                obtain rfl := (Option.some.inj ho).symm
                have d48 : a.eval (.tmp 48) = .pointer (some ⟨g6, 2, none⟩) := hdep _ (Array.mem_of_getElem? (i := 0) rfl) rfl _ _ rfl rfl
                exact ⟨rfl, QT.wp_value (v := .string x.key) (by simp [go_sem, QT.nf d48, ck]) ⟨_, rfl, rfl, Below.refl _ _⟩⟩
              | 3, ho =>
                obtain rfl := (Option.some.inj ho).symm
                have d47 : a.eval (.tmp 47) = .agg S := hdep _ (Array.mem_of_getElem? (i := 0) rfl) rfl _ _ rfl rfl
                have d49 : a.eval (.tmp 49) = .string x.key := hdep _ (Array.mem_of_getElem? (i := 1) rfl) rfl _ _ rfl rfl
                exact ⟨rfl, wp_enter_to (f := 11) (args := #[.agg S, .string x.key]) (R := fun v w' => (.shelf (dropL l x.key) : FactP).holds v w' ∧ Below wz.heap.size wz w') (by simp [go_sem, QT.nf d47, QT.nf d49]) (code_DropF S l x.key wz (HS.out.below hI hI.size) HLE.out) fun v w' h => ⟨v, rfl, h.1, h.2⟩⟩
              | 4, ho =>
                obtain rfl := (Option.some.inj ho).symm
                exact ⟨rfl, QT.wp_value (BigFrame.run_move (.tmp 4) rfl wz) ⟨_, rfl, t4, Below.refl _ _⟩⟩
              | 5, ho =>
                obtain rfl := (Option.some.inj ho).symm
                exact ⟨rfl, QT.wp_value (v := .pointer (some ⟨g6, 2, none⟩)) (by simp [go_sem, QT.nf t6]) ⟨_, rfl, rfl, Below.refl _ _⟩⟩
              | 6, ho =>
                obtain rfl := (Option.some.inj ho).symm
                have d52 : a.eval (.tmp 52) = .pointer (some ⟨g6, 2, none⟩) := hdep _ (Array.mem_of_getElem? (i := 0) rfl) rfl _ _ rfl rfl
                exact ⟨rfl, QT.wp_value (v := .string x.key) (by simp [go_sem, QT.nf d52, ck]) ⟨_, rfl, rfl, Below.refl _ _⟩⟩
              | 7, ho =>
                obtain rfl := (Option.some.inj ho).symm
                have d51 : a.eval (.tmp 51) = .slice ma l.length mcap := hdep _ (Array.mem_of_getElem? (i := 0) rfl) rfl _ _ rfl rfl
                have d53 : a.eval (.tmp 53) = .string x.key := hdep _ (Array.mem_of_getElem? (i := 1) rfl) rfl _ _ rfl rfl
                exact ⟨rfl, wp_enter_to (f := 16) (args := #[.slice ma l.length mcap, .string x.key]) (R := fun v w' => (.list g3 (dropL l x.key) : FactP).holds v w' ∧ Below wz.heap.size wz w') (by simp [go_sem, QT.nf d51, QT.nf d53]) (ref_DropF _ l x.key g3 wz (HM.out.kept hI) HLE.out (Nat.lt_of_lt_of_le HLT.out.1 hI.size) HOWN.out) fun v w' h => ⟨v, rfl, h.1, h.2⟩⟩
              | n + 8, ho => omega
            · have f0 : a.eval (.tmp 47) = .agg S := hf 0 _ _ (by omega) rfl rfl
              have f1 : a.eval (.tmp 48) = .pointer (some ⟨g6, 2, none⟩) := hf 1 _ _ (by omega) rfl rfl
              have f2 : a.eval (.tmp 49) = .string x.key := hf 2 _ _ (by omega) rfl rfl
              obtain ⟨u3, f3, y3⟩ := hf 3 _ _ (by omega) rfl rfl
              have f4 : a.eval (.tmp 51) = .slice ma l.length mcap := hf 4 _ _ (by omega) rfl rfl
              have f5 : a.eval (.tmp 52) = .pointer (some ⟨g6, 2, none⟩) := hf 5 _ _ (by omega) rfl rfl
              have f6 : a.eval (.tmp 53) = .string x.key := hf 6 _ _ (by omega) rfl rfl
              obtain ⟨u7, f7⟩ : ∃ u, a.eval (.tmp 54) = u := ⟨_, rfl⟩
              have y7 := hf 7 _ _ (by omega) rfl rfl
              rw [f7] at y7
              have ha := hag.puts [(47, .agg S), (48, .pointer (some ⟨g6, 2, none⟩)), (49, .string x.key), (50, .agg u3), (51, .slice ma l.length mcap), (52, .pointer (some ⟨g6, 2, none⟩)), (53, .string x.key), (54, u7)] rfl (by simp) (by simp only [List.forall_mem_cons, List.not_mem_nil, false_implies, implies_true, and_true]; exact ⟨f0, f1, f2, f3, f4, f5, f6, f7⟩)
              subst ha
              clear hag hf f0 f1 f2 f3 f4 f5 f6 f7
              simp only [List.foldl_cons, List.foldl_nil, Act.put, List.drop_succ_cons, List.drop_zero, List.setIfInBounds_toArray, List.set_cons_succ, List.set_cons_zero]
              rename World => w7
              have hR7 := y3.row
              have h37 := (hI.block g3 HLT.out.1).trans H3.out
              have hS7 := y3
              have hM7 := y7.1
              have hown8 := y7.2
              have hb7 := HB.out.trans (hI.mono HB.out.size)
              have hsz : S.size = u3.size := by rw [HR.out.size, hR7.size]
              have HR7 := Lib.hid hR7
              have H37 := Lib.hid h37
              have hS8 := (hS7.store (C := u3) h37)
              have hM8 := at_store (C := u3) hM7 hown8
              have hb8 := below_setRow hb7 HG.out u3
              have h38 := setRow_heap _ _ _ u3 _ _ h37
              have hs8 : (w7.setRow g3 u3).heap.size = w7.heap.size := by simp [World.setRow]
              rw [← hs8] at hS8
              have HS8' := Lib.hid hS8
              have HM8' := Lib.hid hM8
              have HW8' := Lib.hid hown8
              have HB8' := Lib.hid hb8
              have H38' := Lib.hid h38
              clear hI y3 y7 hR7 h37 hS7 hM7 hb7 hS8 hM8 hb8 h38 hs8 hown8
              go_upto_region 24 with (refine wpList_store_row rfl 24 (.tmp 3) (.tmp 50) rfl g3 u3 rfl rfl 24 S H37.out HR7.out.info hsz HR7.out.one ?_)
              have hS8 := HS8'.out
              have hM8 := HM8'.out
              have hown8 := HW8'.out
              have hb8 := HB8'.out
              have h38 := H38'.out
              clear HS8' HM8' HW8' HB8' H38' H37
              generalize w7.setRow g3 u3 = w8 at hS8 hM8 hb8 h38 ⊢
              obtain ⟨mb, mcap2, rfl, _⟩ := hM8.form
              have HS8 := Lib.hid hS8
              have HM8 := Lib.hid hM8
              have HB8 := Lib.hid hb8
              have H38 := Lib.hid h38
              have HR8 := Lib.hid hS8.row
              have HLE8 := Lib.hid (show (dropL l x.key).length ≤ i + 1 by have := drop_le l x.key; have := HLI.out; omega)
              have HLEN := Lib.hid (code_LenS u3 (dropL l x.key) w8 hS8 (by have := HLE8.out; omega))
              have hlt8 := (Array.getElem?_eq_some_iff.1 h38).1
              obtain ⟨m, hm⟩ : ∃ m, (dropL l x.key).length = m := ⟨_, rfl⟩
              have HLM := Lib.hid hm
              rw [hm] at HLEN hown8
              rw [hm]
              have HW8 := Lib.hid hown8
              clear hS8 hM8 hown8 hb8 h38 hm
              go_wp2_with (refine wpList_load_row rfl 24 (.tmp 3) rfl g3 rfl 24 u3 (0, 0) _ H38.out Try.underlying24 rfl HR8.out.info ?_)
              refine HLEN.out.mono ?_
              rintro e w9 ⟨rfl, hb9⟩
              have H39 := Lib.hid ((hb9.block g3 hlt8).trans H38.out)
              have HS9 := Lib.hid (HS8.out.below hb9 hb9.size)
              have HM9 := Lib.hid (HM8.out.kept hb9)
              have HB9 := Lib.hid (HB8.out.trans (hb9.mono HB8.out.size))
              rw [HLM.out] at HM9
              clear hb9
              go_wp2_with fail
              go_roundw
              case rel => exact ⟨i + 1, dropL l x.key, u3, by omega, HLE8.out, by go_num, H39.out, HS9.out, HM9.out, HW8.out, HB9.out⟩
              case measure => simp [intOf]; omega
          · have b1 : (x.kind == 1) = false := by rw [beq_eq_false_iff_ne]; exact e1
            by_cases e2 : x.kind = 2
            · rw [e2] at k0
              obtain ⟨z, hz⟩ : ∃ z, (getL l x.key).getD 0 = z := ⟨_, rfl⟩
              obtain ⟨s, hs⟩ : ∃ s, (getL l x.key).isSome = s := ⟨_, rfl⟩
              have HG1 := Lib.hid (fun w hS => code_GetS S l x.key w hS HLE.out)
              have HG2 := Lib.hid (fun v w hM => ref_GetL v l x.key w hM HLE.out)
              rw [hz, hs] at HG1 HG2
              clear hz hs
              have ck : W.cell? ⟨g6, 2, none⟩ = some (.string x.key) := by rw [Lib.cell_of_heap H6.out]; rfl
              go_wp2_with (refine wpList_load_row rfl 24 (.tmp 3) rfl g3 rfl 24 S (0, 0) _ H3.out Try.underlying24 rfl HR.out.info ?_)
              refine (HG1.out W HS.out).mono ?_
              rintro e w7 ⟨rfl, hb7⟩
              have ck7 : w7.cell? ⟨g6, 2, none⟩ = some (.string x.key) := by rw [Lib.cell_of_heap ((hb7.block g6 HLT.out.2).trans H6.out)]; rfl
              have HM7 := Lib.hid (HM.out.kept hb7)
              have HB7 := Lib.hid hb7
              clear ck hb7
              go_wp2_with fail
              refine (HG2.out _ w7 HM7.out).mono ?_
              rintro e w8 ⟨rfl, hb8'⟩
              have hbb := HB7.out.trans (hb8'.mono HB7.out.size)
              have HSx := Lib.hid (HS.out.below hbb hbb.size)
              have HMx := Lib.hid (HM.out.kept hbb)
              have HBx := Lib.hid (HB.out.trans (hbb.mono HB.out.size))
              have H3x := Lib.hid ((hbb.block g3 HLT.out.1).trans H3.out)
              clear hb8' hbb ck7
              go_upto_region 24 with (fail)
              have hS8 := HSx.out
              have hM8 := HMx.out
              have hown8 := HOWN.out
              have hb8 := HBx.out
              have h38 := H3x.out
              clear HSx HMx HBx H3x
              have HS8 := Lib.hid hS8
              have HM8 := Lib.hid hM8
              have HB8 := Lib.hid hb8
              have H38 := Lib.hid h38
              have HR8 := Lib.hid hS8.row
              have HLE8 := Lib.hid (show (l).length ≤ i + 1 by have := HLI.out; omega)
              have HLEN := Lib.hid (code_LenS S (l) w8 hS8 (by have := HLE8.out; omega))
              have hlt8 := (Array.getElem?_eq_some_iff.1 h38).1
              obtain ⟨m, hm⟩ : ∃ m, (l).length = m := ⟨_, rfl⟩
              have HLM := Lib.hid hm
              rw [hm] at HLEN hown8
              rw [hm]
              have HW8 := Lib.hid hown8
              clear hS8 hM8 hown8 hb8 h38 hm
              go_wp2_with (refine wpList_load_row rfl 24 (.tmp 3) rfl g3 rfl 24 S (0, 0) _ H38.out Try.underlying24 rfl HR8.out.info ?_)
              refine HLEN.out.mono ?_
              rintro e w9 ⟨rfl, hb9⟩
              have H39 := Lib.hid ((hb9.block g3 hlt8).trans H38.out)
              have HS9 := Lib.hid (HS8.out.below hb9 hb9.size)
              have HM9 := Lib.hid (HM8.out.kept hb9)
              have HB9 := Lib.hid (HB8.out.trans (hb9.mono HB8.out.size))
              rw [HLM.out] at HM9
              clear hb9
              go_wp2_with fail
              go_roundw
              case rel => exact ⟨i + 1, l, S, by omega, HLE8.out, by go_num, H39.out, HS9.out, HM9.out, HW8.out, HB9.out⟩
              case measure => simp [intOf]; omega
            · have b2 : (x.kind == 2) = false := by rw [beq_eq_false_iff_ne]; exact e2
              by_cases e3 : x.kind = 3
              · rw [e3] at k0
                obtain ⟨nk, nv, nb, hn⟩ := nextV_form (nextL l x.key)
                have HG1 := Lib.hid (fun w hS => code_NextS S l x.key w hS HLE.out)
                have HG2 := Lib.hid (fun v w hM => ref_NextL v l x.key w hM HLE.out)
                rw [hn] at HG1 HG2
                clear hn
                have ck : W.cell? ⟨g6, 2, none⟩ = some (.string x.key) := by rw [Lib.cell_of_heap H6.out]; rfl
                go_wp2_with (refine wpList_load_row rfl 24 (.tmp 3) rfl g3 rfl 24 S (0, 0) _ H3.out Try.underlying24 rfl HR.out.info ?_)
                refine (HG1.out W HS.out).mono ?_
                rintro e w7 ⟨rfl, hb7⟩
                have ck7 : w7.cell? ⟨g6, 2, none⟩ = some (.string x.key) := by rw [Lib.cell_of_heap ((hb7.block g6 HLT.out.2).trans H6.out)]; rfl
                have HM7 := Lib.hid (HM.out.kept hb7)
                have HB7 := Lib.hid hb7
                clear ck hb7
                go_wp2_with fail
                refine (HG2.out _ w7 HM7.out).mono ?_
                rintro e w8 ⟨rfl, hb8'⟩
                have hbb := HB7.out.trans (hb8'.mono HB7.out.size)
                have HSx := Lib.hid (HS.out.below hbb hbb.size)
                have HMx := Lib.hid (HM.out.kept hbb)
                have HBx := Lib.hid (HB.out.trans (hbb.mono HB.out.size))
                have H3x := Lib.hid ((hbb.block g3 HLT.out.1).trans H3.out)
                clear hb8' hbb ck7
                go_upto_region 24 with (fail)
                have hS8 := HSx.out
                have hM8 := HMx.out
                have hown8 := HOWN.out
                have hb8 := HBx.out
                have h38 := H3x.out
                clear HSx HMx HBx H3x
                have HS8 := Lib.hid hS8
                have HM8 := Lib.hid hM8
                have HB8 := Lib.hid hb8
                have H38 := Lib.hid h38
                have HR8 := Lib.hid hS8.row
                have HLE8 := Lib.hid (show (l).length ≤ i + 1 by have := HLI.out; omega)
                have HLEN := Lib.hid (code_LenS S (l) w8 hS8 (by have := HLE8.out; omega))
                have hlt8 := (Array.getElem?_eq_some_iff.1 h38).1
                obtain ⟨m, hm⟩ : ∃ m, (l).length = m := ⟨_, rfl⟩
                have HLM := Lib.hid hm
                rw [hm] at HLEN hown8
                rw [hm]
                have HW8 := Lib.hid hown8
                clear hS8 hM8 hown8 hb8 h38 hm
                go_wp2_with (refine wpList_load_row rfl 24 (.tmp 3) rfl g3 rfl 24 S (0, 0) _ H38.out Try.underlying24 rfl HR8.out.info ?_)
                refine HLEN.out.mono ?_
                rintro e w9 ⟨rfl, hb9⟩
                have H39 := Lib.hid ((hb9.block g3 hlt8).trans H38.out)
                have HS9 := Lib.hid (HS8.out.below hb9 hb9.size)
                have HM9 := Lib.hid (HM8.out.kept hb9)
                have HB9 := Lib.hid (HB8.out.trans (hb9.mono HB8.out.size))
                rw [HLM.out] at HM9
                clear hb9
                go_wp2_with fail
                go_roundw
                case rel => exact ⟨i + 1, l, S, by omega, HLE8.out, by go_num, H39.out, HS9.out, HM9.out, HW8.out, HB9.out⟩
                case measure => simp [intOf]; omega
              · have b3 : (x.kind == 3) = false := by rw [beq_eq_false_iff_ne]; exact e3
                go_upto_region 24 with (fail)
                have hS8 := HS.out
                have hM8 := HM.out
                have hown8 := HOWN.out
                have hb8 := HB.out
                have h38 := H3.out
                have HS8 := Lib.hid hS8
                have HM8 := Lib.hid hM8
                have HB8 := Lib.hid hb8
                have H38 := Lib.hid h38
                have HR8 := Lib.hid hS8.row
                have HLE8 := Lib.hid (show (l).length ≤ i + 1 by have := HLI.out; omega)
                have HLEN := Lib.hid (code_LenS S (l) W hS8 (by have := HLE8.out; omega))
                have hlt8 := (Array.getElem?_eq_some_iff.1 h38).1
                obtain ⟨m, hm⟩ : ∃ m, (l).length = m := ⟨_, rfl⟩
                have HLM := Lib.hid hm
                rw [hm] at HLEN hown8
                rw [hm]
                have HW8 := Lib.hid hown8
                clear hS8 hM8 hown8 hb8 h38 hm
                go_wp2_with (refine wpList_load_row rfl 24 (.tmp 3) rfl g3 rfl 24 S (0, 0) _ H38.out Try.underlying24 rfl HR8.out.info ?_)
                refine HLEN.out.mono ?_
                rintro e w9 ⟨rfl, hb9⟩
                have H39 := Lib.hid ((hb9.block g3 hlt8).trans H38.out)
                have HS9 := Lib.hid (HS8.out.below hb9 hb9.size)
                have HM9 := Lib.hid (HM8.out.kept hb9)
                have HB9 := Lib.hid (HB8.out.trans (hb9.mono HB8.out.size))
                rw [HLM.out] at HM9
                clear hb9
                go_wp2_with fail
                go_roundw
                case rel => exact ⟨i + 1, l, S, by omega, HLE8.out, by go_num, H39.out, HS9.out, HM9.out, HW8.out, HB9.out⟩
                case measure => simp [intOf]; omega
      · obtain rfl : i = L.length := by omega
        have hlti : ¬ ((L.length : Int) < (L.length : Int)) := by omega
        obtain ⟨ma, mcap, rfl, hmc⟩ := hM.form
        have HS := Lib.hid hS
        have HM := Lib.hid hM
        have HB := Lib.hid hb
        have H3 := Lib.hid h3
        have HIS := Lib.hid (ref_is S l _ wr hS hM (by omega))
        clear hS hM hb h3 hown
        go_wp2_with (refine wpList_load_row rfl 24 (.tmp 3) rfl g3 rfl 24 S (0, 0) _ H3.out Try.underlying24 rfl HR.out.info ?_)
        refine HIS.out.mono ?_
        rintro e w7 ⟨rfl, hb7⟩
        have HB7 := Lib.hid (HB.out.trans (hb7.mono HB.out.size))
        clear hb7
        go_wp2_with fail
        go_ret
        exact ⟨rfl, HB7.out⟩

end Go.Proofs.Ytpepijoppgbbfaa.Shf

