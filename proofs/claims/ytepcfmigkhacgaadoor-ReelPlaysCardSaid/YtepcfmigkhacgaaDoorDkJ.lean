/- disk: Crash. -/
import Derived.Test.YtepcfmigkhacgaaDoorDkI
import Derived.Test.YtepcfmigkhacgaaDoorQOne
import Derived.StillTailTactics
import Derived.Deep.Cut
import Derived.Deep.WholeRow
namespace Go.Proofs.YtepcfmigkhacgaaDoor.Dk
open Go.RowKit Go.Proofs.YtepcfmigkhacgaaDoor.Gr

/-- What the calls ask of a disk. -/
structure Good (S : St) : Prop extends Fits S where
  sure : ∀ s ∈ S.sure, s.size ≤ 1048576
  chs : ∀ c ∈ S.loose, c.file < 64 ∧ c.at_ + c.s.size ≤ 1048576

theorem files_zero : (Tryd.prog.info? 82).map (fun i => (i.zero, i.size)) = some (some (.agg (List.replicate 64 (Value.slice none 0 0)).toArray), 64) := by kernel_rfl
theorem files_new (w : World) : FilesAt (w.heap.size + 1) (w.alloc (.cells (List.replicate 64 (Value.slice none 0 0)).toArray 82)) w.heap.size (List.replicate 64 (Value.slice none 0 0)) (List.replicate 64 none) where
  heap := heap_alloc_new _ _
  lenV := List.length_replicate ..
  lenX := List.length_replicate ..
  fNone f hf := by
    have := (List.getElem?_eq_some_iff.1 hf).1
    rw [List.length_replicate] at this
    rw [List.getElem?_replicate, if_pos this]
  fSome f b hb := by
    rw [List.getElem?_replicate] at hb
    split at hb <;> simp at hb
  apart f g k _ hk := by
    rw [List.getD_eq_getElem?_getD, List.getElem?_replicate] at hk
    split at hk <;> simp [Value.ownBlock, undef] at hk
  new f k hk := by
    rw [List.getD_eq_getElem?_getD, List.getElem?_replicate] at hk
    split at hk <;> simp [Value.ownBlock, undef] at hk

theorem getX_len (sure : List ByteArray) (X : List Fl) (f n : Nat) (hX : ∀ b, X.getD f none = some b → b.length ≤ n) (hs : ∀ s ∈ sure, s.size ≤ n) : (getX sure X f).length ≤ n := by
  unfold getX
  cases h : X.getD f none with
  | some b => exact hX b h
  | none =>
    show (sure.getD f ⟨#[]⟩).data.toList.length ≤ n
    rw [Array.length_toList]
    show (sure.getD f ⟨#[]⟩).size ≤ n
    rw [List.getD_eq_getElem?_getD]
    cases hq : sure[f]? with
    | none => exact Nat.zero_le _
    | some s => exact hs s (List.mem_of_getElem? hq)
theorem crashN_small (sure : List ByteArray) (keep : List Int) (L : List Ch) (hs : ∀ s ∈ sure, s.size ≤ 1048576) (hL : ∀ c ∈ L, c.file < 64 ∧ c.at_ + c.s.size ≤ 1048576) : ∀ (n f : Nat) (b : List UInt8), (crashN sure keep L n).getD f none = some b → b.length ≤ 1048576
  | 0, f, b, h => by
    unfold crashN at h
    rw [List.getD_eq_getElem?_getD, List.getElem?_replicate] at h
    split at h <;> simp at h
  | n + 1, f, b, h => by
    unfold crashN at h
    split at h
    · rename_i c hc
      unfold stepX at h
      by_cases e : c.file = f
      · rw [e, List.getD_eq_getElem?_getD] at h
        by_cases hl : f < (crashN sure keep L n).length
        · rw [List.getElem?_set_self hl] at h
          simp only [Option.getD_some, Option.some.injEq] at h
          rw [← h]
          have := hL c (List.mem_of_getElem? hc)
          exact doneB_len _ _ _ _ (getX_len _ _ _ _ (crashN_small sure keep L hs hL n _) hs) this.2
        · rw [List.getElem?_eq_none (by simpa using hl)] at h
          simp at h
      · rw [List.getD_eq_getElem?_getD, List.getElem?_set_ne e, ← List.getD_eq_getElem?_getD] at h
        exact crashN_small sure keep L hs hL n f b h
    · exact crashN_small sure keep L hs hL n f b h

/-- What an operation leaves. -/
inductive FactD where
  | val (v : Value)
  | bytes (ok : Nat → Prop) (xs : List UInt8)
def FactD.holds : FactD → Value → World → Prop
  | .val v0, v, _ => v = v0
  | .bytes ok xs, v, w => BAt w v xs ∧ ∀ i, v.ownBlock = some i → ok i
theorem FactD.kept (f : FactD) (v : Value) (w w' : World) (h : f.holds v w) (hb : Below w.heap.size w w') : f.holds v w' := by
  cases f with
  | val v0 => exact h
  | bytes ok xs => exact ⟨h.1.frm (F := fun _ => False) (Frm.of_below hb) (fun _ _ => id), h.2⟩

theorem wp_to {P : Program} {o : Oper} {a : Act} {w : World} {K : Act → World → Prop} {Q : Exit → Act → World → Prop} {f : FuncId} {args : Array Value} {R : Value → World → Prop} (h : (execOp a.eval o).run P w = .ok (.enter f args) w) (hc : Calls P f args w fun e w' => ∃ v, e = .returned v ∧ R v w') (hk : ∀ v w', R v w' → K (a.put o.dst v) w') : o.wp P a w K Q := by
  unfold Oper.wp
  rw [h]
  exact hc.mono fun e w' ⟨v, he, hr⟩ => by subst he; exact hk v w' hr
theorem getX_some {sure : List ByteArray} {X : List Fl} {f : Nat} {b : List UInt8} (h : X.getD f none = some b) : getX sure X f = b := by unfold getX; rw [h]; rfl
theorem getX_none {sure : List ByteArray} {X : List Fl} {f : Nat} {s : ByteArray} (h : X.getD f none = none) (hs : sure.getD f ⟨#[]⟩ = s) : getX sure X f = s.data.toList := by unfold getX; rw [h, hs]; rfl
theorem crashN_step {sure : List ByteArray} {keep : List Int} {L : List Ch} {i : Nat} {x : Ch} (h : L[i]? = some x) : crashN sure keep L (i + 1) = stepX sure (crashN sure keep L i) x (keptN keep i) := by
  rw [crashN, h]

theorem setCells_row {w : World} {g : Nat} {L : List Value} {t : TypeId} {fr : Nat × Nat} (h : w.heap[g]? = some (.cells L.toArray t fr)) (o : Nat) (vs : List Value) (hl : o + vs.length ≤ L.length) : (w.setCells g o vs).heap[g]? = some (.cells (L.take o ++ vs ++ L.drop (o + vs.length)).toArray t fr) := by
  obtain ⟨cur', h1, h2⟩ := setCells_heap g t fr vs o w _ h
  rw [h1]
  congr 2
  apply Array.ext'
  apply List.ext_getElem?
  intro j
  have e1 : (w.setCells g o vs).cell? ⟨g, j, none⟩ = cur'.toList[j]? := by rw [Lib.cell_of_heap h1, Array.getElem?_toList]
  rw [← e1]
  have hin : ∀ t, t < vs.length → (w.cell? ⟨g, o + t, none⟩).isSome = true := fun t ht => by
    rw [Lib.cell_of_heap h, List.getElem?_toArray, List.getElem?_eq_getElem (by omega)]
    rfl
  rcases Nat.lt_or_ge j o with hj | hj
  · rw [World.cell?_setCells_out g _ _ _ _ (fun _ _ => Or.inl hj), Lib.cell_of_heap h, List.getElem?_toArray, List.append_assoc, List.getElem?_append_left (by rw [List.length_take]; omega), List.getElem?_take_of_lt hj]
  · rcases Nat.lt_or_ge j (o + vs.length) with hv | hv
    · have e := World.cell?_setCells_in g vs o w hin (j - o) (by omega)
      rw [show o + (j - o) = j by omega] at e
      have hlt : (L.take o).length = o := by rw [List.length_take]; omega
      rw [e, List.append_assoc, List.getElem?_append_right (by omega), hlt, List.getElem?_append_left (by omega), List.getElem?_eq_getElem (by omega)]
    · rw [World.cell?_setCells_out g _ _ _ _ (fun _ _ => Or.inr hv), Lib.cell_of_heap h, List.getElem?_toArray, List.getElem?_append_right (by rw [List.length_append, List.length_take]; omega), List.length_append, List.length_take, List.getElem?_drop]
      congr 1
      omega
theorem Left.copy {w w' : World} {g : Nat} {lv lv' : Value} {S : St} (h : Left w g lv S w' lv') : Left w g lv { S with now := S.sure } (w'.setCells g 0 (S.sure.map .string)) lv' := by
  have h1 := h.at_.now
  have h2 := h.at_.sure
  refine ⟨⟨?_, h2, h2, own_frm (F := fun k => k = g) h.at_.own (Frm.setCells (F := fun k => k = g) (Or.inl rfl) _ _ _ (Frm.refl _ _)) (fun k hk e => h.at_.ne (by rw [hk, e]))⟩, Frm.setCells (Or.inl (Or.inl rfl)) _ _ _ h.frm, h.foot⟩
  have := setCells_row h.at_.heap 0 (S.sure.map .string) (by rw [vals_len h1 h2, List.length_map]; omega)
  rw [this]
  congr 3
  rw [List.take_zero, List.nil_append, List.length_map, h2]
  unfold St.vals
  rw [List.drop_append_of_le_length (by rw [List.length_map]; omega), List.drop_of_length_le (by rw [List.length_map]; omega), List.nil_append]
theorem Left.none {w w' : World} {g : Nat} {lv lv' : Value} {S : St} (h : Left w g lv S w' lv') : Left w g lv { S with loose := [] } (w'.setCell ⟨g, 128, .none⟩ (.slice .none 0 0)) (.slice .none 0 0) := by
  refine ⟨⟨?_, h.at_.now, h.at_.sure, Kind.Own.nil _ _⟩, h.frm.setCell (Or.inl (Or.inl rfl)) _, fun i hi => by simp [Value.ownBlock] at hi⟩
  rw [vals_set (T := { S with loose := [] }) (lu := .slice .none 0 0) _ h.at_.heap]
  · exact setRow_heap _ _ _ _ _ _ h.at_.heap
  · rw [set_rest lv' h.at_.now h.at_.sure 0]
    rfl
theorem neq_nil {t : TypeId} (e : TypeId) (ht : Tryd.prog.underlying t = some (.slice e)) (w : World) (a : Option Addr) (n c : Nat) : (binOp .neq t (.slice a n c) (.slice none 0 0)).run Tryd.prog w = .ok (.bool (!a.isNone)) w := Go.run_neq_slice_nil w t e a n c ht
theorem slice_size (w : World) : (sizeOf 81).run Tryd.prog w = .ok 1 w := by
  have h : (Tryd.prog.info? 81).map (·.size) = some 1 := by kernel_rfl
  cases hq : Tryd.prog.info? 81 with
  | none => simp [hq] at h
  | some i =>
    have hz : i.size = 1 := by simpa [hq] using h
    simp [sizeOf, typeInfo, hq, hz]
theorem index_row {P : Program} {t e : TypeId} {n : Nat} (ht : P.underlying t = some (.array n e)) {w : World} (h2 : (isAgg e).run P w = .ok false w) (h3 : (sizeOf e).run P w = .ok 1 w) {cs : Array Value} {f : Nat} {v : Value} (hf : f < n) (hv : cs[f]? = some v) (k : IntKind) : (Instr.index t (.agg cs) (.int k f)).run P w = .ok v w := by
  have h4 : (0 : Int) ≤ (f : Int) ∧ (f : Int) < (n : Int) := by omega
  simp only [Instr.index, asIntOf, Sem.run_bind, Sem.run_pure, Result.andThen_ok, run_underlying ht]
  rw [if_pos h4]
  simp only [Sem.run_bind, h3, Result.andThen_ok, part, h2, Int.toNat_natCast, Nat.mul_one]
  simp [hv]
theorem index_files (V : List Value) (hl : V.length = 64) (f : Nat) (hf : f < 64) (w : World) : (Instr.index 82 (.agg V.toArray) (.int .i64 f)).run Tryd.prog w = .ok (V.getD f undef) w :=
  index_row Tryd.underlying82 (by simp [isAgg, run_underlying Tryd.underlying81]) (slice_size w) hf (by rw [List.getElem?_toArray, List.getD_eq_getElem?_getD, List.getElem?_eq_getElem (by omega)]; rfl) _
theorem mergeN_none {sure : List ByteArray} {X : List Fl} {f : Nat} (h : X.getD f none = none) : mergeN sure X (f + 1) = mergeN sure X f := by rw [mergeN, h]
theorem mergeN_some {sure : List ByteArray} {X : List Fl} {f : Nat} {b : List UInt8} (h : X.getD f none = some b) : mergeN sure X (f + 1) = (mergeN sure X f).set f ⟨b.toArray⟩ := by rw [mergeN, h]

set_option maxRecDepth 100000 in
set_option maxHeartbeats 3200000 in
theorem code_Crash (g : Nat) (lv : Value) (S : St) (kv : Value) (keep : List Int) (w : World) (h : DAt w g lv S) (hS : Good S) (hK : KI.At w kv keep) :
    Calls Tryd.prog 16 #[.pointer (some ⟨g, 0, none⟩), kv] w fun e w' => e = .returned (.int .i64 0) ∧ Left w g lv (crashS S keep) w' (.slice none 0 0) := by
  have hz := zero_run (P := Tryd.prog) (t := 82) (z := .agg (List.replicate 64 (Value.slice none 0 0)).toArray) (by kernel_rfl)
  obtain ⟨ka, kc, rfl, hkc⟩ := hK.form
  obtain ⟨kn, hkn⟩ : ∃ m, keep.length = m := ⟨_, rfl⟩
  rw [hkn] at hK ⊢
  have HF0 := Lib.hid (files_new (w.alloc (.cells #[.slice ka kn kc] 35)))
  have hb2 : Below w.heap.size w ((w.alloc (.cells #[.slice ka kn kc] 35)).alloc (.cells (List.replicate 64 (Value.slice none 0 0)).toArray 82)) := ((Below.refl _ _).alloc (Nat.le_refl _) _).alloc (by simp) _
  have hp0 : ((w.alloc (.cells #[.slice ka kn kc] 35)).alloc (.cells (List.replicate 64 (Value.slice none 0 0)).toArray 82)).heap[w.heap.size]? = some (.cells #[.slice ka kn kc] 35 (0, 0)) := by
    rw [heap_alloc_old _ _ (by simp)]
    exact heap_alloc_new _ _
  have hs1 : (w.alloc (.cells #[.slice ka kn kc] 35)).heap.size = w.heap.size + 1 := by simp
  rw [hs1] at HF0
  generalize hV0 : List.replicate 64 (Value.slice none 0 0) = V0 at hz HF0 hb2 hp0
  obtain ⟨W0, hW0⟩ : ∃ W, (w.alloc (.cells #[.slice ka kn kc] 35)).alloc (.cells V0.toArray 82) = W := ⟨_, rfl⟩
  rw [hW0] at HF0 hb2 hp0
  obtain ⟨n, hn⟩ : ∃ n, S.loose.length = n := ⟨_, rfl⟩
  obtain ⟨la, lc, hlv⟩ : ∃ a c, lv = .slice a n c := by
    rw [← hn]
    rcases h.own.form with ⟨h1, h2⟩ | ⟨l, cap, h1, _⟩
    · exact ⟨none, 0, by rw [h2]; exact h1⟩
    · exact ⟨_, _, h1⟩
  obtain ⟨XF, hXF⟩ : ∃ X, crashN S.sure keep S.loose n = X := ⟨_, rfl⟩
  have hcr : crashS S keep = { now := mergeN S.sure XF 64, sure := mergeN S.sure XF 64, loose := [], on := true, lasts := -1, ops := S.ops } := by
    unfold crashS crashQ
    rw [hn, hXF]
  rw [hcr]
  have HXF := Lib.hid hXF
  clear hcr hXF
  have HB2 := Lib.hid hb2
  have HP0 := Lib.hid hp0
  have hd2 : DAt W0 g lv S := h.kept (F := fun _ => False) (Frm.of_below hb2) id (fun _ _ => id)
  have HD := Lib.hid h
  have HK := Lib.hid hK
  have hc1 := hd2.cLoose
  have HGN := Lib.hid (show g < w.heap.size from h.lt)
  have HS := Lib.hid hS
  have HN := Lib.hid hn
  have HLV := Lib.hid hlv
  have hLB : ∀ i, lv.ownBlock = some i → i < w.heap.size := fun i hi => by
    obtain ⟨cs, hc⟩ := own_type h.own i hi
    exact (Array.getElem?_eq_some_iff.1 hc).1
  have HLB := Lib.hid hLB
  rw [hlv] at hc1
  obtain ⟨p0, hpe⟩ : ∃ p0, w.heap.size = p0 := ⟨_, rfl⟩
  have HW := Lib.hid hpe
  rw [hpe] at HF0 HP0
  have HW0 := Lib.hid hW0
  clear hd2 hb2 hp0 h hS hK hV0 hn hs1 hlv hLB hkc hkn
  go_enter Tryd.func16, Tryd.ntmps16
  go_upto_region 5 with fail
  obtain ⟨p1, hp1⟩ : ∃ p1, p0 + 1 = p1 := ⟨_, rfl⟩
  rw [hp1] at HF0
  rw [hp1]
  have HP1 := Lib.hid hp1
  clear hp1 hz hpe hW0 HW0
  go_wp2_with fail
  go_loopw [19] (fun iv wr => ∃ (i : Nat) (V : List Value), i ≤ n ∧ iv = .int .i64 i ∧ FilesAt (p1 + 1) wr p1 V (crashN S.sure keep S.loose i) ∧ wr.heap[p0]? = some (.cells #[.slice ka kn kc] 35 (0, 0)) ∧ Below w.heap.size w wr ∧ p1 < wr.heap.size) (fun iv _ => n - (intOf iv).toNat)
  case atStart => exact ⟨0, V0, Nat.zero_le _, rfl, HF0.out, HP0.out, HB2.out, HF0.out.lt⟩
  case round =>
    obtain ⟨i, V, hi, rfl, hF, hP, hB, hp1⟩ := hrel
    by_cases hlt : i < n
    · have hlt2 : (i : Int) < (n : Int) := by omega
      have hfw := Frm.of_below (F := fun _ => False) hB
      have hd := HD.out.kept hfw id (fun _ _ => id)
      have hat := hd.own.reads
      rw [HLV.out] at hat
      obtain ⟨l, o, c', hav, _, hr⟩ := hat.some (by rw [HN.out]; omega)
      injection hav with hav1 hav2 hav3
      subst hav1
      clear hav2 hav3
      have hx := List.getElem?_eq_getElem (show i < S.loose.length by rw [HN.out]; exact hlt)
      obtain ⟨x, hxx⟩ : ∃ x, S.loose[i]'(by rw [HN.out]; exact hlt) = x := ⟨_, rfl⟩
      rw [hxx] at hx
      have hgx := HS.out.chs x (List.mem_of_getElem? hx)
      have HRX := Lib.hid (at_ch hr hx)
      have HX := Lib.hid hx
      have hxf : x.file < 64 := hgx.1
      have hxf2 : (x.file : Int) < 64 := by omega
      have hw2 : Below wr.heap.size wr (wr.alloc (.cells #[.int .i64 x.file, .int .i64 x.at_, .bool x.cut, .string x.s] 84)) := (Below.refl _ _).alloc (Nat.le_refl _) _
      have hq := heap_alloc_new wr (.cells #[.int .i64 x.file, .int .i64 x.at_, .bool x.cut, .string x.s] 84)
      have HQL := Lib.hid (show wr.heap.size < (wr.alloc (.cells #[.int .i64 x.file, .int .i64 x.at_, .bool x.cut, .string x.s] 84)).heap.size by simp)
      have hp0l := (Array.getElem?_eq_some_iff.1 hP).1
      have HGX := Lib.hid hgx
      clear hr hx hxx hat hgx
      go_upto_region 8 with (refine wpList_load_mid rfl 84 (.tmp 22) rfl l (o + i * 4) rfl [.int .i64 x.file, .int .i64 x.at_, .bool x.cut, .string x.s] _ HRX.out Tryd.underlying84 rfl (by kernel_rfl) ?_)
      generalize wr.alloc (.cells #[.int .i64 x.file, .int .i64 x.at_, .bool x.cut, .string x.s] 84) = w2 at hw2 hq HQL ⊢
      obtain ⟨q, hqe⟩ : ∃ q, wr.heap.size = q := ⟨_, rfl⟩
      have hf2 := hF.frm (F := fun _ => False) (Frm.of_below hw2) id (fun _ _ _ => id)
      have hB2 := hB.trans (hw2.mono hB.size)
      have hP2 := (hw2.block p0 hp0l).trans hP
      have hd2 : DAt w2 g lv S := HD.out.kept (F := fun _ => False) (Frm.of_below hB2) id (fun _ _ => id)
      have HCS := Lib.hid (hd2.cSure (hd2.fileS hxf))
      have HGL := Lib.hid hd2.lt
      have HP2 := Lib.hid hP2
      have HBB := Lib.hid hB2
      have HF2 := Lib.hid hf2
      have c0 := Lib.cell_of_heap hq 0
      have HPQ := Lib.hid (show p0 < wr.heap.size ∧ p1 < wr.heap.size ∧ p0 ≠ p1 ∧ w.heap.size ≤ p1 ∧ p1 + 1 ≤ w2.heap.size ∧ w.heap.size ≤ p0 ∧ p1 < w2.heap.size ∧ p0 < w2.heap.size by have h1 := HW.out; have h2 := HP1.out; have h3 := hw2.size; omega)
      rw [hqe] at hq HQL c0 HPQ
      rw [hqe]
      have HQ := Lib.hid hq
      have hcv := hf2.cell hxf
      have hval := hf2.val hxf
      obtain ⟨s, hs⟩ : ∃ s, S.sure.getD x.file ⟨#[]⟩ = s := ⟨_, rfl⟩
      rw [hs] at HCS
      have HSD := Lib.hid hs
      have HSS := Lib.hid (show s.size ≤ 140737488355328 by
        rw [← hs]
        have := HS.out.sure _ (List.mem_of_getElem? (hd2.fileS hxf))
        omega)
      have heq := eql_nil 5 Tryd.underlying81
      obtain ⟨X, hX⟩ : ∃ X, crashN S.sure keep S.loose i = X := ⟨_, rfl⟩
      have HCN := Lib.hid hX
      rw [hX] at HF2 hval
      clear hF hP hB hp1 hfw hd hw2 hf2 hB2 hP2 hd2 hq hqe HRX hp0l hs hX
      rcases hval with ⟨hx0, hv0⟩ | ⟨b, hxb, hvb⟩
      · rw [hv0] at hcv
        have HX0 := Lib.hid hx0
        have HV0 := Lib.hid hv0
        clear hx0 hv0
        go_upto_region 9 with fail
        refine QT.wp_region_facts_tail 10 (by kernel_rfl) (fun w' => Below w2.heap.size w2 w') (fun n v w' => (([.val (.pointer (some ⟨q, 0, none⟩)), .val (.int .i64 x.file), .val (.pointer (some ⟨g, 0, none⟩)), .val (.pointer (some ⟨q, 0, none⟩)), .val (.int .i64 x.file), .val (.pointer (some ⟨g, 0, none⟩)), .val (.pointer (some ⟨g, 64, none⟩)), .val (.pointer (some ⟨g, 64 + x.file, none⟩)), .val (.string s), .bytes (fun i => w2.heap.size ≤ i) s.data.toList] : List FactD).getD n (.val undef) : FactD).holds v w') (by kernel_rfl) (by kernel_rfl) (Below.refl _ _).drew (fun w1 w2 h1 hb => h1.trans (hb.mono h1.size)) (fun n v w1 w2 h hb => FactD.kept _ v w1 w2 h hb) (fun n o hn ho a wz hI hag hdep => ?_) (fun a wz hI hag hf => ?_)
        · have t0 : a.eval (.tmp 0) = .pointer (some ⟨g, 0, none⟩) := hag.old 0 _ (by kernel_rfl) rfl
          have t6 : a.eval (.tmp 6) = .pointer (some ⟨p1, 0, none⟩) := hag.old 6 _ (by kernel_rfl) rfl
          have t8 : a.eval (.tmp 8) = .pointer (some ⟨q, 0, none⟩) := hag.old 8 _ (by kernel_rfl) rfl
          have c0 : wz.cell? ⟨q, 0, none⟩ = some (.int .i64 x.file) := by rw [Lib.cell_of_heap ((hI.block q HQL.out).trans HQ.out)]; rfl
          have cs : wz.cell? ⟨g, 64 + x.file, none⟩ = some (.string s) := (hI.cell (p := ⟨g, 64 + x.file, none⟩) HGL.out).trans HCS.out
          match n, ho with
          | 0, ho =>
            obtain rfl := (Option.some.inj ho).symm
            exact ⟨rfl, QT.wp_value (v := .pointer (some ⟨q, 0, none⟩)) (by simp [go_sem, QT.nf t8]) ⟨_, rfl, rfl, Below.refl _ _⟩⟩
          | 1, ho =>
            obtain rfl := (Option.some.inj ho).symm
            have d29 : a.eval (.tmp 29) = .pointer (some ⟨q, 0, none⟩) := hdep _ (Array.mem_of_getElem? (i := 0) rfl) rfl _ _ rfl rfl
            exact ⟨rfl, QT.wp_value (v := .int .i64 x.file) (by simp [go_sem, QT.nf d29, c0]) ⟨_, rfl, rfl, Below.refl _ _⟩⟩
          | 2, ho =>
            obtain rfl := (Option.some.inj ho).symm
            exact ⟨rfl, QT.wp_value (BigFrame.run_move (.tmp 0) rfl wz) ⟨_, rfl, t0, Below.refl _ _⟩⟩
          | 3, ho =>
            obtain rfl := (Option.some.inj ho).symm
            exact ⟨rfl, QT.wp_value (v := .pointer (some ⟨q, 0, none⟩)) (by simp [go_sem, QT.nf t8]) ⟨_, rfl, rfl, Below.refl _ _⟩⟩
          | 4, ho =>
            obtain rfl := (Option.some.inj ho).symm
            have d32 : a.eval (.tmp 32) = .pointer (some ⟨q, 0, none⟩) := hdep _ (Array.mem_of_getElem? (i := 0) rfl) rfl _ _ rfl rfl
            exact ⟨rfl, QT.wp_value (v := .int .i64 x.file) (by simp [go_sem, QT.nf d32, c0]) ⟨_, rfl, rfl, Below.refl _ _⟩⟩
          | 5, ho =>
            obtain rfl := (Option.some.inj ho).symm
            have d31 : a.eval (.tmp 31) = .pointer (some ⟨g, 0, none⟩) := hdep _ (Array.mem_of_getElem? (i := 0) rfl) rfl _ _ rfl rfl
            exact ⟨rfl, QT.wp_value (v := .pointer (some ⟨g, 0, none⟩)) (by simp [go_sem, QT.nf d31]) ⟨_, rfl, rfl, Below.refl _ _⟩⟩
          | 6, ho =>
            obtain rfl := (Option.some.inj ho).symm
            have d34 : a.eval (.tmp 34) = .pointer (some ⟨g, 0, none⟩) := hdep _ (Array.mem_of_getElem? (i := 0) rfl) rfl _ _ rfl rfl
            exact ⟨rfl, QT.wp_value (v := .pointer (some ⟨g, 64, none⟩)) (by simp [go_sem, QT.nf d34]) ⟨_, rfl, rfl, Below.refl _ _⟩⟩
          | 7, ho =>
            obtain rfl := (Option.some.inj ho).symm
            have d35 : a.eval (.tmp 35) = .pointer (some ⟨g, 64, none⟩) := hdep _ (Array.mem_of_getElem? (i := 0) rfl) rfl _ _ rfl rfl
            have d33 : a.eval (.tmp 33) = .int .i64 x.file := hdep _ (Array.mem_of_getElem? (i := 1) rfl) rfl _ _ rfl rfl
            exact ⟨rfl, QT.wp_value (v := .pointer (some ⟨g, 64 + x.file, none⟩)) (by simp [go_sem, QT.nf d35, QT.nf d33, hxf2]) ⟨_, rfl, rfl, Below.refl _ _⟩⟩
          | 8, ho =>
            obtain rfl := (Option.some.inj ho).symm
            have d36 : a.eval (.tmp 36) = .pointer (some ⟨g, 64 + x.file, none⟩) := hdep _ (Array.mem_of_getElem? (i := 0) rfl) rfl _ _ rfl rfl
            exact ⟨rfl, QT.wp_value (v := .string s) (by simp [go_sem, QT.nf d36, cs]) ⟨_, rfl, rfl, Below.refl _ _⟩⟩
          | 9, ho =>
            obtain rfl := (Option.some.inj ho).symm
            have d37 : a.eval (.tmp 37) = .string s := hdep _ (Array.mem_of_getElem? (i := 0) rfl) rfl _ _ rfl rfl
            obtain ⟨v9, W9, hr9, hB9, hb9, ho9⟩ := conv_text wz s HSS.out
            exact ⟨rfl, by unfold Oper.wp execOp; simp only [d37, Sem.run_bind, hr9, Result.andThen_ok, Sem.run_pure]; exact ⟨v9, rfl, ⟨hB9, fun i hi => Nat.le_trans hI.size (ho9 i hi)⟩, hb9⟩⟩
          | n + 10, ho => omega
        · have f0 : a.eval (.tmp 29) = .pointer (some ⟨q, 0, none⟩) := hf 0 _ _ (by omega) rfl rfl
          have f1 : a.eval (.tmp 30) = .int .i64 x.file := hf 1 _ _ (by omega) rfl rfl
          have f2 : a.eval (.tmp 31) = .pointer (some ⟨g, 0, none⟩) := hf 2 _ _ (by omega) rfl rfl
          have f3 : a.eval (.tmp 32) = .pointer (some ⟨q, 0, none⟩) := hf 3 _ _ (by omega) rfl rfl
          have f4 : a.eval (.tmp 33) = .int .i64 x.file := hf 4 _ _ (by omega) rfl rfl
          have f5 : a.eval (.tmp 34) = .pointer (some ⟨g, 0, none⟩) := hf 5 _ _ (by omega) rfl rfl
          have f6 : a.eval (.tmp 35) = .pointer (some ⟨g, 64, none⟩) := hf 6 _ _ (by omega) rfl rfl
          have f7 : a.eval (.tmp 36) = .pointer (some ⟨g, 64 + x.file, none⟩) := hf 7 _ _ (by omega) rfl rfl
          have f8 : a.eval (.tmp 37) = .string s := hf 8 _ _ (by omega) rfl rfl
          obtain ⟨u9, f9⟩ : ∃ u, a.eval (.tmp 38) = u := ⟨_, rfl⟩
          have y9 : ((.bytes (fun i => w2.heap.size ≤ i) s.data.toList) : FactD).holds (a.eval (.tmp 38)) wz := hf 9 _ _ (by omega) rfl rfl
          rw [f9] at y9
          have ha := hag.puts [(29, .pointer (some ⟨q, 0, none⟩)), (30, .int .i64 x.file), (31, .pointer (some ⟨g, 0, none⟩)), (32, .pointer (some ⟨q, 0, none⟩)), (33, .int .i64 x.file), (34, .pointer (some ⟨g, 0, none⟩)), (35, .pointer (some ⟨g, 64, none⟩)), (36, .pointer (some ⟨g, 64 + x.file, none⟩)), (37, .string s), (38, u9)] rfl (by simp) (by simp only [List.forall_mem_cons, List.not_mem_nil, false_implies, implies_true, and_true]; exact ⟨f0, f1, f2, f3, f4, f5, f6, f7, f8, f9⟩)
          subst ha
          clear hag hf f0 f1 f2 f3 f4 f5 f6 f7 f8 f9
          simp only [List.foldl_cons, List.foldl_nil, Act.put, List.drop_succ_cons, List.drop_zero, List.setIfInBounds_toArray, List.set_cons_succ, List.set_cons_zero]

          obtain ⟨hB9, hO9⟩ := y9
          obtain ⟨g9, cap9, hu9, _, _⟩ := hB9.form
          rw [show s.data.toList.length = s.size by rw [Array.length_toList]; rfl] at hu9
          subst hu9
          obtain ⟨hF9, hc9, hz9⟩ := HF2.out.put hxf hB9 (Frm.of_below hI) (fun i hi => Or.inr (hO9 i hi)) HPQ.out.2.2.2.2.1
          rw [HV0.out] at hc9
          have HF9 := Lib.hid hF9
          have HI := Lib.hid hI
          have HB9 := Lib.hid hB9
          clear hF9 hI hB9 hO9
          go_upto_region 10 with fail
          obtain ⟨b, hb⟩ : ∃ b, s.data.toList = b := ⟨_, rfl⟩
          have HST := Lib.hid (show ∀ k, (X.set x.file (some b)).set x.file (some (doneB x b k)) = stepX S.sure X x k from fun k => by
            unfold stepX
            rw [getX_none HX0.out HSD.out, hb, List.set_set])
          have HX3 := Lib.hid (show (X.set x.file (some b)).getD x.file none = some b by
            rw [List.getD_eq_getElem?_getD, List.getElem?_set_self (by rw [HF2.out.lenX]; exact hxf)]
            rfl)
          have HBL := Lib.hid (show b.length ≤ 1073741824 by
            rw [← hb, Array.length_toList]
            have h1 := HS.out.sure s (by
              rw [← HSD.out]
              have hd := HD.out.sure
              exact List.mem_of_getElem? (HD.out.fileS hxf))
            have h2 : s.data.size = s.size := rfl
            omega)
          rw [hb] at HF9
          have hQ3 := (Below.heap_setCell wz ⟨p1, x.file, none⟩ (.slice (some ⟨g9, 0, none⟩) s.size cap9) q (by show q ≠ p1; have := HPQ.out; omega)).trans ((HI.out.block q HQL.out).trans HQ.out)
          have hP3 := (Below.heap_setCell wz ⟨p1, x.file, none⟩ (.slice (some ⟨g9, 0, none⟩) s.size cap9) p0 HPQ.out.2.2.1).trans ((HI.out.block p0 HPQ.out.2.2.2.2.2.2.2).trans HP2.out)
          have hB3 : Below w.heap.size w (wz.setCell ⟨p1, x.file, none⟩ (.slice (some ⟨g9, 0, none⟩) s.size cap9)) := (HBB.out.trans (HI.out.mono HBB.out.size)).setCell (p := ⟨p1, x.file, none⟩) HPQ.out.2.2.2.1 _
          generalize wz.setCell ⟨p1, x.file, none⟩ (.slice (some ⟨g9, 0, none⟩) s.size cap9) = w3 at HF9 hQ3 hP3 hB3 ⊢
          generalize V.set x.file (.slice (some ⟨g9, 0, none⟩) s.size cap9) = V3 at HF9
          generalize X.set x.file (some b) = X3 at HF9 HST HX3
          have HF3 := HF9
          have HQ3 := Lib.hid hQ3
          have HP3 := Lib.hid hP3
          have HB3 := Lib.hid hB3
          clear hQ3 hP3 hB3 HF9 HI hc9 hz9 HB9 hb HF2 HQ HP2 HBB HQL HPQ c0 hcv
          have HPL3 := Lib.hid (show q < w3.heap.size ∧ p0 < w3.heap.size ∧ p1 + 1 ≤ w3.heap.size from ⟨(Array.getElem?_eq_some_iff.1 HQ3.out).1, (Array.getElem?_eq_some_iff.1 HP3.out).1, HF3.out.lt⟩)
          obtain ⟨va, vn, vc, hv3⟩ := HF3.out.form hxf
          have HV3 := Lib.hid hv3
          have HK3 := Lib.hid (HK.out.kept HB3.out)
          have hcv3 := HF3.out.cell hxf
          rw [hv3] at hcv3
          have HCV3 := Lib.hid hcv3
          have hbat : BAt w3 (.slice va vn vc) b := by
            rcases HF3.out.val hxf with ⟨h1, _⟩ | ⟨b', h1, h2⟩
            · rw [HX3.out] at h1; cases h1
            · rw [HX3.out] at h1
              injection h1 with h1
              rw [hv3] at h2
              rw [h1]
              exact h2
          have HBAT := Lib.hid hbat
          have hii : i ≤ 1000000000 := by have := HS.out.loose; rw [HN.out] at this; omega
          obtain ⟨kk, hkk⟩ : ∃ k, keptN keep i = k := ⟨_, rfl⟩
          have HKK := Lib.hid hkk
          clear hv3 hcv3 hbat hkk
          refine QT.wp_region_facts_one 11 10 (by decide) (by kernel_rfl) (fun w' => Below w3.heap.size w3 w') (fun w' => Frm (fun k => (Value.slice va vn vc).ownBlock = some k) w3 w') (fun n v w' => (([.val (.pointer (some ⟨q, 0, none⟩)), .val (.int .i64 x.file), .val (.agg #[.int .i64 x.file, .int .i64 x.at_, .bool x.cut, .string x.s]), .val (.pointer (some ⟨q, 0, none⟩)), .val (.int .i64 x.file), .val (.pointer (some ⟨p1, x.file, none⟩)), .val (.slice va vn vc), .val (.func (.func 44) #[] #[.pointer (some ⟨p0, 0, none⟩)]), .val (.int .i64 i), .val (.int .i64 kk), .bytes (fun i => (Value.slice va vn vc).ownBlock = some i ∨ w3.heap.size ≤ i) (doneB x b kk)] : List FactD).getD n (.val undef) : FactD).holds v w') (by kernel_rfl) (by kernel_rfl) (Below.refl _ _).drew (fun w1 w2 h1 hb => h1.trans (hb.mono h1.size)) (fun w1 w2 h1 hb => h1.trans (Frm.of_below (F := fun _ => False) hb) (fun _ h => h.elim)) (fun n v w1 w2 h hb => FactD.kept _ v w1 w2 h hb) (fun o ho a wz hI hag hdep => ?_) (fun n o hn hnd ho a wz hI hag hdep => ?_) (fun a wz hI hag hf => ?_)
          · have t5 : a.eval (.tmp 5) = .func (.func 44) #[] #[.pointer (some ⟨p0, 0, none⟩)] := hag.old 5 _ (by kernel_rfl) rfl
            have t6 : a.eval (.tmp 6) = .pointer (some ⟨p1, 0, none⟩) := hag.old 6 _ (by kernel_rfl) rfl
            have t7 : a.eval (.tmp 7) = .int .i64 i := hag.old 7 _ (by kernel_rfl) rfl
            have t8 : a.eval (.tmp 8) = .pointer (some ⟨q, 0, none⟩) := hag.old 8 _ (by kernel_rfl) rfl
            obtain rfl := (Option.some.inj ho).symm
            have d42 : a.eval (.tmp 42) = .agg #[.int .i64 x.file, .int .i64 x.at_, .bool x.cut, .string x.s] := hdep _ (Array.mem_of_getElem? (i := 0) rfl) rfl _ _ rfl rfl
            have d46 : a.eval (.tmp 46) = .slice va vn vc := hdep _ (Array.mem_of_getElem? (i := 1) rfl) rfl _ _ rfl rfl
            have d49 : a.eval (.tmp 49) = .int .i64 kk := hdep _ (Array.mem_of_getElem? (i := 2) rfl) rfl _ _ rfl rfl
            have hbz := HBAT.out.frm (F := fun _ => False) (Frm.of_below hI) (fun _ _ => id)
            exact ⟨rfl, wp_to (f := 45) (args := #[.agg #[.int .i64 x.file, .int .i64 x.at_, .bool x.cut, .string x.s], .slice va vn vc, .int .i64 kk]) (R := fun v w' => Made wz (.slice va vn vc) (doneB x b kk) w' v) (by simp [go_sem, QT.nf d42, QT.nf d46, QT.nf d49]) (code_done x (.slice va vn vc) b kk wz hbz HBL.out (by have := HGX.out.2; omega) (by have := HGX.out.2; omega)) fun v w' hm => ⟨v, rfl, ⟨hm.at_, fun i hi => by
              rcases hm.own i hi with h | h
              · exact Or.inl h
              · exact Or.inr (Nat.le_trans hI.size h)⟩, (Frm.of_below hI).trans hm.frm (fun _ h => Or.inl h), fun j u hj hu => by
              match j, hj, hu with
              | 0, _, hu => exact hu
              | 1, _, hu => exact hu
              | 2, _, hu => exact hu
              | 3, _, hu => exact hu
              | 4, _, hu => exact hu
              | 5, _, hu => exact hu
              | 6, _, hu => exact hu
              | 7, _, hu => exact hu
              | 8, _, hu => exact hu
              | 9, _, hu => exact hu
              | 10, hj, _ => exact absurd rfl hj
              | j + 11, _, hu => exact hu⟩⟩
          · have t5 : a.eval (.tmp 5) = .func (.func 44) #[] #[.pointer (some ⟨p0, 0, none⟩)] := hag.old 5 _ (by kernel_rfl) rfl
            have t6 : a.eval (.tmp 6) = .pointer (some ⟨p1, 0, none⟩) := hag.old 6 _ (by kernel_rfl) rfl
            have t7 : a.eval (.tmp 7) = .int .i64 i := hag.old 7 _ (by kernel_rfl) rfl
            have t8 : a.eval (.tmp 8) = .pointer (some ⟨q, 0, none⟩) := hag.old 8 _ (by kernel_rfl) rfl
            have hK : Frm (fun k => (Value.slice va vn vc).ownBlock = some k) w3 wz := by
              rcases hI with h | h
              · exact Frm.of_below h
              · exact h
            have hq := (hK.block q HPL3.out.1 (fun e => HF3.out.ne (f := x.file) (by rw [HV3.out]; exact e) HQ3.out (by decide) rfl)).trans HQ3.out
            have c0 := Lib.cell_of_heap hq 0
            have hpz := (hK.block p0 HPL3.out.2.1 (fun e => HF3.out.ne (f := x.file) (by rw [HV3.out]; exact e) HP3.out (by decide) rfl)).trans HP3.out
            have ck := Lib.cell_of_heap hpz 0
            have cv : wz.cell? ⟨p1, x.file, none⟩ = some (.slice va vn vc) := (World.cell?_of_block (a := ⟨p1, x.file, none⟩) (hK.block p1 HF3.out.lt (fun e => HF3.out.ne (f := x.file) (by rw [HV3.out]; exact e) HF3.out.heap (by decide) rfl))).trans HCV3.out
            have hkw : KI.At wz (.slice ka kn kc) keep := HK.out.kept (HB3.out.trans (hK.below HB3.out.size (fun k hk => by
              have h1 := HF3.out.new x.file k (by rw [HV3.out]; exact hk)
              have h2 := HW.out
              have h3 := HP1.out
              omega)))
            match n, ho with
            | 0, ho =>
              obtain rfl := (Option.some.inj ho).symm
              exact ⟨rfl, QT.wp_value (v := .pointer (some ⟨q, 0, none⟩)) (by simp [go_sem, QT.nf t8]) ⟨_, rfl, rfl, Below.refl _ _⟩⟩
            | 1, ho =>
              obtain rfl := (Option.some.inj ho).symm
              have d40 : a.eval (.tmp 40) = .pointer (some ⟨q, 0, none⟩) := hdep _ (Array.mem_of_getElem? (i := 0) rfl) rfl _ _ rfl rfl
              exact ⟨rfl, QT.wp_value (v := .int .i64 x.file) (by simp [go_sem, QT.nf d40, c0]) ⟨_, rfl, rfl, Below.refl _ _⟩⟩
            | 2, ho =>
              obtain rfl := (Option.some.inj ho).symm
              exact ⟨rfl, wp_load_row 84 (.tmp 8) rfl q t8 84 #[.int .i64 x.file, .int .i64 x.at_, .bool x.cut, .string x.s] (0, 0) _ hq Tryd.underlying84 rfl (by kernel_rfl) ⟨_, rfl, rfl, Below.refl _ _⟩⟩
            | 3, ho =>
              obtain rfl := (Option.some.inj ho).symm
              exact ⟨rfl, QT.wp_value (v := .pointer (some ⟨q, 0, none⟩)) (by simp [go_sem, QT.nf t8]) ⟨_, rfl, rfl, Below.refl _ _⟩⟩
            | 4, ho =>
              obtain rfl := (Option.some.inj ho).symm
              have d43 : a.eval (.tmp 43) = .pointer (some ⟨q, 0, none⟩) := hdep _ (Array.mem_of_getElem? (i := 0) rfl) rfl _ _ rfl rfl
              exact ⟨rfl, QT.wp_value (v := .int .i64 x.file) (by simp [go_sem, QT.nf d43, c0]) ⟨_, rfl, rfl, Below.refl _ _⟩⟩
            | 5, ho =>
              obtain rfl := (Option.some.inj ho).symm
              have d44 : a.eval (.tmp 44) = .int .i64 x.file := hdep _ (Array.mem_of_getElem? (i := 0) rfl) rfl _ _ rfl rfl
              exact ⟨rfl, QT.wp_value (v := .pointer (some ⟨p1, x.file, none⟩)) (by simp [go_sem, QT.nf t6, QT.nf d44, hxf2]) ⟨_, rfl, rfl, Below.refl _ _⟩⟩
            | 6, ho =>
              obtain rfl := (Option.some.inj ho).symm
              have d45 : a.eval (.tmp 45) = .pointer (some ⟨p1, x.file, none⟩) := hdep _ (Array.mem_of_getElem? (i := 0) rfl) rfl _ _ rfl rfl
              exact ⟨rfl, QT.wp_value (v := .slice va vn vc) (by simp [go_sem, QT.nf d45, cv]) ⟨_, rfl, rfl, Below.refl _ _⟩⟩
            | 7, ho =>
              obtain rfl := (Option.some.inj ho).symm
              exact ⟨rfl, QT.wp_value (BigFrame.run_move (.tmp 5) rfl wz) ⟨_, rfl, t5, Below.refl _ _⟩⟩
            | 8, ho =>
              obtain rfl := (Option.some.inj ho).symm
              exact ⟨rfl, QT.wp_value (BigFrame.run_move (.tmp 7) rfl wz) ⟨_, rfl, t7, Below.refl _ _⟩⟩
            | 9, ho =>
              obtain rfl := (Option.some.inj ho).symm
              have d47 : a.eval (.tmp 47) = .func (.func 44) #[] #[.pointer (some ⟨p0, 0, none⟩)] := hdep _ (Array.mem_of_getElem? (i := 0) rfl) rfl _ _ rfl rfl
              have d48 : a.eval (.tmp 48) = .int .i64 i := hdep _ (Array.mem_of_getElem? (i := 1) rfl) rfl _ _ rfl rfl
              have hck := code_kept (.slice ka kn kc) keep i p0 wz ck hkw hii
              rw [HKK.out] at hck
              exact ⟨rfl, QT.wp_enter (f := 44) (args := #[.int .i64 i, .pointer (some ⟨p0, 0, none⟩)]) (R := fun w' => wz = w') (by simp [go_sem, QT.nf d47, QT.nf d48]) hck fun w' e => ⟨_, rfl, rfl, e ▸ Below.refl _ _⟩⟩
            | 10, ho =>
              exact absurd rfl hnd
            | n + 11, ho => omega
          · have f0 : a.eval (.tmp 40) = .pointer (some ⟨q, 0, none⟩) := hf 0 _ _ (by omega) rfl rfl
            have f1 : a.eval (.tmp 41) = .int .i64 x.file := hf 1 _ _ (by omega) rfl rfl
            have f2 : a.eval (.tmp 42) = .agg #[.int .i64 x.file, .int .i64 x.at_, .bool x.cut, .string x.s] := hf 2 _ _ (by omega) rfl rfl
            have f3 : a.eval (.tmp 43) = .pointer (some ⟨q, 0, none⟩) := hf 3 _ _ (by omega) rfl rfl
            have f4 : a.eval (.tmp 44) = .int .i64 x.file := hf 4 _ _ (by omega) rfl rfl
            have f5 : a.eval (.tmp 45) = .pointer (some ⟨p1, x.file, none⟩) := hf 5 _ _ (by omega) rfl rfl
            have f6 : a.eval (.tmp 46) = .slice va vn vc := hf 6 _ _ (by omega) rfl rfl
            have f7 : a.eval (.tmp 47) = .func (.func 44) #[] #[.pointer (some ⟨p0, 0, none⟩)] := hf 7 _ _ (by omega) rfl rfl
            have f8 : a.eval (.tmp 48) = .int .i64 i := hf 8 _ _ (by omega) rfl rfl
            have f9 : a.eval (.tmp 49) = .int .i64 kk := hf 9 _ _ (by omega) rfl rfl
            obtain ⟨u10, f10⟩ : ∃ u, a.eval (.tmp 50) = u := ⟨_, rfl⟩
            have y10 : ((.bytes (fun i => (Value.slice va vn vc).ownBlock = some i ∨ w3.heap.size ≤ i) (doneB x b kk)) : FactD).holds (a.eval (.tmp 50)) wz := hf 10 _ _ (by omega) rfl rfl
            rw [f10] at y10
            have ha := hag.puts [(40, .pointer (some ⟨q, 0, none⟩)), (41, .int .i64 x.file), (42, .agg #[.int .i64 x.file, .int .i64 x.at_, .bool x.cut, .string x.s]), (43, .pointer (some ⟨q, 0, none⟩)), (44, .int .i64 x.file), (45, .pointer (some ⟨p1, x.file, none⟩)), (46, .slice va vn vc), (47, .func (.func 44) #[] #[.pointer (some ⟨p0, 0, none⟩)]), (48, .int .i64 i), (49, .int .i64 kk), (50, u10)] rfl (by simp) (by simp only [List.forall_mem_cons, List.not_mem_nil, false_implies, implies_true, and_true]; exact ⟨f0, f1, f2, f3, f4, f5, f6, f7, f8, f9, f10⟩)
            subst ha
            clear hag hf f0 f1 f2 f3 f4 f5 f6 f7 f8 f9 f10
            simp only [List.foldl_cons, List.foldl_nil, Act.put, List.drop_succ_cons, List.drop_zero, List.setIfInBounds_toArray, List.set_cons_succ, List.set_cons_zero]

            obtain ⟨hB10, hO10⟩ := y10
            obtain ⟨g10, cap10, hu10, _, _⟩ := hB10.form
            subst hu10
            obtain ⟨hF10, hc10, hz10⟩ := HF3.out.put hxf hB10 (by rw [HV3.out]; exact hI) (by rw [HV3.out]; exact hO10) HPL3.out.2.2
            rw [HV3.out] at hc10
            rw [HST.out] at hF10
            have hne : ∀ k, (Value.slice va vn vc).ownBlock = some k → w.heap.size ≤ k := fun k hk => by
              have h1 := HF3.out.new x.file k (by rw [HV3.out]; exact hk)
              have h2 := HW.out
              have h3 := HP1.out
              omega
            have hB10' : Below w.heap.size w (wz.setCell ⟨p1, x.file, none⟩ (.slice (some ⟨g10, 0, none⟩) (doneB x b kk).length cap10)) := (HB3.out.trans (hI.below HB3.out.size hne)).setCell (p := ⟨p1, x.file, none⟩) (by show w.heap.size ≤ p1; have h2 := HW.out; have h3 := HP1.out; omega) _
            have hP10 := (Below.heap_setCell wz ⟨p1, x.file, none⟩ (.slice (some ⟨g10, 0, none⟩) (doneB x b kk).length cap10) p0 (by show p0 ≠ p1; have h3 := HP1.out; omega)).trans ((hI.block p0 HPL3.out.2.1 (fun e => HF3.out.ne (f := x.file) (by rw [HV3.out]; exact e) HP3.out (by decide) rfl)).trans HP3.out)
            have HF10 := Lib.hid hF10
            have HB10 := Lib.hid hB10'
            have HP10 := Lib.hid hP10
            clear hB10 hO10 hI hF10 hne hB10' hP10
            go_wp2_with fail
            go_roundw
            case rel => exact ⟨i + 1, V3.set x.file (.slice (some ⟨g10, 0, none⟩) (doneB x b kk).length cap10), by omega, by go_num, by rw [crashN_step HX.out, HKK.out, HCN.out]; exact HF10.out, HP10.out, HB10.out, HF10.out.lt⟩
            case measure => simp [intOf]; omega
      · have HST := Lib.hid (show ∀ k, X.set x.file (some (doneB x b k)) = stepX S.sure X x k from fun k => by
          unfold stepX
          rw [getX_some hxb])
        obtain ⟨g9, cap9, hv9, _, _⟩ := hvb.form
        rw [hv9] at hcv
        have HBL := Lib.hid (show b.length ≤ 1073741824 by
          have := crashN_small S.sure keep S.loose HS.out.sure HS.out.chs i x.file b (by rw [HCN.out]; exact hxb)
          omega)
        have HX3 := Lib.hid hxb
        clear hv9 hvb hxb
        go_upto_region 10 with fail
        have HF3 := HF2
        have HQ3 := HQ
        have HP3 := HP2
        have HB3 := HBB
        have HQL3 := HQL
        clear HF2 HQ HP2 HBB HQL
        generalize w2 = w3 at HF3 HQ3 HP3 HB3 HQL3 ⊢
        clear c0 hcv HPQ
        generalize V = V3 at HF3
        have HPL3 := Lib.hid (show q < w3.heap.size ∧ p0 < w3.heap.size ∧ p1 + 1 ≤ w3.heap.size from ⟨(Array.getElem?_eq_some_iff.1 HQ3.out).1, (Array.getElem?_eq_some_iff.1 HP3.out).1, HF3.out.lt⟩)
        obtain ⟨va, vn, vc, hv3⟩ := HF3.out.form hxf
        have HV3 := Lib.hid hv3
        have HK3 := Lib.hid (HK.out.kept HB3.out)
        have hcv3 := HF3.out.cell hxf
        rw [hv3] at hcv3
        have HCV3 := Lib.hid hcv3
        have hbat : BAt w3 (.slice va vn vc) b := by
          rcases HF3.out.val hxf with ⟨h1, _⟩ | ⟨b', h1, h2⟩
          · rw [HX3.out] at h1; cases h1
          · rw [HX3.out] at h1
            injection h1 with h1
            rw [hv3] at h2
            rw [h1]
            exact h2
        have HBAT := Lib.hid hbat
        have hii : i ≤ 1000000000 := by have := HS.out.loose; rw [HN.out] at this; omega
        obtain ⟨kk, hkk⟩ : ∃ k, keptN keep i = k := ⟨_, rfl⟩
        have HKK := Lib.hid hkk
        clear hv3 hcv3 hbat hkk
        refine QT.wp_region_facts_one 11 10 (by decide) (by kernel_rfl) (fun w' => Below w3.heap.size w3 w') (fun w' => Frm (fun k => (Value.slice va vn vc).ownBlock = some k) w3 w') (fun n v w' => (([.val (.pointer (some ⟨q, 0, none⟩)), .val (.int .i64 x.file), .val (.agg #[.int .i64 x.file, .int .i64 x.at_, .bool x.cut, .string x.s]), .val (.pointer (some ⟨q, 0, none⟩)), .val (.int .i64 x.file), .val (.pointer (some ⟨p1, x.file, none⟩)), .val (.slice va vn vc), .val (.func (.func 44) #[] #[.pointer (some ⟨p0, 0, none⟩)]), .val (.int .i64 i), .val (.int .i64 kk), .bytes (fun i => (Value.slice va vn vc).ownBlock = some i ∨ w3.heap.size ≤ i) (doneB x b kk)] : List FactD).getD n (.val undef) : FactD).holds v w') (by kernel_rfl) (by kernel_rfl) (Below.refl _ _).drew (fun w1 w2 h1 hb => h1.trans (hb.mono h1.size)) (fun w1 w2 h1 hb => h1.trans (Frm.of_below (F := fun _ => False) hb) (fun _ h => h.elim)) (fun n v w1 w2 h hb => FactD.kept _ v w1 w2 h hb) (fun o ho a wz hI hag hdep => ?_) (fun n o hn hnd ho a wz hI hag hdep => ?_) (fun a wz hI hag hf => ?_)
        · have t5 : a.eval (.tmp 5) = .func (.func 44) #[] #[.pointer (some ⟨p0, 0, none⟩)] := hag.old 5 _ (by kernel_rfl) rfl
          have t6 : a.eval (.tmp 6) = .pointer (some ⟨p1, 0, none⟩) := hag.old 6 _ (by kernel_rfl) rfl
          have t7 : a.eval (.tmp 7) = .int .i64 i := hag.old 7 _ (by kernel_rfl) rfl
          have t8 : a.eval (.tmp 8) = .pointer (some ⟨q, 0, none⟩) := hag.old 8 _ (by kernel_rfl) rfl
          obtain rfl := (Option.some.inj ho).symm
          have d42 : a.eval (.tmp 42) = .agg #[.int .i64 x.file, .int .i64 x.at_, .bool x.cut, .string x.s] := hdep _ (Array.mem_of_getElem? (i := 0) rfl) rfl _ _ rfl rfl
          have d46 : a.eval (.tmp 46) = .slice va vn vc := hdep _ (Array.mem_of_getElem? (i := 1) rfl) rfl _ _ rfl rfl
          have d49 : a.eval (.tmp 49) = .int .i64 kk := hdep _ (Array.mem_of_getElem? (i := 2) rfl) rfl _ _ rfl rfl
          have hbz := HBAT.out.frm (F := fun _ => False) (Frm.of_below hI) (fun _ _ => id)
          exact ⟨rfl, wp_to (f := 45) (args := #[.agg #[.int .i64 x.file, .int .i64 x.at_, .bool x.cut, .string x.s], .slice va vn vc, .int .i64 kk]) (R := fun v w' => Made wz (.slice va vn vc) (doneB x b kk) w' v) (by simp [go_sem, QT.nf d42, QT.nf d46, QT.nf d49]) (code_done x (.slice va vn vc) b kk wz hbz HBL.out (by have := HGX.out.2; omega) (by have := HGX.out.2; omega)) fun v w' hm => ⟨v, rfl, ⟨hm.at_, fun i hi => by
            rcases hm.own i hi with h | h
            · exact Or.inl h
            · exact Or.inr (Nat.le_trans hI.size h)⟩, (Frm.of_below hI).trans hm.frm (fun _ h => Or.inl h), fun j u hj hu => by
            match j, hj, hu with
            | 0, _, hu => exact hu
            | 1, _, hu => exact hu
            | 2, _, hu => exact hu
            | 3, _, hu => exact hu
            | 4, _, hu => exact hu
            | 5, _, hu => exact hu
            | 6, _, hu => exact hu
            | 7, _, hu => exact hu
            | 8, _, hu => exact hu
            | 9, _, hu => exact hu
            | 10, hj, _ => exact absurd rfl hj
            | j + 11, _, hu => exact hu⟩⟩
        · have t5 : a.eval (.tmp 5) = .func (.func 44) #[] #[.pointer (some ⟨p0, 0, none⟩)] := hag.old 5 _ (by kernel_rfl) rfl
          have t6 : a.eval (.tmp 6) = .pointer (some ⟨p1, 0, none⟩) := hag.old 6 _ (by kernel_rfl) rfl
          have t7 : a.eval (.tmp 7) = .int .i64 i := hag.old 7 _ (by kernel_rfl) rfl
          have t8 : a.eval (.tmp 8) = .pointer (some ⟨q, 0, none⟩) := hag.old 8 _ (by kernel_rfl) rfl
          have hK : Frm (fun k => (Value.slice va vn vc).ownBlock = some k) w3 wz := by
            rcases hI with h | h
            · exact Frm.of_below h
            · exact h
          have hq := (hK.block q HPL3.out.1 (fun e => HF3.out.ne (f := x.file) (by rw [HV3.out]; exact e) HQ3.out (by decide) rfl)).trans HQ3.out
          have c0 := Lib.cell_of_heap hq 0
          have hpz := (hK.block p0 HPL3.out.2.1 (fun e => HF3.out.ne (f := x.file) (by rw [HV3.out]; exact e) HP3.out (by decide) rfl)).trans HP3.out
          have ck := Lib.cell_of_heap hpz 0
          have cv : wz.cell? ⟨p1, x.file, none⟩ = some (.slice va vn vc) := (World.cell?_of_block (a := ⟨p1, x.file, none⟩) (hK.block p1 HF3.out.lt (fun e => HF3.out.ne (f := x.file) (by rw [HV3.out]; exact e) HF3.out.heap (by decide) rfl))).trans HCV3.out
          have hkw : KI.At wz (.slice ka kn kc) keep := HK.out.kept (HB3.out.trans (hK.below HB3.out.size (fun k hk => by
            have h1 := HF3.out.new x.file k (by rw [HV3.out]; exact hk)
            have h2 := HW.out
            have h3 := HP1.out
            omega)))
          match n, ho with
          | 0, ho =>
            obtain rfl := (Option.some.inj ho).symm
            exact ⟨rfl, QT.wp_value (v := .pointer (some ⟨q, 0, none⟩)) (by simp [go_sem, QT.nf t8]) ⟨_, rfl, rfl, Below.refl _ _⟩⟩
          | 1, ho =>
            obtain rfl := (Option.some.inj ho).symm
            have d40 : a.eval (.tmp 40) = .pointer (some ⟨q, 0, none⟩) := hdep _ (Array.mem_of_getElem? (i := 0) rfl) rfl _ _ rfl rfl
            exact ⟨rfl, QT.wp_value (v := .int .i64 x.file) (by simp [go_sem, QT.nf d40, c0]) ⟨_, rfl, rfl, Below.refl _ _⟩⟩
          | 2, ho =>
            obtain rfl := (Option.some.inj ho).symm
            exact ⟨rfl, wp_load_row 84 (.tmp 8) rfl q t8 84 #[.int .i64 x.file, .int .i64 x.at_, .bool x.cut, .string x.s] (0, 0) _ hq Tryd.underlying84 rfl (by kernel_rfl) ⟨_, rfl, rfl, Below.refl _ _⟩⟩
          | 3, ho =>
            obtain rfl := (Option.some.inj ho).symm
            exact ⟨rfl, QT.wp_value (v := .pointer (some ⟨q, 0, none⟩)) (by simp [go_sem, QT.nf t8]) ⟨_, rfl, rfl, Below.refl _ _⟩⟩
          | 4, ho =>
            obtain rfl := (Option.some.inj ho).symm
            have d43 : a.eval (.tmp 43) = .pointer (some ⟨q, 0, none⟩) := hdep _ (Array.mem_of_getElem? (i := 0) rfl) rfl _ _ rfl rfl
            exact ⟨rfl, QT.wp_value (v := .int .i64 x.file) (by simp [go_sem, QT.nf d43, c0]) ⟨_, rfl, rfl, Below.refl _ _⟩⟩
          | 5, ho =>
            obtain rfl := (Option.some.inj ho).symm
            have d44 : a.eval (.tmp 44) = .int .i64 x.file := hdep _ (Array.mem_of_getElem? (i := 0) rfl) rfl _ _ rfl rfl
            exact ⟨rfl, QT.wp_value (v := .pointer (some ⟨p1, x.file, none⟩)) (by simp [go_sem, QT.nf t6, QT.nf d44, hxf2]) ⟨_, rfl, rfl, Below.refl _ _⟩⟩
          | 6, ho =>
            obtain rfl := (Option.some.inj ho).symm
            have d45 : a.eval (.tmp 45) = .pointer (some ⟨p1, x.file, none⟩) := hdep _ (Array.mem_of_getElem? (i := 0) rfl) rfl _ _ rfl rfl
            exact ⟨rfl, QT.wp_value (v := .slice va vn vc) (by simp [go_sem, QT.nf d45, cv]) ⟨_, rfl, rfl, Below.refl _ _⟩⟩
          | 7, ho =>
            obtain rfl := (Option.some.inj ho).symm
            exact ⟨rfl, QT.wp_value (BigFrame.run_move (.tmp 5) rfl wz) ⟨_, rfl, t5, Below.refl _ _⟩⟩
          | 8, ho =>
            obtain rfl := (Option.some.inj ho).symm
            exact ⟨rfl, QT.wp_value (BigFrame.run_move (.tmp 7) rfl wz) ⟨_, rfl, t7, Below.refl _ _⟩⟩
          | 9, ho =>
            obtain rfl := (Option.some.inj ho).symm
            have d47 : a.eval (.tmp 47) = .func (.func 44) #[] #[.pointer (some ⟨p0, 0, none⟩)] := hdep _ (Array.mem_of_getElem? (i := 0) rfl) rfl _ _ rfl rfl
            have d48 : a.eval (.tmp 48) = .int .i64 i := hdep _ (Array.mem_of_getElem? (i := 1) rfl) rfl _ _ rfl rfl
            have hck := code_kept (.slice ka kn kc) keep i p0 wz ck hkw hii
            rw [HKK.out] at hck
            exact ⟨rfl, QT.wp_enter (f := 44) (args := #[.int .i64 i, .pointer (some ⟨p0, 0, none⟩)]) (R := fun w' => wz = w') (by simp [go_sem, QT.nf d47, QT.nf d48]) hck fun w' e => ⟨_, rfl, rfl, e ▸ Below.refl _ _⟩⟩
          | 10, ho =>
            exact absurd rfl hnd
          | n + 11, ho => omega
        · have f0 : a.eval (.tmp 40) = .pointer (some ⟨q, 0, none⟩) := hf 0 _ _ (by omega) rfl rfl
          have f1 : a.eval (.tmp 41) = .int .i64 x.file := hf 1 _ _ (by omega) rfl rfl
          have f2 : a.eval (.tmp 42) = .agg #[.int .i64 x.file, .int .i64 x.at_, .bool x.cut, .string x.s] := hf 2 _ _ (by omega) rfl rfl
          have f3 : a.eval (.tmp 43) = .pointer (some ⟨q, 0, none⟩) := hf 3 _ _ (by omega) rfl rfl
          have f4 : a.eval (.tmp 44) = .int .i64 x.file := hf 4 _ _ (by omega) rfl rfl
          have f5 : a.eval (.tmp 45) = .pointer (some ⟨p1, x.file, none⟩) := hf 5 _ _ (by omega) rfl rfl
          have f6 : a.eval (.tmp 46) = .slice va vn vc := hf 6 _ _ (by omega) rfl rfl
          have f7 : a.eval (.tmp 47) = .func (.func 44) #[] #[.pointer (some ⟨p0, 0, none⟩)] := hf 7 _ _ (by omega) rfl rfl
          have f8 : a.eval (.tmp 48) = .int .i64 i := hf 8 _ _ (by omega) rfl rfl
          have f9 : a.eval (.tmp 49) = .int .i64 kk := hf 9 _ _ (by omega) rfl rfl
          obtain ⟨u10, f10⟩ : ∃ u, a.eval (.tmp 50) = u := ⟨_, rfl⟩
          have y10 : ((.bytes (fun i => (Value.slice va vn vc).ownBlock = some i ∨ w3.heap.size ≤ i) (doneB x b kk)) : FactD).holds (a.eval (.tmp 50)) wz := hf 10 _ _ (by omega) rfl rfl
          rw [f10] at y10
          have ha := hag.puts [(40, .pointer (some ⟨q, 0, none⟩)), (41, .int .i64 x.file), (42, .agg #[.int .i64 x.file, .int .i64 x.at_, .bool x.cut, .string x.s]), (43, .pointer (some ⟨q, 0, none⟩)), (44, .int .i64 x.file), (45, .pointer (some ⟨p1, x.file, none⟩)), (46, .slice va vn vc), (47, .func (.func 44) #[] #[.pointer (some ⟨p0, 0, none⟩)]), (48, .int .i64 i), (49, .int .i64 kk), (50, u10)] rfl (by simp) (by simp only [List.forall_mem_cons, List.not_mem_nil, false_implies, implies_true, and_true]; exact ⟨f0, f1, f2, f3, f4, f5, f6, f7, f8, f9, f10⟩)
          subst ha
          clear hag hf f0 f1 f2 f3 f4 f5 f6 f7 f8 f9 f10
          simp only [List.foldl_cons, List.foldl_nil, Act.put, List.drop_succ_cons, List.drop_zero, List.setIfInBounds_toArray, List.set_cons_succ, List.set_cons_zero]

          obtain ⟨hB10, hO10⟩ := y10
          obtain ⟨g10, cap10, hu10, _, _⟩ := hB10.form
          subst hu10
          obtain ⟨hF10, hc10, hz10⟩ := HF3.out.put hxf hB10 (by rw [HV3.out]; exact hI) (by rw [HV3.out]; exact hO10) HPL3.out.2.2
          rw [HV3.out] at hc10
          rw [HST.out] at hF10
          have hne : ∀ k, (Value.slice va vn vc).ownBlock = some k → w.heap.size ≤ k := fun k hk => by
            have h1 := HF3.out.new x.file k (by rw [HV3.out]; exact hk)
            have h2 := HW.out
            have h3 := HP1.out
            omega
          have hB10' : Below w.heap.size w (wz.setCell ⟨p1, x.file, none⟩ (.slice (some ⟨g10, 0, none⟩) (doneB x b kk).length cap10)) := (HB3.out.trans (hI.below HB3.out.size hne)).setCell (p := ⟨p1, x.file, none⟩) (by show w.heap.size ≤ p1; have h2 := HW.out; have h3 := HP1.out; omega) _
          have hP10 := (Below.heap_setCell wz ⟨p1, x.file, none⟩ (.slice (some ⟨g10, 0, none⟩) (doneB x b kk).length cap10) p0 (by show p0 ≠ p1; have h3 := HP1.out; omega)).trans ((hI.block p0 HPL3.out.2.1 (fun e => HF3.out.ne (f := x.file) (by rw [HV3.out]; exact e) HP3.out (by decide) rfl)).trans HP3.out)
          have HF10 := Lib.hid hF10
          have HB10 := Lib.hid hB10'
          have HP10 := Lib.hid hP10
          clear hB10 hO10 hI hF10 hne hB10' hP10
          go_wp2_with fail
          go_roundw
          case rel => exact ⟨i + 1, V3.set x.file (.slice (some ⟨g10, 0, none⟩) (doneB x b kk).length cap10), by omega, by go_num, by rw [crashN_step HX.out, HKK.out, HCN.out]; exact HF10.out, HP10.out, HB10.out, HF10.out.lt⟩
          case measure => simp [intOf]; omega
    · obtain rfl : i = n := by omega
      rw [HXF.out] at hF
      have HFX := Lib.hid hF
      have HFH := Lib.hid hF.heap
      have HVS := Lib.hid (show (Tryd.prog.info? 82).map (·.size) = some V.toArray.size by
        rw [List.size_toArray, hF.lenV]
        have := files_zero
        simp only [Option.map_eq_some_iff] at this ⊢
        obtain ⟨i0, h1, h2⟩ := this
        exact ⟨i0, h1, by simpa using (Prod.mk.inj h2).2⟩)
      have HLW := Lib.hid (show Left w g lv S wr lv from ⟨HD.out.kept (F := fun _ => False) (Frm.of_below hB) id (fun _ _ => id), Frm.of_below hB, fun _ h => Or.inl h⟩)
      have HGP := Lib.hid (show g < p1 ∧ w.heap.size ≤ p1 by have h1 := HW.out; have h2 := HP1.out; have h3 := HGN.out; omega)
      have hneq := neq_nil 5 Tryd.underlying81
      clear hF hP hB hp1 hlt hi
      go_wp2_with (refine wpList_load_row rfl 82 (.tmp 6) rfl p1 rfl 82 V.toArray (0, 0) _ HFH.out Tryd.underlying82 rfl HVS.out ?_)
      go_loopw [54] (fun fv wz => ∃ f : Nat, f ≤ 64 ∧ fv = .int .i64 f ∧ Left w g lv { S with sure := mergeN S.sure XF f } wz lv ∧ FilesAt (p1 + 1) wz p1 V XF) (fun fv _ => 64 - (intOf fv).toNat)
      case atStart => exact ⟨0, Nat.zero_le _, rfl, HLW.out, HFX.out⟩
      case round =>
        obtain ⟨f, hf, rfl, hL, hFz⟩ := hrel
        by_cases hlt : f < 64
        · have hlt2 : (f : Int) < 64 := by omega
          have HFZ := Lib.hid hFz
          have HLZ := Lib.hid hL
          have hidx := index_files V hFz.lenV f hlt
          rcases hFz.val hlt with ⟨hx0, hv0⟩ | ⟨b, hxb, hvb⟩
          · have hix := hv0
            have HX := Lib.hid hx0
            rw [hix] at hidx
            clear hx0 hv0 hL hFz hix
            go_wp2_with fail
            go_roundw
            case rel => exact ⟨f + 1, by omega, by go_num, by rw [mergeN_none HX.out]; exact HLZ.out, HFZ.out⟩
            case measure => simp [intOf]; omega
          · obtain ⟨g9, cap9, hv9, _, _⟩ := hvb.form
            rw [hv9] at hidx hvb
            have HX := Lib.hid hxb
            have HVB := Lib.hid hvb
            have hcs := hL.at_.cSure (hL.at_.fileS hlt)
            clear hv9 hxb hvb hL hFz
            go_upto_region 16 with fail
            refine wp_region_still_tail 6 (by kernel_rfl) (by kernel_rfl) ?_
            simp only [List.take_succ_cons, List.take_zero, List.drop_succ_cons, List.drop_zero]
            have hl2 := HLZ.out.drew
            have hf2 : FilesAt (p1 + 1) wr.drew p1 V XF := HFZ.out.frm (F := fun _ => False) (Frm.refl _ _).drew id (fun _ _ _ => id)
            have hb2 : BAt wr.drew (.slice (some ⟨g9, 0, none⟩) b.length cap9) b := HVB.out.frm (F := fun _ => False) (Frm.refl _ _).drew (fun _ _ => id)
            show wpStill _ _ wr.drew (fun a' => wpList _ _ _ _ a' wr.drew) _ _
            generalize wr.drew = w3 at hl2 hf2 hb2 ⊢
            have hcv := hb2.text
            have hcs := hl2.at_.cSure (hl2.at_.fileS hlt)
            have hfz3 := hl2.at_.fz
            have HL3 := Lib.hid (hl2.sure f hlt ⟨b.toArray⟩)
            have HF3 := Lib.hid (hf2.frm (F := fun k => k = g) (Frm.setCell (F := fun k => k = g) (p := ⟨g, 64 + f, none⟩) (Frm.refl _ _) (Or.inl rfl) (.string ⟨b.toArray⟩)) (by show ¬ p1 = g; have := HGP.out; omega) (fun h k hk e => by have h1 := hf2.new h k hk; have h2 := HGP.out; omega))
            clear hl2 hf2 hb2
            repeat still_step
            refine wpStill_nil ?_
            go_wp2_with fail
            go_roundw
            case rel => exact ⟨f + 1, by omega, by go_num, by rw [mergeN_some HX.out]; exact HL3.out, HF3.out⟩
            case measure => simp [intOf]; omega
        · obtain rfl : f = 64 := by omega
          obtain ⟨M, hM⟩ : ∃ M, mergeN S.sure XF 64 = M := ⟨_, rfl⟩
          have HM := Lib.hid hM
          rw [hM] at hL
          have hml : M.length = 64 := hL.at_.sure
          have hsr : wr.rangeAt g 64 (M.map .string) := fun j u hj => by
            rw [List.getElem?_map] at hj
            obtain ⟨s, hs, rfl⟩ := Option.map_eq_some_iff.1 hj
            exact hL.at_.cSure hs
          have HSR := Lib.hid hsr
          have HI := Lib.hid (show (Tryd.prog.info? 64).map (·.size) = some (M.map Value.string).length by
            rw [List.length_map, hml]
            kernel_rfl)
          have HTH := Lib.hid (show wr.there g 0 (M.map Value.string).toArray.size from fun j hj => ⟨by
            rw [List.size_toArray, List.length_map, hml] at hj
            rw [Nat.zero_add, Lib.cell_of_heap hL.at_.heap, List.getElem?_toArray, List.getElem?_eq_getElem (by rw [vals_len hL.at_.now hL.at_.sure]; omega)]
            rfl, hL.at_.fz _⟩)
          have HI2 := Lib.hid (show (Tryd.prog.info? 64).map (·.size) = some (M.map Value.string).toArray.size by
            rw [List.size_toArray]
            exact HI.out)
          have HONE := Lib.hid (show (M.map Value.string).toArray.all (·.oneCell') = true from all_oneCell_toArray (fun v hv => by
            obtain ⟨s, _, rfl⟩ := List.mem_map.1 hv
            rfl))
          have HL2 := Lib.hid hL.copy
          clear hL hFz hM hml hsr hf hlt
          go_wp2_with (first
            | (refine wpList_load_mid rfl 64 (.tmp 72) rfl g 64 rfl (M.map .string) _ HSR.out Tryd.underlying64 rfl HI.out ?_)
            | (refine wpList_store_mid rfl 64 (.tmp 75) (.tmp 73) rfl g 0 (M.map Value.string).toArray rfl rfl HTH.out HI2.out HONE.out ?_
               generalize wr.setCells g 0 (M.map Value.string).toArray.toList = w6 at HL2 ⊢
               have hc60 := HL2.out.at_.cLoose
               have hc61 := HL2.out.at_.cOn
               have hc62 := HL2.out.at_.cLasts
               have hz6 := HL2.out.at_.fz
               have HL5 := Lib.hid ((HL2.out.none.put_rest (T := { now := M, sure := M, loose := [], on := true, lasts := S.lasts, ops := S.ops }) 1 (v := .bool true) (by simp) rfl rfl rfl).put_rest (T := { now := M, sure := M, loose := [], on := true, lasts := -1, ops := S.ops }) 2 (v := .int .i64 (-1)) (by simp) rfl rfl rfl)))
          go_ret
          exact ⟨rfl, by rw [HM.out]; exact HL5.out⟩
end Go.Proofs.YtepcfmigkhacgaaDoor.Dk
