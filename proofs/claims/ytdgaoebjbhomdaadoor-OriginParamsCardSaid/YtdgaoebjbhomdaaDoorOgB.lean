/- origin: the code's Put, part by part. -/
import Derived.Test.YtdgaoebjbhomdaaDoorOgA
import Derived.Test.YtdgaoebjbhomdaaDoorBld
import Derived.Test.YtdgaoebjbhomdaaDoorM2
namespace Go.Proofs.YtdgaoebjbhomdaaDoor.Og
open Go.RowKit Go.Proofs.YtdgaoebjbhomdaaDoor.Sha Go.Proofs.YtdgaoebjbhomdaaDoor.Gr Go.Proofs.YtdgaoebjbhomdaaDoor.Digit Go.Proofs.YtdgaoebjbhomdaaDoor.Deed

theorem builder_kept {T e : TypeId} {B b : Nat} {bs : List Value} {w w' : World} (h : Lib.IsBuilder T e B b bs w) (hb : Below w.heap.size w w') : Lib.IsBuilder T e B b bs w' := by
  have one : ∀ p, Lib.BuilderAt T e B b p bs w → Lib.BuilderAt T e B b p bs w' := by
    intro p hp
    have hlt := hp.lt
    obtain ⟨hB, v, hbk, hown, hne⟩ := hp
    refine ⟨hB, v, (hb.block b hlt).trans hbk, ?_, hne⟩
    exact hown.kept (row := none) ⟨hb.os, hb.tape, hb.output, hb.size, fun k hk _ => hb.block k hk⟩ (by cases hv : v.ownBlock <;> simp)
  rcases h with h | h
  · exact Or.inl (one _ h)
  · exact Or.inr (one _ h)
theorem flat_take_le {α : Type} (f : α → List UInt8) (L : List α) (k : Nat) : ((L.take k).flatMap f).length ≤ (L.flatMap f).length := by
  conv => rhs; rw [← List.take_append_drop k L]
  rw [List.flatMap_append, List.length_append]
  omega
/-- A builder, and what has been written. -/
abbrev BAt (B : Nat) (l : List UInt8) (w : World) : Prop := Lib.IsBuilder 111 5 B B (Lib.byteCells l) w
theorem strCells_bs (l : List UInt8) : Lib.strCells (bs l) = Lib.byteCells l := by rw [Lib.strCells_eq]
theorem bat_write {B : Nat} {l : List UInt8} {w : World} (h : BAt B l w) (m : List UInt8) (hlen : l.length + m.length ≤ 140737488355328) (hB : B ≤ w.heap.size) :
    Calls Tryd.prog 65 #[.pointer (some ⟨B, 0, none⟩), .string (bs m)] w fun e w' => e = .returned (.tuple #[.int .i64 m.length, .nilIface]) ∧ BAt B (l ++ m) w' ∧ Below B w w' := by
  refine (Bld.write_any B B (Lib.byteCells l) (bs m) w h (by rw [bs_size, Lib.byteCells_length]; exact hlen) hB).mono ?_
  rintro e w' ⟨rfl, hat, hb⟩
  rw [strCells_bs, ← Lib.byteCells_append] at hat
  exact ⟨by rw [bs_size], Or.inr hat, hb⟩
theorem codePut (n : UInt64) (w : World) : Calls Tryd.prog 70 #[nV n] w fun e w' => e = .returned (.string (bs (nL n))) ∧ Below w.heap.size w w' := put_any n.toNat w (by have := n.toNat_lt; omega)
theorem codeBytes (h : H32) (w : World) : Calls Tryd.prog 30 #[hV h] w fun e w' => e = .returned (.string (bs h.1)) ∧ Below w.heap.size w w' := code_bytes h.1 h.2 w


set_option maxRecDepth 100000 in
set_option maxHeartbeats 1600000 in
theorem code_numbers (v : Value) (L : List UInt64) (w : World) (hT : KU.At w v L) (hL : L.length ≤ 1000000) :
    Calls Tryd.prog 35 #[v] w fun e w' => e = .returned (.string (bs (L.flatMap nL))) ∧ Below w.heap.size w w' := by
  obtain ⟨a, cap, rfl, hcap⟩ := hT.form
  have HT := Lib.hid hT
  have HF := Lib.hid (flat_le nL 10 nL_len L)
  have HL := Lib.hid hL
  clear hT
  go_enter Tryd.func35, Tryd.ntmps35
  go_wp2_with fail
  go_loopw [8] (fun i wr => ∃ k : Nat, k ≤ L.length ∧ i = .int .i64 k ∧ BAt w.heap.size ((L.take k).flatMap nL) wr ∧ Below w.heap.size w wr) (fun i _ => L.length - (intOf i).toNat)
  case atStart => exact ⟨0, Nat.zero_le _, rfl, Lib.fresh_isBuilder _ _ w, (Below.refl _ _).alloc (Nat.le_refl _) _⟩
  case round =>
    obtain ⟨k, hk, rfl, hbld, hb⟩ := hrel
    have HBLD := Lib.hid hbld
    have HB := Lib.hid hb
    clear hbld hb
    by_cases hlt : k < L.length
    · obtain ⟨g, o, cap', ha, _, hr⟩ := (HT.out.kept HB.out).some (by omega)
      have hx := List.getElem?_eq_getElem hlt
      obtain ⟨x, hxx⟩ : ∃ x, L[k] = x := ⟨_, rfl⟩
      rw [hxx] at hx
      have hc := range_thing hr hx (j := 0) (u := nV x) rfl
      have HTK := Lib.hid (take_flat nL L k x hx)
      have HTL := Lib.hid (flat_take_le nL L (k + 1))
      injection ha with ha1 _ ha2
      subst ha1 ha2
      rw [show KU.size = 1 from rfl, Nat.mul_one, Nat.add_zero] at hc
      have HP := Lib.hid (fun w => codePut x w)
      have hki : (k : Int) < (L.length : Int) := by omega
      obtain ⟨X, hX⟩ : ∃ X, nV x = X := ⟨_, rfl⟩
      rw [hX] at hc HP
      clear hX hxx hx hr
      go_wp2_with (first
        | (go_at_call 70; refine (HP.out _).mono ?_; rintro e w1 ⟨rfl, hb1⟩; have HB1 := Lib.hid hb1; clear hb1)
        | (go_at_call 65; refine (bat_write (builder_kept HBLD.out HB1.out) (nL x) (by
            have h1 := HF.out
            have h2 := HL.out
            have h3 := HTL.out
            rw [HTK.out, List.length_append] at h3
            omega) (Nat.le_trans HB.out.size HB1.out.size)).mono ?_; rintro e w2 ⟨rfl, hat2, hb2⟩; have HAT2 := Lib.hid hat2; have HB2 := Lib.hid hb2; clear hat2 hb2))
      go_roundw
      case rel => exact ⟨k + 1, by omega, by go_num, by rw [HTK.out]; exact HAT2.out, (HB.out.trans (HB1.out.mono HB.out.size)).trans HB2.out⟩
      case measure => simp [intOf]; omega
    · obtain rfl : k = L.length := by omega
      have HS := HBLD.out
      rw [List.take_length] at HS
      have HST := Lib.hid (Tryd.Builder_String_any w.heap.size w.heap.size (L.flatMap nL) wr HS HB.out.size)
      clear HS
      obtain ⟨R, hR⟩ : ∃ R, bs (L.flatMap nL) = R := ⟨_, rfl⟩
      have HR := Lib.hid hR
      unfold bs at hR
      rw [hR] at HST
      clear hR
      go_wp2_with (refine HST.out.mono ?_; rintro e w3 ⟨rfl, hb3⟩)
      go_ret
      exact ⟨by rw [HR.out]; rfl, HB.out.trans hb3⟩


theorem infoKH (x : H32) : (Tryd.prog.info? 29).map (·.size) = some (valsB x.1).length := KH.infoL x
theorem wpList_new_var {P : Program} {T : TypeId} {Z C : Array Value} (hi : (P.info? T).map (fun i => (i.zero, i.size)) = some (some (.agg Z), C.size)) (hz : Z.size = C.size) (h1 : C.all (·.oneCell') = true) {ops : Array Oper} {rest : List Oper} {o1 o2 : Oper} {a : Act} {w : World} {Q : Exit → Act → World → Prop} (x y : Operand)
    (g1 : o1.guard = none) (g2 : o2.guard = none) (ho1 : o1.op = .alloc T) (ho2 : o2.op = .store T x y) (hx : ∀ v, (a.put o1.dst v).eval x = v) (hy : ∀ v, (a.put o1.dst v).eval y = .agg C)
    (h : ∀ w', w'.heap[w.heap.size]? = some (.cells C T (0, 0)) → w'.heap.size = w.heap.size + 1 → Below w.heap.size w w' → wpList P ops Q rest ((a.put o1.dst (.pointer (some ⟨w.heap.size, 0, none⟩))).put o2.dst undef) w') : wpList P ops Q (o1 :: o2 :: rest) a w := by
  obtain ⟨ie, hie, hq⟩ := Option.map_eq_some_iff.1 hi
  simp only [Prod.mk.injEq] at hq
  obtain ⟨hz2, hsz⟩ := hq
  refine wpList_plain g1 fun _ hK => ?_
  unfold Oper.wp execOp
  have hzr : (zeroValue T).run P w = .ok (.agg Z) w := by simp [zeroValue, typeInfo, hie, hz2]
  simp only [ho1, Instr.alloc, Sem.run_bind, hzr, Result.andThen_ok, newVar, newRow, run_newObj_alloc, Sem.run_pure]
  refine hK _ _ ?_
  have hh : (w.alloc (.cells Z T)).heap[w.heap.size]? = some (.cells Z T (0, 0)) := heap_alloc_new w _
  refine wpList_store_row g2 T x y ho2 w.heap.size C (hx _) (hy _) T Z hh (by rw [hie, Option.map_some, hsz]) hz h1 ?_
  exact h _ (setRow_heap _ _ _ _ _ _ hh) (by rw [setRow_size]; simp) (below_setRow ((Below.refl _ _).alloc (Nat.le_refl _) _) (Nat.le_refl _) _)
/-- A thing in a variable of its own. -/
theorem wpList_new_thing {P : Program} {α : Type} (K : Kind P α) (Z : Array Value) (hz : K.zero = .agg Z) (x : α) {C : Array Value} (hC : (K.enc x).toArray = C) {ops : Array Oper} {rest : List Oper} {o1 o2 : Oper} {a : Act} {w : World} {Q : Exit → Act → World → Prop} (s t : Operand)
    (g1 : o1.guard = none) (g2 : o2.guard = none) (ho1 : o1.op = .alloc K.T) (ho2 : o2.op = .store K.T s t) (hx : ∀ v, (a.put o1.dst v).eval s = v) (hy : ∀ v, (a.put o1.dst v).eval t = .agg C)
    (h : ∀ w', w'.heap[w.heap.size]? = some (.cells C K.T (0, 0)) → w'.heap.size = w.heap.size + 1 → Below w.heap.size w w' → wpList P ops Q rest ((a.put o1.dst (.pointer (some ⟨w.heap.size, 0, none⟩))).put o2.dst undef) w') : wpList P ops Q (o1 :: o2 :: rest) a w := by
  subst hC
  obtain ⟨ie, hie, hq⟩ := Option.map_eq_some_iff.1 K.info
  simp only [Prod.mk.injEq] at hq
  refine wpList_new_var (T := K.T) (Z := Z) (by rw [hie, Option.map_some, hq.1, hq.2.1, hz, List.size_toArray, K.len]) (by have h2 := K.oldA x; rw [hz] at h2; exact h2) (K.oneA x) s t g1 g2 ho1 ho2 hx hy h


set_option maxRecDepth 100000 in
set_option maxHeartbeats 1600000 in
theorem code_hashes (v : Value) (L : List H32) (w : World) (hT : KH.At w v L) (hL : L.length ≤ 1000000) :
    Calls Tryd.prog 36 #[v] w fun e w' => e = .returned (.string (bs (L.flatMap fun x => x.1))) ∧ Below w.heap.size w w' := by
  obtain ⟨a, cap, rfl, hcap⟩ := hT.form
  have HT := Lib.hid hT
  have HF := Lib.hid (flat_le (fun x : H32 => x.1) 32 (fun x => Nat.le_of_eq x.2) L)
  have HL := Lib.hid hL
  clear hT
  go_enter Tryd.func36, Tryd.ntmps36
  go_wp2_with fail
  go_loopw [8] (fun i wr => ∃ k : Nat, k ≤ L.length ∧ i = .int .i64 k ∧ BAt w.heap.size ((L.take k).flatMap fun x => x.1) wr ∧ Below w.heap.size w wr) (fun i _ => L.length - (intOf i).toNat)
  case atStart => exact ⟨0, Nat.zero_le _, rfl, Lib.fresh_isBuilder _ _ w, (Below.refl _ _).alloc (Nat.le_refl _) _⟩
  case round =>
    obtain ⟨k, hk, rfl, hbld, hb⟩ := hrel
    have HBLD := Lib.hid hbld
    have HB := Lib.hid hb
    clear hbld hb
    by_cases hlt : k < L.length
    · obtain ⟨g, o, cap', ha, _, hr⟩ := (HT.out.kept HB.out).some (by omega)
      have hx := List.getElem?_eq_getElem hlt
      obtain ⟨x, hxx⟩ : ∃ x, L[k] = x := ⟨_, rfl⟩
      rw [hxx] at hx
      have HRX := Lib.hid (range_at hr hx)
      have HTK := Lib.hid (take_flat (fun x : H32 => x.1) L k x hx)
      have HTL := Lib.hid (flat_take_le (fun x : H32 => x.1) L (k + 1))
      have HIX := Lib.hid (infoKH x)
      injection ha with ha1 _ ha2
      subst ha1 ha2
      have HP := Lib.hid (fun w => codeBytes x w)
      have hki : (k : Int) < (L.length : Int) := by omega
      unfold hV at HP
      obtain ⟨C, hC⟩ : ∃ C, (KH.enc x).toArray = C := ⟨_, rfl⟩
      have HC := Lib.hid hC
      have HIC := Lib.hid (KH.infoA x)
      rw [hC] at HIC
      rw [show (valsB x.1).toArray = C from hC] at HP
      clear hC hxx hx hr
      go_wp2_with (first
        | (go_at_call 30; refine (HP.out _).mono ?_; rintro e w1 ⟨rfl, hb1⟩; have HB1 := Lib.hid (hbv.trans (hb1.mono hbv.size)); clear hb1)
        | (go_at_call 65; refine (bat_write (builder_kept HBLD.out HB1.out) x.1 (by
            have h1 := HF.out
            have h2 := HL.out
            have h3 := HTL.out
            rw [HTK.out, List.length_append] at h3
            omega) (Nat.le_trans HB.out.size HB1.out.size)).mono ?_; rintro e w2 ⟨rfl, hat2, hb2⟩; have HAT2 := Lib.hid hat2; have HB2 := Lib.hid hb2; clear hat2 hb2)
        | (refine wpList_load_mid rfl 29 (.tmp 10) rfl g (o + k * 32) rfl (KH.enc x) _ HRX.out Tryd.underlying29 rfl HIX.out ?_; rw [HC.out]; go_frame)
        | (refine wpList_new_thing KH z32.toArray rfl x HC.out (.tmp 5) (.tmp 11) rfl rfl rfl rfl (fun _ => rfl) (fun _ => rfl) ?_; intro wv hhv hsv hbv; go_frame)
        | (refine wpList_load_row rfl 29 (.tmp 5) rfl wr.heap.size rfl 29 C (0, 0) _ hhv Tryd.underlying29 rfl HIC.out ?_))
      go_roundw
      case rel => exact ⟨k + 1, by omega, by go_num, by rw [HTK.out]; exact HAT2.out, (HB.out.trans (HB1.out.mono HB.out.size)).trans HB2.out⟩
      case measure => simp [intOf]; omega
    · obtain rfl : k = L.length := by omega
      have HS := HBLD.out
      rw [List.take_length] at HS
      have HST := Lib.hid (Tryd.Builder_String_any w.heap.size w.heap.size (L.flatMap fun x => x.1) wr HS HB.out.size)
      clear HS
      obtain ⟨R, hR⟩ : ∃ R, bs (L.flatMap fun x => x.1) = R := ⟨_, rfl⟩
      have HR := Lib.hid hR
      unfold bs at hR
      rw [hR] at HST
      clear hR
      go_wp2_with (refine HST.out.mono ?_; rintro e w3 ⟨rfl, hb3⟩)
      go_ret
      exact ⟨by rw [HR.out]; rfl, HB.out.trans hb3⟩

end Go.Proofs.YtdgaoebjbhomdaaDoor.Og
