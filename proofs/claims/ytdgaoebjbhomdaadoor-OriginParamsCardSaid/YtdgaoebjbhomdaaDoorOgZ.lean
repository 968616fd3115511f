/- origin: what the card lays; OriginKnown. -/
import Derived.Test.YtdgaoebjbhomdaaDoorOgX
import Derived.Test.YtdgaoebjbhomdaaDoorRows
import Derived.Test.YtdgaoebjbhomdaaDoorOk
import Derived.LaidMore
import Derived.LaidHandle
import Derived.ProofKit
import Derived.OpenShut
namespace Go.Proofs.YtdgaoebjbhomdaaDoor.Og
open Go.RowKit Go.ChangeShapes Go.WideShapes Go.Deep Go.Proofs.YtdgaoebjbhomdaaDoor.Sha Go.Proofs.YtdgaoebjbhomdaaDoor.Gr Go.Proofs.YtdgaoebjbhomdaaDoor.Digit Go.Proofs.YtdgaoebjbhomdaaDoor.Deed Go.Proofs.YtdgaoebjbhomdaaDoor.Tree Go.Proofs.YtdgaoebjbhomdaaDoor.Ok

abbrev laidL : List (String × DataW Unit) := [("mintage/origin.spans", Rows.laid_mintage_origin_spans)]
theorem gSpans : Tryd.prog.globalNamed "mintage/origin.spans" = some 0 := by kernel_rfl
theorem tSpans : (Tryd.prog.globals[0]?).map (·.type) = some 57 := by kernel_rfl
theorem fSpan : Tryd.prog.underlying 56 = some (.struct (Tryd.prog.fieldsOf 56)) := by kernel_rfl
theorem fSpanL : (Tryd.prog.fieldsOf 56).toList.map (·.type) = [22, 22] := by kernel_rfl
theorem spans_at : ∀ i, i < 8 → ∀ d, (match (Rows.laid_mintage_origin_spans : DataW Unit) with | .agg l => l | _ => [])[i]? = some d → d = .agg [.lit (.int .u64 ((loP.getD i 0 : Nat) : Int)), .lit (.int .u64 ((hiP.getD i 0 : Nat) : Int))] := by
  intro i hi d h
  have e : (match (Rows.laid_mintage_origin_spans : DataW Unit) with | .agg l => l | _ => []) = (List.range 8).map fun i => (.agg [.lit (.int .u64 ((loP.getD i 0 : Nat) : Int)), .lit (.int .u64 ((hiP.getD i 0 : Nat) : Int))] : DataW Unit) := rfl
  rw [e, List.getElem?_map, List.getElem?_range hi] at h
  simpa using h.symm
set_option maxRecDepth 100000 in
/-- The listed variable's cells. -/
theorem of_laid {W : World} (h : laidMetH Tryd.prog laidL W) : Tab W := by
  rw [MakeChecks.laidMetH_plain _ _ _ (by kernel_rfl)] at h
  obtain ⟨ps, ⟨g0, t0, cs0, f0, p0, q0, hg0, ht0, hv0, hd0, _, _⟩, _, _⟩ := h
  obtain rfl := Option.some.inj (gSpans.symm.trans hg0)
  obtain rfl := Option.some.inj (tSpans.symm.trans ht0)
  obtain ⟨xs, m, rfl, hx, hlen, hn, hel⟩ := DataW.trod_array Tryd.underlying57 hd0
  have c1 : Tryd.prog.cellsOf 56 = 2 := by kernel_rfl
  simp only [Prod.mk.injEq] at hx
  intro i hi
  have hE := hel i hi
  rw [c1, List.getElem?_eq_getElem (by omega)] at hE
  have hd : (match (Rows.laid_mintage_origin_spans : DataW Unit) with | .agg l => l | _ => [])[i]? = some (xs[i]'(by omega)).1 := by
    rw [hx.1]
    show (xs.map (·.1))[i]? = _
    rw [List.getElem?_map, List.getElem?_eq_getElem (by omega)]
    rfl
  have hk := spans_at i hi _ hd
  obtain ⟨y0, y1, n, hy, _, hf0, hf1⟩ := trod_struct2 Tryd.underlying56 hE
  rw [hy] at hk
  obtain ⟨k0, e0, d0, _⟩ := DataW.trod_int Tryd.underlying22 hf0
  obtain ⟨k1, e1, d1, _⟩ := DataW.trod_int Tryd.underlying22 hf1
  simp only [DataW.agg.injEq, List.cons.injEq, and_true] at hk
  have hk0 : k0 = ((loP.getD i 0 : Nat) : Int) := by
    have h := hk.1
    rw [d0] at h
    simpa using DataW.lit.inj h
  have hk1 : k1 = ((hiP.getD i 0 : Nat) : Int) := by
    have h := hk.2
    rw [d1] at h
    simpa using DataW.lit.inj h
  subst hk0 hk1
  have c2 : Tryd.prog.cellsOf 22 = 1 := by kernel_rfl
  rw [c2] at e0 e1
  have g0 := congrArg (fun l : List Value => l[0]?) e0
  have g1 := congrArg (fun l : List Value => l[0]?) e1
  simp at g0 g1
  rw [World.var?_cell hg0 hv0 (i * 2), World.var?_cell hg0 hv0 (i * 2 + 1)]
  exact ⟨by simpa using g0, by simpa using g1⟩
theorem law_OriginKnown (w : World) (h : laidMetH Tryd.prog laidL w) :
    Calls Tryd.prog 3 #[] w fun e w' => e = .returned (.bool true) ∧ Below w.heap.size w w' := known_any w (of_laid h)

section
variable {H : Type} {enc : TypeId × Value → H} {w : World} {base : Nat} {spare : Nat → Bool} {held : Bool}
theorem reads_h : Reads enc Tryd.prog w base spare held 29 fun cs => ∃ h : H32, cs = valsB h.1 := fun fuel cs x hf => by
  obtain ⟨l, hl, rfl⟩ := reads_hash Tryd.underlying29 Tryd.underlying5 (by kernel_rfl) (by kernel_rfl) fuel cs x hf
  exact ⟨⟨l, hl⟩, rfl⟩
theorem reads_n : Reads enc Tryd.prog w base spare held 22 fun cs => ∃ n : UInt64, cs = [nV n] := reads_u64 Tryd.underlying22
theorem reads_out : Reads enc Tryd.prog w base spare held 52 fun cs => ∃ y : OutD, cs = KOut.enc y := fun fuel cs x hf => by
  obtain ⟨hl, h⟩ := reads_struct Tryd.underlying52 hf
  rw [show Tryd.prog.cellsOf 52 = 32 + 32 + 1 by kernel_rfl] at hl
  obtain ⟨t, h0⟩ := h 0 29 0 32 _ rfl (by kernel_rfl) reads_h
  obtain ⟨s, h1⟩ := h 1 29 32 32 _ rfl (by kernel_rfl) reads_h
  obtain ⟨n, h2⟩ := h 2 22 64 1 _ rfl (by kernel_rfl) reads_n
  exact ⟨⟨t, s, n⟩, pieces3 hl h0 h1 h2⟩
theorem reads_trust : Reads enc Tryd.prog w base spare held 69 fun cs => ∃ y : TrustD, cs = KTrust.enc y := fun fuel cs x hf => by
  obtain ⟨hl, h⟩ := reads_struct Tryd.underlying69 hf
  rw [show Tryd.prog.cellsOf 69 = 32 + 32 by kernel_rfl] at hl
  obtain ⟨t, h0⟩ := h 0 29 0 32 _ rfl (by kernel_rfl) reads_h
  obtain ⟨s, h1⟩ := h 1 29 32 32 _ rfl (by kernel_rfl) reads_h
  exact ⟨⟨t, s⟩, pieces2 hl h0 h1⟩
theorem piece (l : List Value) (o n : Nat) : l.drop o = (l.drop o).take n ++ l.drop (o + n) := by
  rw [← List.drop_drop, List.take_append_drop]
theorem reads_seat : Reads enc Tryd.prog w base spare held 67 fun cs => ∃ y : SeatD, cs = KSeat.enc y := fun fuel cs x hf => by
  obtain ⟨hl, h⟩ := reads_struct Tryd.underlying67 hf
  rw [show Tryd.prog.cellsOf 67 = 67 by kernel_rfl] at hl
  obtain ⟨t, h0⟩ := h 0 29 0 32 _ rfl (by kernel_rfl) reads_h
  obtain ⟨s, h1⟩ := h 1 29 32 32 _ rfl (by kernel_rfl) reads_h
  obtain ⟨a, h2⟩ := h 2 22 64 1 _ rfl (by kernel_rfl) reads_n
  obtain ⟨b, h3⟩ := h 3 22 65 1 _ rfl (by kernel_rfl) reads_n
  obtain ⟨c, h4⟩ := h 4 22 66 1 _ rfl (by kernel_rfl) reads_n
  refine ⟨⟨t, s, a, b, c⟩, ?_⟩
  have e : cs = cs.drop 0 := rfl
  rw [e, piece cs 0 32, h0, piece cs 32 32, h1, piece cs 64 1, h2, piece cs 65 1, h3, piece cs 66 1, h4, List.drop_of_length_le (i := 67) (by omega)]
  simp [KSeat]
theorem reads_params : Reads enc Tryd.prog w base spare held 27 fun cs => ∃ l : List UInt64, l.length = 8 ∧ cs = l.map nV := fun fuel cs x hf => by
  obtain ⟨xs, m, rfl, hx, hlen, hn, hel⟩ := DataW.trod_array Tryd.underlying27 hf
  have c1 : Tryd.prog.cellsOf 22 = 1 := by kernel_rfl
  have hcl : cs.length = 8 := by
    have h2 : Tryd.prog.cellsOf 27 = 8 := by kernel_rfl
    omega
  have key : ∀ i, i < 8 → ∃ n : UInt64, cs[i]? = some (nV n) := fun i hi => by
    have hE := hel i hi
    rw [c1, Nat.mul_one, List.getElem?_eq_getElem (by omega)] at hE
    obtain ⟨n, hn⟩ := reads_n m _ _ hE
    have g := congrArg (fun l : List Value => l[0]?) hn
    simp at g
    exact ⟨n, by simpa using g⟩
  obtain ⟨f, hf2⟩ : ∃ f : Nat → UInt64, ∀ i, i < 8 → cs[i]? = some (nV (f i)) := ⟨fun i => if h : i < 8 then (key i h).choose else 0, fun i hi => by simp only [hi, dif_pos]; exact (key i hi).choose_spec⟩
  refine ⟨(List.range 8).map f, by simp, List.ext_getElem? fun i => ?_⟩
  by_cases hi : i < 8
  · rw [hf2 i hi, List.getElem?_map, List.getElem?_map, List.getElem?_range hi]
    rfl
  · rw [List.getElem?_eq_none (by omega), List.getElem?_eq_none (by simp; omega)]
theorem weights_mem {P : Program} : ∀ (ts : List TypeId) (ds : List (DataW H)) (i : Nat) (t : TypeId) (d : DataW H), ts[i]? = some t → ds[i]? = some d → ∀ n ∈ d.weights P t, n ∈ DataW.weightsEach P ts ds
  | [], _, i, t, d, h, _ => by simp at h
  | _ :: _, [], i, t, d, _, h => by simp at h
  | t0 :: ts, d0 :: ds, i, t, d, h1, h2 => fun n hn => by
    rw [DataW.weightsEach, List.mem_append]
    cases i with
    | zero =>
      simp at h1 h2
      subst h1 h2
      exact Or.inl hn
    | succ i =>
      simp at h1 h2
      exact Or.inr (weights_mem ts ds i t d h1 h2 n hn)
theorem slice_len {P : Program} {t e : TypeId} (ht : P.underlying t = some (.slice e)) {fuel : Nat} {a : Option Addr} {len cap : Nat} {x : DataW H × List MemPlace} (hf : DataW.trod enc P w base spare held fuel t [.slice a len cap] = some x) (hw : ∀ n ∈ x.1.weights P t, n ≤ reachBytes) : len * P.bytesOf e ≤ reachBytes := by
  rcases DataW.trod_slice ht hf with ⟨hcs, _⟩ | ⟨a', l', cap', elems, rest, n, _, hcs, hx, _, _, _, hlen, _⟩
  · simp at hcs
    rw [hcs.2.1, Nat.zero_mul]
    exact Nat.zero_le _
  · simp at hcs
    have h1 := hw ((elems.length + rest.length) * P.bytesOf e) (by rw [hx]; simp [DataW.weights, ht])
    rw [hcs.2.1, ← hlen]
    exact Nat.le_trans (Nat.mul_le_mul_right _ (by omega)) h1

set_option maxRecDepth 100000 in
theorem open_orig {r : Reach} {b0 : Nat} {v : Value} {d : DataW H} {p : List MemPlace} (hv : Value.okWide Tryd.prog w r b0 34 v) (h : DataW.Trod enc Tryd.prog w base spare held 34 v d p) :
    ∃ x c s t, v = oV x c s t ∧ OAt w x c s t ∧ ((∀ n ∈ d.weights Tryd.prog 34, n ≤ reachBytes) → huge x) := by
  simp only [Value.okWide, Tryd.underlying34] at hv
  obtain ⟨ca, rfl, _, _⟩ := hv
  obtain ⟨fuel, hf⟩ := h
  have hf2 : DataW.trod enc Tryd.prog w base spare held fuel 34 ca.toList = some (d, p) := by simpa [Value.cells] using hf
  clear hf
  obtain ⟨hl, h⟩ := reads_struct Tryd.underlying34 hf2
  rw [show Tryd.prog.cellsOf 34 = 50 by kernel_rfl] at hl
  obtain ⟨n0, h0⟩ := h 0 22 0 1 _ rfl (by kernel_rfl) reads_n
  obtain ⟨n1, h1⟩ := h 1 22 1 1 _ rfl (by kernel_rfl) reads_n
  obtain ⟨n2, h2⟩ := h 2 22 2 1 _ rfl (by kernel_rfl) reads_n
  obtain ⟨n3, h3⟩ := h 3 22 3 1 _ rfl (by kernel_rfl) reads_n
  obtain ⟨n4, h4⟩ := h 4 22 4 1 _ rfl (by kernel_rfl) reads_n
  obtain ⟨ps, hps, h5⟩ := h 5 27 5 8 _ rfl (by kernel_rfl) reads_params
  obtain ⟨n6, h6⟩ := h 6 22 13 1 _ rfl (by kernel_rfl) reads_n
  obtain ⟨n7, h7⟩ := h 7 22 14 1 _ rfl (by kernel_rfl) reads_n
  obtain ⟨no, h8⟩ := h 8 29 15 32 _ rfl (by kernel_rfl) reads_h
  obtain ⟨a9, l9, c9, L9, h9, hA9, _⟩ := h 9 30 47 1 _ rfl (by kernel_rfl) (reads_slice (K := KOut) Tryd.underlying30 (by kernel_rfl) reads_out)
  obtain ⟨a10, l10, c10, L10, h10, hA10, _⟩ := h 10 31 48 1 _ rfl (by kernel_rfl) (reads_slice (K := KSeat) Tryd.underlying31 (by kernel_rfl) reads_seat)
  obtain ⟨a11, l11, c11, L11, h11, hA11, _⟩ := h 11 32 49 1 _ rfl (by kernel_rfl) (reads_slice (K := KTrust) Tryd.underlying32 (by kernel_rfl) reads_trust)
  obtain ⟨xs, m, _, hx, _, hxl, hfd⟩ := DataW.trod_struct Tryd.underlying34 hf2
  simp only [Prod.mk.injEq] at hx
  have e9 : DataW.trod enc Tryd.prog w base spare held m 30 [.slice a9 l9 c9] = xs[9]? := by
    have this : DataW.trod enc Tryd.prog w base spare held m 30 ((ca.toList.drop 47).take (Tryd.prog.cellsOf 30)) = xs[9]? := hfd 9 _ rfl
    rw [← h9]
    rw [show Tryd.prog.cellsOf 30 = 1 by kernel_rfl] at this
    exact this
  have s9 : (∀ n ∈ d.weights Tryd.prog 34, n ≤ reachBytes) → l9 ≤ 1000000000000000000 := fun hw => by
    have hk : 9 < xs.length := by rw [hxl]; decide
    have hlen := slice_len Tryd.underlying30 (e9.trans (List.getElem?_eq_getElem hk)) (fun n hn => hw n (by
      rw [hx.1]
      unfold DataW.weights
      rw [Tryd.underlying34]
      exact weights_mem _ _ 9 30 _ rfl (by rw [List.getElem?_map, List.getElem?_eq_getElem hk]; rfl) n hn))
    rw [show Tryd.prog.bytesOf 52 = 72 by kernel_rfl] at hlen
    unfold reachBytes at hlen
    omega
  have e10 : DataW.trod enc Tryd.prog w base spare held m 31 [.slice a10 l10 c10] = xs[10]? := by
    have this : DataW.trod enc Tryd.prog w base spare held m 31 ((ca.toList.drop 48).take (Tryd.prog.cellsOf 31)) = xs[10]? := hfd 10 _ rfl
    rw [← h10]
    rw [show Tryd.prog.cellsOf 31 = 1 by kernel_rfl] at this
    exact this
  have s10 : (∀ n ∈ d.weights Tryd.prog 34, n ≤ reachBytes) → l10 ≤ 1000000000000000000 := fun hw => by
    have hk : 10 < xs.length := by rw [hxl]; decide
    have hlen := slice_len Tryd.underlying31 (e10.trans (List.getElem?_eq_getElem hk)) (fun n hn => hw n (by
      rw [hx.1]
      unfold DataW.weights
      rw [Tryd.underlying34]
      exact weights_mem _ _ 10 31 _ rfl (by rw [List.getElem?_map, List.getElem?_eq_getElem hk]; rfl) n hn))
    rw [show Tryd.prog.bytesOf 67 = 88 by kernel_rfl] at hlen
    unfold reachBytes at hlen
    omega
  have e11 : DataW.trod enc Tryd.prog w base spare held m 32 [.slice a11 l11 c11] = xs[11]? := by
    have this : DataW.trod enc Tryd.prog w base spare held m 32 ((ca.toList.drop 49).take (Tryd.prog.cellsOf 32)) = xs[11]? := hfd 11 _ rfl
    rw [← h11]
    rw [show Tryd.prog.cellsOf 32 = 1 by kernel_rfl] at this
    exact this
  have s11 : (∀ n ∈ d.weights Tryd.prog 34, n ≤ reachBytes) → l11 ≤ 1000000000000000000 := fun hw => by
    have hk : 11 < xs.length := by rw [hxl]; decide
    have hlen := slice_len Tryd.underlying32 (e11.trans (List.getElem?_eq_getElem hk)) (fun n hn => hw n (by
      rw [hx.1]
      unfold DataW.weights
      rw [Tryd.underlying34]
      exact weights_mem _ _ 11 32 _ rfl (by rw [List.getElem?_map, List.getElem?_eq_getElem hk]; rfl) n hn))
    rw [show Tryd.prog.bytesOf 69 = 64 by kernel_rfl] at hlen
    unfold reachBytes at hlen
    omega
  have hL9 : L9.length = l9 := by obtain ⟨a, c, hv, _⟩ := hA9.form; injection hv with _ h2 _; exact h2.symm
  have hL10 : L10.length = l10 := by obtain ⟨a, c, hv, _⟩ := hA10.form; injection hv with _ h2 _; exact h2.symm
  have hL11 : L11.length = l11 := by obtain ⟨a, c, hv, _⟩ := hA11.form; injection hv with _ h2 _; exact h2.symm
  refine ⟨⟨[n0, n1, n2, n3, n4] ++ (ps ++ [n6, n7]), no, L9, L10, L11⟩, _, _, _, ?_, ⟨by simp [hps], hA9, hA10, hA11⟩, fun hw => ⟨by rw [hL9]; exact s9 hw, by rw [hL10]; exact s10 hw, by rw [hL11]; exact s11 hw⟩⟩
  have e : ca.toList = ca.toList.drop 0 := rfl
  have e2 : ca = ca.toList.toArray := by simp
  rw [e2, e, piece ca.toList 0 1, h0, piece ca.toList 1 1, h1, piece ca.toList 2 1, h2, piece ca.toList 3 1, h3, piece ca.toList 4 1, h4, piece ca.toList 5 8, h5, piece ca.toList 13 1, h6, piece ca.toList 14 1, h7, piece ca.toList 15 32, h8, piece ca.toList 47 1, h9, piece ca.toList 48 1, h10, piece ca.toList 49 1, h11, List.drop_of_length_le (i := 50) (by omega)]
  simp [oV, cellsO]
end
theorem sized_orig {H : Type} {ts : List TypeId} {d : DataW H} {gs : List (DataW H)} (hsz : (DataW.weightsEach Tryd.prog ([34] ++ ts) ([d] ++ gs)).all (· ≤ reachBytes) = true) : ∀ n ∈ d.weights Tryd.prog 34, n ≤ reachBytes := fun n hn => by
  have := List.all_eq_true.1 hsz n (by
    show n ∈ DataW.weightsEach Tryd.prog (34 :: ts) (d :: gs)
    rw [DataW.weightsEach]
    exact List.mem_append_left _ hn)
  simpa using this
theorem law_OriginBack (x : OriginD) (c s t : Value) (a1 : ByteArray) (w : World) (hx : OAt w x c s t) (hh : huge x) (_w1 : a1.size ≤ maxLen) (h : laidMetH Tryd.prog laidL w) :
    Calls Tryd.prog 6 #[oV x c s t, .string a1] w fun e w' => e = .returned (.bool true) ∧ Below w.heap.size w w' := back_any hx hh a1 (of_laid h)
end Go.Proofs.YtdgaoebjbhomdaaDoor.Og
