/- origin: the code's reader. -/
import Derived.Test.YtdgaoebjbhomdaaDoorOgK
import Derived.Test.YtdgaoebjbhomdaaDoorQSt
import Derived.Test.YtdgaoebjbhomdaaDoorQFm
import Derived.Test.YtdgaoebjbhomdaaDoorM2
import Derived.Laws.IdiomCopy
namespace Go.Proofs.YtdgaoebjbhomdaaDoor.Og
open Go.RowKit Go.Proofs.YtdgaoebjbhomdaaDoor.Sha Go.Proofs.YtdgaoebjbhomdaaDoor.Gr Go.Proofs.YtdgaoebjbhomdaaDoor.Digit Go.Proofs.YtdgaoebjbhomdaaDoor.Deed Go.Proofs.YtdgaoebjbhomdaaDoor.Tree

theorem end0 {P : Program} {fn : Func} {R : Ending → World → Prop} {a : Act} {w : World} (hr : fn.results = #[]) (hd : a.defers = []) (hR : R (.returned (.tuple #[])) w) : bodyPost P fn R .normal a w :=
  bodyPost_end (v := .tuple #[]) (by simp [results, hr, Sem.run_pure]) hd hR
/-- The code's reader in memory. -/
def CAt (w : World) (q : Nat) (r : Rd) : Prop := w.heap[q]? = some (.cells #[.string (bs r.1), .bool (!r.2)] 59 (0, 0))
theorem CAt.lt {w : World} {q : Nat} {r : Rd} (h : CAt w q r) : q < w.heap.size := (Array.getElem?_eq_some_iff.1 h).1
theorem CAt.c0 {w : World} {q : Nat} {r : Rd} (h : CAt w q r) : w.cell? ⟨q, 0, none⟩ = some (.string (bs r.1)) := by
  rw [Lib.cell_of_heap h]
  rfl
theorem CAt.c1 {w : World} {q : Nat} {r : Rd} (h : CAt w q r) : w.cell? ⟨q, 1, none⟩ = some (.bool (!r.2)) := by
  rw [Lib.cell_of_heap h]
  rfl
theorem CAt.free {w : World} {q : Nat} {r : Rd} (h : CAt w q r) (i : Nat) : w.frozen? ⟨q, i, none⟩ = false := by simp [World.frozen?, show w.heap[q]? = _ from h]
theorem CAt.kept {w w' : World} {q : Nat} {r : Rd} (h : CAt w q r) {F : Nat → Prop} (hf : Frm F w w') (hF : ¬ F q) : CAt w' q r := (hf.block q h.lt hF).trans h
theorem CAt.below {w w' : World} {q : Nat} {r : Rd} (h : CAt w q r) (hb : Below w.heap.size w w') : CAt w' q r := (hb.block q h.lt).trans h
theorem CAt.other {w : World} {q : Nat} {r : Rd} (h : CAt w q r) (x : Addr) (hx : x.block ≠ q) (v : Value) : CAt (w.setCell x v) q r := by
  unfold CAt
  rw [Below.heap_setCell _ _ _ _ hx.symm]
  exact h
theorem CAt.on {w : World} {q : Nat} {r : Rd} (h : CAt w q r) (l : List UInt8) : CAt (w.setCell ⟨q, 0, none⟩ (.string (bs l))) q (l, r.2) := by
  unfold CAt
  rw [setCell_eq_setRow w q 0 _ _ _ _ h, setRow_heap _ _ _ _ _ _ h]
  rfl
theorem CAt.bad {w : World} {q : Nat} {r : Rd} (h : CAt w q r) : CAt ((w.setCell ⟨q, 0, none⟩ (.string ⟨#[]⟩)).setCell ⟨q, 1, none⟩ (.bool true)) q bad := by
  have h2 := h.on []
  unfold CAt at h2 ⊢
  rw [show (bs [] : ByteArray) = ⟨#[]⟩ from rfl] at h2
  rw [setCell_eq_setRow _ q 1 _ _ _ _ h2, setRow_heap _ _ _ _ _ _ h2]
  rfl
set_option maxRecDepth 100000 in
theorem code_fail {w : World} {q : Nat} {r : Rd} (hr : CAt w q r) : Calls Tryd.prog 80 #[.pointer (some ⟨q, 0, none⟩)] w fun e w' => e = .returned (.tuple #[]) ∧ CAt w' q bad ∧ Frm (atQ q) w w' := by
  have c0 := hr.c0
  have c1 := hr.c1
  have hf := hr.free
  have HR := Lib.hid hr
  go_enter Tryd.func80, Tryd.ntmps80
  go_wp2_with fail
  refine end0 rfl rfl ⟨rfl, HR.out.bad, ?_⟩
  exact Frm.set (F := atQ q) (Frm.set (F := atQ q) (Frm.refl _ w) ⟨q, 0, none⟩ (Or.inl rfl) _) ⟨q, 1, none⟩ (Or.inl rfl) _

theorem rowR_add {α : Type} (f : Rd → α × Rd) : ∀ (a b : Nat) (r : Rd), rowR f (a + b) r = ((rowR f a r).1 ++ (rowR f b (rowR f a r).2).1, (rowR f b (rowR f a r).2).2)
  | 0, b, r => by simp [rowR]
  | a + 1, b, r => by
    rw [show a + 1 + b = (a + b) + 1 by omega, rowR, rowR_add f a b, rowR]
    rfl
theorem rowR_one {α : Type} (f : Rd → α × Rd) (r : Rd) : rowR f 1 r = ([(f r).1], (f r).2) := rfl
theorem numC_bad : numC Og.bad = (0, Og.bad) := by decide
theorem hashC_bad : hashC Og.bad = (Deed.h0, Og.bad) := by decide
theorem rowR_bad {α : Type} {f : Rd → α × Rd} {z : α} (h : f Og.bad = (z, Og.bad)) : ∀ n, rowR f n Og.bad = (List.replicate n z, Og.bad)
  | 0 => rfl
  | n + 1 => by rw [rowR, h, rowR_bad h n]; rfl
theorem numC_le (r : Rd) : (numC r).2.1.length ≤ r.1.length := by
  unfold numC
  split
  · simp
  · simp [Og.bad]
theorem hashC_le (r : Rd) : (hashC r).2.1.length ≤ r.1.length := by
  unfold hashC
  split
  · simp [Og.bad]
  · simp
theorem rowR_le {α : Type} {f : Rd → α × Rd} (h : ∀ r, (f r).2.1.length ≤ r.1.length) : ∀ n r, (rowR f n r).2.1.length ≤ r.1.length
  | 0, _ => Nat.le_refl _
  | n + 1, r => by rw [rowR]; exact Nat.le_trans (rowR_le h n _) (h r)
theorem codeTake_bs (l : List UInt8) (w : World) (hs : l.length ≤ 1099511627776) : Calls Tryd.prog 79 #[.string (bs l)] w fun e w' => e = .returned (.tuple #[.int .u64 (takeL l).1, .int .i64 (takeL l).2.1, .int .i64 (takeL l).2.2]) ∧ w = w' := by
  have h := take_any (bs l) w (by rw [bs_size]; omega)
  rw [bs_toList] at h
  exact h
/-- What is nought already need not be filled. -/
theorem Fill.still {w : World} {X : Nat} {Z cs : List Value} (h : Fill w X Z cs) : ∀ (vs : List Value), (∀ j v, vs[j]? = some v → Z[cs.length + j]? = some v) → Fill w X Z (cs ++ vs)
  | vs, hv => ⟨⟨h.there, fun j v hj => by
      rw [Nat.zero_add]
      rcases Nat.lt_or_ge j cs.length with hl | hl
      · rw [List.getElem?_append_left hl] at hj
        have := h.range j v hj
        rwa [Nat.zero_add] at this
      · rw [List.getElem?_append_right hl] at hj
        have := hv _ _ hj
        exact h.rest j v hl (by rw [show cs.length + (j - cs.length) = j by omega] at this; exact this), h.lt⟩, fun j v hj hz => h.rest j v (by rw [List.length_append] at hj; omega) hz⟩
/-- Pointers to places one behind the other. -/
def ptrs (X o m : Nat) : List (Nat × Nat) := (List.range m).map fun j => (X, o + j)
theorem ptrs_len (X o m : Nat) : (ptrs X o m).length = m := by simp [ptrs]
theorem ptrs_get (X o m j : Nat) (h : j < m) : (ptrs X o m)[j]? = some (X, o + j) := by simp [ptrs, h]
abbrev atXQ (X q : Nat) : Nat → Prop := fun k => k = X ∨ k = q
theorem Fill.cellS {w : World} {X : Nat} {Z cs : List Value} (h : Fill w X Z cs) (v : Value) (o : Nat) (ho : cs.length = o) (hn : o + 1 ≤ Z.length) : Fill (w.setCell ⟨X, o, none⟩ v) X Z (cs ++ [v]) := h.cell v o ho hn
theorem Fill.other {w : World} {X : Nat} {Z cs : List Value} (h : Fill w X Z cs) (x : Addr) (hx : x.block ≠ X) (v : Value) : Fill (w.setCell x v) X Z cs :=
  h.frm (F := fun k => k = x.block) (Frm.set (F := fun k => k = x.block) (Frm.refl _ w) x (Or.inl rfl) v) (fun e => hx e.symm)
theorem Fill.drew {w : World} {X : Nat} {Z cs : List Value} (h : Fill w X Z cs) : Fill w.drew X Z cs := h.frm (F := fun _ => False) (Frm.refl _ _).drew id
theorem CAt.drew {w : World} {q : Nat} {r : Rd} (h : CAt w q r) : CAt w.drew q r := h


set_option maxRecDepth 100000 in
set_option maxHeartbeats 3200000 in
theorem code_rNumbers {w : World} {q X gs m o0 : Nat} {r : Rd} {Z cs : List Value} (ho : cs.length = o0) (hr : CAt w q r) (hf : Fill w X Z cs) (hXq : X ≠ q) (hs : r.1.length ≤ 1099511627776) (hm : m ≤ 100) (hz : ∀ j, j < m → Z[o0 + j]? = some (nV 0))
    (hv : w.heap[gs]? = some (.cells (KP.flat (ptrs X o0 m)).toArray KP.T (0, 0))) (hgX : gs ≠ X) (hgq : gs ≠ q) :
    Calls Tryd.prog 51 #[.pointer (some ⟨q, 0, none⟩), .slice (some ⟨gs, 0, none⟩) m m] w fun e w' => e = .returned (.tuple #[]) ∧ CAt w' q (rowR numC m r).2 ∧ Fill w' X Z (cs ++ (rowR numC m r).1.map nV) ∧ Frm (atXQ X q) w w' := by
  have HR := Lib.hid hr
  have HF := Lib.hid hf
  have HV := Lib.hid hv
  have HZ := Lib.hid hz
  have HS := Lib.hid hs
  have HO := Lib.hid ho
  clear hr hf hv hz hs ho
  go_enter Tryd.func51, Tryd.ntmps51
  go_upto_region 1 with (fail)
  go_loopw [11] (fun iv wr => ∃ k : Nat, k ≤ m ∧ iv = .int .i64 k ∧ CAt wr q (rowR numC k r).2 ∧ Fill wr X Z (cs ++ (rowR numC k r).1.map nV) ∧ Frm (atXQ X q) w wr) (fun iv _ => m - (intOf iv).toNat)
  case atStart => exact ⟨0, Nat.zero_le _, rfl, HR.out, by rw [rowR, List.map_nil, List.append_nil]; exact HF.out, Frm.refl _ _⟩
  case round =>
    obtain ⟨k, hk, rfl, hrd, hfl, hfr⟩ := hrel
    have HRD := Lib.hid hrd
    have HFL := Lib.hid hfl
    have HFR := Lib.hid hfr
    clear hrd hfl hfr
    by_cases hlt : k < m
    · have hki : (k : Int) < (m : Int) := by omega
      have hvr := (HFR.out.block gs (Array.getElem?_eq_some_iff.1 HV.out).1 (fun h => by rcases h with h | h; exact hgX h; exact hgq h)).trans HV.out
      have cp : wr.cell? ⟨gs, k, none⟩ = some (.pointer (some ⟨X, o0 + k, none⟩)) := by
        rw [Lib.cell_of_heap hvr, List.getElem?_toArray]
        have := KP.flat_at (ptrs X o0 m) k (X, o0 + k) 0 (pV (X, o0 + k)) (ptrs_get X o0 m k hlt) rfl
        simpa [KP] using this
      have HADD := Lib.hid (rowR_add numC k 1 r)
      have HLK := Lib.hid (rowR_le numC_le k r)
      have HLN := Lib.hid (rowR_len numC k r)
      have HBAD := Lib.hid (fun h : numC (rowR numC k r).2 = (0, Og.bad) => show rowR numC m r = ((rowR numC k r).1 ++ List.replicate (m - k) 0, Og.bad) by
        rw [show m = k + ((m - k - 1) + 1) by omega, rowR_add numC k, rowR, h, rowR_bad numC_bad, show k + (m - k - 1 + 1) - k = (m - k - 1) + 1 by omega]
        rfl)
      obtain ⟨⟨xs, rk⟩, hK⟩ : ∃ R, rowR numC k r = R := ⟨_, rfl⟩
      rw [hK] at HRD HFL HADD HLK HLN HBAD
      simp only at HRD HFL HADD HLK HLN HBAD
      rw [rowR_one] at HADD
      clear hK hvr
      have c0 := HRD.out.c0
      have hfq := HRD.out.free
      have HLS := Lib.hid (Nat.le_trans HLK.out HS.out)
      have HT := Lib.hid (codeTake_bs rk.1 wr HLS.out)
      obtain ⟨lk, bk⟩ := rk
      simp only at c0 HT HLS
      have hnum : numC (lk, bk) = if (takeL lk).2.2 = 0 then (UInt64.ofNat (takeL lk).1, lk.drop (takeL lk).2.1, bk) else (0, Og.bad) := rfl
      obtain ⟨⟨n, z, e0⟩, hT⟩ : ∃ R, takeL lk = R := ⟨_, rfl⟩
      rw [hT] at HT hnum
      simp only at HT hnum
      obtain ⟨SS, hSS⟩ : ∃ S, bs lk = S := ⟨_, rfl⟩
      have HSS := Lib.hid hSS
      rw [hSS] at HT c0
      have hSn : SS.size = lk.length := by rw [← hSS, bs_size]
      have hcl : cs.length + xs.length = o0 + k := by rw [HLN.out]; have := HO.out; omega
      by_cases he : e0 = 0
      · subst he
        rw [if_pos rfl] at hnum
        obtain ⟨hn1, hz1⟩ := takeL_ok hT
        have HNV := Lib.hid (show nV (UInt64.ofNat n) = .int .u64 n by unfold nV; rw [UInt64.toNat_ofNat', Nat.mod_eq_of_lt hn1])
        rw [hnum] at HADD
        have HA := Lib.hid HADD.out
        have hz0i : (0 : Int) ≤ (z : Int) := by omega
        have hz1i : (z : Int) ≤ (SS.size : Int) := by omega
        have hnz : ¬ lk.length < z := by omega
        have HZK := Lib.hid (HZ.out k hlt)
        have HFO := Lib.hid (Fill.old HFL.out (o0 + k) (nV 0) (by rw [List.length_append, List.length_map]; exact hcl) HZK.out)
        have HFC := Lib.hid (fun (wz : World) (h : Fill wz X Z (cs ++ xs.map nV)) => Fill.cell h (nV (UInt64.ofNat n)) (o0 + k) (by rw [List.length_append, List.length_map]; exact hcl) (List.getElem?_eq_some_iff.1 HZK.out).1)
        have HSD := Lib.hid (show SS.extract z lk.length = bs (lk.drop z) by rw [← hSS, bs_drop])
        clear hnum hT hSS hcl HADD HBAD
        go_upto_region 6 with (go_at_call 79; refine HT.out.mono ?_; rintro e w1 ⟨rfl, rfl⟩)
        have hA : wr.drew.cell? ⟨q, 0, none⟩ = some (.string SS) := c0
        have hcX : wr.drew.cell? ⟨X, o0 + k, none⟩ = some (nV 0) := HFO.out.1
        have hfX : wr.drew.frozen? ⟨X, o0 + k, none⟩ = false := HFO.out.2
        have hJB : (wr.drew.setCell ⟨X, o0 + k, none⟩ (.int .u64 n)).cell? ⟨q, 0, none⟩ = some (.string SS) := by
          rw [CAt.c0 (HRD.out.drew.other ⟨X, o0 + k, none⟩ hXq _), HSS.out]
        have zq : SS.size = lk.length := hSn
        refine QT.wp_region_turn_tail 11 10 (by kernel_rfl) (fun wz => wz.cell? ⟨q, 0, none⟩ = some (.string SS)) (wr.drew.setCell ⟨X, o0 + k, none⟩ (.int .u64 n)) (fun zi v => v = ([.pointer (some ⟨X, o0 + k, none⟩), .pointer (some ⟨q, 0, none⟩), .int .u64 n, .pointer (some ⟨q, 0, none⟩), .pointer (some ⟨q, 0, none⟩), .pointer (some ⟨q, 0, none⟩), .string SS, .int .i64 z, .string (SS.extract z lk.length), .pointer (some ⟨X, o0 + k, none⟩), undef] : List Value).getD zi undef) (by kernel_rfl) (by kernel_rfl) (by decide) hA (fun zi o hzn hzi ho a wz hJ hag hdep => ?_) (fun o ho a hag hdep => ?_) (fun a hag hf => ?_)
        · have t0 : a.eval (.tmp 0) = .pointer (some ⟨q, 0, none⟩) := hag.old 0 _ (by kernel_rfl) rfl
          have t5 : a.eval (.tmp 5) = .pointer (some ⟨X, o0 + k, none⟩) := hag.old 5 _ (by kernel_rfl) rfl
          have t6 : a.eval (.tmp 6) = .int .u64 n := hag.old 6 _ (by kernel_rfl) rfl
          have t7 : a.eval (.tmp 7) = .int .i64 z := hag.old 7 _ (by kernel_rfl) rfl
          match zi, hzn, hzi, ho with
          | 0, _, _, ho =>
            obtain rfl := (Option.some.inj ho).symm
            exact ⟨rfl, QT.wp_value (BigFrame.run_move (.tmp 5) rfl wz) ⟨_, rfl, t5, rfl⟩⟩
          | 1, _, _, ho =>
            obtain rfl := (Option.some.inj ho).symm
            exact ⟨rfl, QT.wp_value (BigFrame.run_move (.tmp 0) rfl wz) ⟨_, rfl, t0, rfl⟩⟩
          | 2, _, _, ho =>
            obtain rfl := (Option.some.inj ho).symm
            exact ⟨rfl, QT.wp_value (BigFrame.run_move (.tmp 6) rfl wz) ⟨_, rfl, t6, rfl⟩⟩
          | 3, _, _, ho =>
            obtain rfl := (Option.some.inj ho).symm
            exact ⟨rfl, QT.wp_value (BigFrame.run_move (.tmp 0) rfl wz) ⟨_, rfl, t0, rfl⟩⟩
          | 4, _, _, ho =>
            obtain rfl := (Option.some.inj ho).symm
            have d31 : a.eval (.tmp 31) = .pointer (some ⟨q, 0, none⟩) := hdep _ (Array.mem_of_getElem? (i := 0) rfl) rfl _ _ rfl rfl
            exact ⟨rfl, QT.wp_value (v := .pointer (some ⟨q, 0, none⟩)) (by simp [go_sem, QT.nf d31]) ⟨_, rfl, rfl, rfl⟩⟩
          | 5, _, _, ho =>
            obtain rfl := (Option.some.inj ho).symm
            have d32 : a.eval (.tmp 32) = .pointer (some ⟨q, 0, none⟩) := hdep _ (Array.mem_of_getElem? (i := 0) rfl) rfl _ _ rfl rfl
            exact ⟨rfl, QT.wp_value (v := .pointer (some ⟨q, 0, none⟩)) (by simp [go_sem, QT.nf d32]) ⟨_, rfl, rfl, rfl⟩⟩
          | 6, _, _, ho =>
            obtain rfl := (Option.some.inj ho).symm
            have d33 : a.eval (.tmp 33) = .pointer (some ⟨q, 0, none⟩) := hdep _ (Array.mem_of_getElem? (i := 0) rfl) rfl _ _ rfl rfl
            exact ⟨rfl, QT.wp_value (v := .string SS) (by simp [go_sem, QT.nf d33, (show _ from hJ)]) ⟨_, rfl, rfl, rfl⟩⟩
          | 7, _, _, ho =>
            obtain rfl := (Option.some.inj ho).symm
            exact ⟨rfl, QT.wp_value (BigFrame.run_move (.tmp 7) rfl wz) ⟨_, rfl, t7, rfl⟩⟩
          | 8, _, _, ho =>
            obtain rfl := (Option.some.inj ho).symm
            have d34 : a.eval (.tmp 34) = .string SS := hdep _ (Array.mem_of_getElem? (i := 0) rfl) rfl _ _ rfl rfl
            have d35 : a.eval (.tmp 35) = .int .i64 z := hdep _ (Array.mem_of_getElem? (i := 1) rfl) rfl _ _ rfl rfl
            exact ⟨rfl, QT.wp_value (v := .string (SS.extract z lk.length)) (by simp [go_sem, QT.nf d34, QT.nf d35, hz0i, zq, hnz]) ⟨_, rfl, rfl, rfl⟩⟩
          | 9, _, _, ho =>
            obtain rfl := (Option.some.inj ho).symm
            have d28 : a.eval (.tmp 28) = .pointer (some ⟨X, o0 + k, none⟩) := hdep _ (Array.mem_of_getElem? (i := 0) rfl) rfl _ _ rfl rfl
            exact ⟨rfl, QT.wp_value (v := .pointer (some ⟨X, o0 + k, none⟩)) (by simp [go_sem, QT.nf d28]) ⟨_, rfl, rfl, rfl⟩⟩
          | 10, _, hn, _ => exact absurd rfl hn
          | zi + 11, hn, _, _ => omega
        · have t0 : a.eval (.tmp 0) = .pointer (some ⟨q, 0, none⟩) := hag.old 0 _ (by kernel_rfl) rfl
          have t5 : a.eval (.tmp 5) = .pointer (some ⟨X, o0 + k, none⟩) := hag.old 5 _ (by kernel_rfl) rfl
          have t6 : a.eval (.tmp 6) = .int .u64 n := hag.old 6 _ (by kernel_rfl) rfl
          have t7 : a.eval (.tmp 7) = .int .i64 z := hag.old 7 _ (by kernel_rfl) rfl
          obtain rfl := (Option.some.inj ho).symm
          have d37 : a.eval (.tmp 37) = .pointer (some ⟨X, o0 + k, none⟩) := hdep _ (Array.mem_of_getElem? (i := 0) rfl) rfl _ _ rfl rfl
          have d30 : a.eval (.tmp 30) = .int .u64 n := hdep _ (Array.mem_of_getElem? (i := 1) rfl) rfl _ _ rfl rfl
          refine ⟨rfl, ?_⟩
          unfold Oper.wp
          simp [go_sem, QT.nf d37, QT.nf d30, hcX, hfX]
          exact hA
        · have f0 : a.eval (.tmp 28) = .pointer (some ⟨X, o0 + k, none⟩) := hf 0 _ _ (by decide) rfl rfl
          have f1 : a.eval (.tmp 29) = .pointer (some ⟨q, 0, none⟩) := hf 1 _ _ (by decide) rfl rfl
          have f2 : a.eval (.tmp 30) = .int .u64 n := hf 2 _ _ (by decide) rfl rfl
          have f3 : a.eval (.tmp 31) = .pointer (some ⟨q, 0, none⟩) := hf 3 _ _ (by decide) rfl rfl
          have f4 : a.eval (.tmp 32) = .pointer (some ⟨q, 0, none⟩) := hf 4 _ _ (by decide) rfl rfl
          have f5 : a.eval (.tmp 33) = .pointer (some ⟨q, 0, none⟩) := hf 5 _ _ (by decide) rfl rfl
          have f6 : a.eval (.tmp 34) = .string SS := hf 6 _ _ (by decide) rfl rfl
          have f7 : a.eval (.tmp 35) = .int .i64 z := hf 7 _ _ (by decide) rfl rfl
          have f8 : a.eval (.tmp 36) = .string (SS.extract z lk.length) := hf 8 _ _ (by decide) rfl rfl
          have f9 : a.eval (.tmp 37) = .pointer (some ⟨X, o0 + k, none⟩) := hf 9 _ _ (by decide) rfl rfl
          have ha := QT.Agrees.putsN hag [(28, .pointer (some ⟨X, o0 + k, none⟩)), (29, .pointer (some ⟨q, 0, none⟩)), (30, .int .u64 n), (31, .pointer (some ⟨q, 0, none⟩)), (32, .pointer (some ⟨q, 0, none⟩)), (33, .pointer (some ⟨q, 0, none⟩)), (34, .string SS), (35, .int .i64 z), (36, .string (SS.extract z lk.length)), (37, .pointer (some ⟨X, o0 + k, none⟩))] (by kernel_rfl) (by simp) (by simp only [List.forall_mem_cons, List.not_mem_nil, false_implies, implies_true, and_true]; exact ⟨f0, f1, f2, f3, f4, f5, f6, f7, f8, f9⟩)
          subst ha
          clear hag hf f0 f1 f2 f3 f4 f5 f6 f7 f8 f9
          simp only [List.foldl_cons, List.foldl_nil, Act.put, List.drop_succ_cons, List.drop_zero, List.setIfInBounds_toArray, List.set_cons_succ, List.set_cons_zero]
          have hfB : (wr.drew.setCell ⟨X, o0 + k, none⟩ (.int .u64 n)).frozen? ⟨q, 0, none⟩ = false := (HRD.out.drew.other ⟨X, o0 + k, none⟩ hXq _).free 0
          have HB1 := Lib.hid (HRD.out.drew.other ⟨X, o0 + k, none⟩ hXq (.int .u64 n))
          have HB2 := Lib.hid (by have h := HFC.out _ (Og.Fill.drew HFL.out); rw [HNV.out] at h; exact h)
          have HB3 := Lib.hid (show Frm (atXQ X q) wr (wr.drew.setCell ⟨X, o0 + k, none⟩ (.int .u64 n)) from Frm.set (F := atXQ X q) (Frm.refl _ wr).drew ⟨X, o0 + k, none⟩ (Or.inl (Or.inl rfl)) _)
          generalize wr.drew.setCell ⟨X, o0 + k, none⟩ (.int .u64 n) = wB at hJB hfB HB1 HB2 HB3 ⊢
          go_wp2_with fail
          go_roundw
          case rel =>
            refine ⟨k + 1, by omega, by go_num, ?_, ?_, ?_⟩
            · rw [HA.out, HSD.out]
              exact HB1.out.on _
            · rw [HA.out, List.map_append, ← List.append_assoc]
              simp only [List.map_cons, List.map_nil]
              rw [show nV (UInt64.ofNat n) = _ from HNV.out]
              exact Og.Fill.other HB2.out ⟨q, 0, none⟩ (fun e => hXq e.symm) _
            · exact (HFR.out.trans HB3.out (fun _ h => Or.inl h)).trans (Frm.set (F := atXQ X q) (Frm.refl _ wB) ⟨q, 0, none⟩ (Or.inl (Or.inr rfl)) _) (fun _ h => Or.inl h)
          case measure => simp [intOf]; omega
      · rw [if_neg he] at hnum
        have hei : ((e0 : Int) == 0) = false := by simp; omega
        have HA := Lib.hid (HBAD.out hnum)
        have HSTILL := Lib.hid (fun (wz : World) (h : Fill wz X Z (cs ++ xs.map nV)) => Og.Fill.still h ((List.replicate (m - k) (0 : UInt64)).map nV) (fun j v hv => by
          rw [List.getElem?_map, List.getElem?_replicate] at hv
          split at hv
          · next hj =>
            simp at hv
            subst hv
            rw [List.length_append, List.length_map, hcl, Nat.add_assoc]
            exact HZ.out (k + j) (by omega)
          · simp at hv))
        have HFA := Lib.hid (code_fail HRD.out)
        clear hnum hT hSS hcl HADD HBAD
        go_wp2_with (first
          | (go_at_call 79; refine HT.out.mono ?_; rintro e w1 ⟨rfl, rfl⟩)
          | (go_at_call 80; refine HFA.out.mono ?_; rintro e w2 ⟨rfl, hr2, hf2⟩))
        refine bodyPost_ret (v := .tuple #[]) (by simp [results, Tryd.results51, Sem.run_pure]) rfl ⟨rfl, by rw [HA.out]; exact hr2, ?_, HFR.out.trans hf2 (fun _ h => Or.inl (Or.inr h))⟩
        rw [HA.out, List.map_append, ← List.append_assoc]
        exact HSTILL.out _ (HFL.out.frm hf2 hXq)
    · obtain rfl : k = m := by omega
      go_wp2_with fail
      refine end0 rfl rfl ⟨rfl, HRD.out, HFL.out, HFR.out⟩


theorem run_copy_long {P : Program} (w : World) (dT sT ty elem : TypeId) (b o dLen dCap : Nat) (t : ByteArray)
    (hu : P.underlying dT = some (.slice elem)) (hz : ∀ w, (Go.sizeOf elem).run P w = .ok 1 w) (hle : dLen ≤ t.size)
    (hc : ∀ j, j < dLen → (w.cell? ⟨b, o + j, none⟩).isSome = true) (hf : ∀ j, j < dLen → w.frozen? ⟨b, o + j, none⟩ = false) :
    (Builtin.copy_ #[dT, sT] ty #[.slice (some ⟨b, o, none⟩) dLen dCap, .string t]).run P w = .ok (goInt dLen) (w.setCells b o ((t.data.toList.take dLen).map fun x => Value.int .u8 (x.toNat : Int))) := by
  have hmin : Nat.min t.size dLen = dLen := Nat.min_eq_right hle
  have hl : ((t.data.toList.take dLen).map fun x => Value.int .u8 (x.toNat : Int)).length = dLen := by rw [List.length_map, List.length_take, ← Lib.size_eq]; omega
  have hst := run_storeCells_cells (P := P) b o ((t.data.toList.take dLen).map fun x => Value.int .u8 (x.toNat : Int)) 0 w (by rw [hl]; simpa using hc) (by rw [hl]; simpa using hf) (by
    intro v hv
    obtain ⟨x, _, rfl⟩ := List.mem_map.1 hv
    rfl)
  simp [Builtin.copy_, run_underlying hu, Builtin.lenOf, Builtin.firstCells, hz, hmin]
  rw [List.map_take] at hst
  rw [hst]
  rfl
theorem u8_size (w : World) : (sizeOf 5).run Tryd.prog w = .ok 1 w := by kernel_rfl
abbrev hsC (xs : List H32) : List Value := xs.flatMap fun x => valsB x.1
theorem hsC_len (xs : List H32) : (hsC xs).length = xs.length * 32 := by
  induction xs with
  | nil => rfl
  | cons x xs ih => unfold hsC at ih ⊢; rw [List.flatMap_cons, List.length_append, ih, valsB_32, List.length_cons]; omega
theorem hsC_zero (n : Nat) : hsC (List.replicate n Deed.h0) = List.replicate (n * 32) (Value.int .u8 0) := by
  induction n with
  | zero => simp [hsC]
  | succ n ih =>
    unfold hsC at ih ⊢
    rw [List.replicate_succ, List.flatMap_cons, ih, show (n + 1) * 32 = 32 + n * 32 by omega, ← List.replicate_append_replicate]
    rfl
theorem Fill.row' {w : World} {X : Nat} {Z cs : List Value} (h : Fill w X Z cs) (vs : List Value) (o : Nat) (ho : cs.length = o) (hn : o + vs.length ≤ Z.length) : Fill (w.setCells X o vs) X Z (cs ++ vs) := Deed.Fill.row h vs o ho hn
theorem CAt.otherCells {q : Nat} {r : Rd} (X : Nat) (hX : X ≠ q) : ∀ (vs : List Value) (o : Nat) {w : World}, CAt w q r → CAt (w.setCells X o vs) q r
  | [], _, _, h => h
  | v :: vs, o, _, h => CAt.otherCells X hX vs (o + 1) (h.other ⟨X, o, none⟩ hX v)
def qtrs (X o m : Nat) : List (Nat × Nat) := (List.range m).map fun j => (X, o + 32 * j)
theorem qtrs_len (X o m : Nat) : (qtrs X o m).length = m := by simp [qtrs]
theorem qtrs_get (X o m j : Nat) (h : j < m) : (qtrs X o m)[j]? = some (X, o + 32 * j) := by simp [qtrs, h]


set_option maxRecDepth 100000 in
set_option maxHeartbeats 3200000 in
theorem code_rHashes {w : World} {q X gs m o0 : Nat} {r : Rd} {Z cs : List Value} (ho : cs.length = o0) (hr : CAt w q r) (hf : Fill w X Z cs) (hXq : X ≠ q) (hs : r.1.length ≤ 1099511627776) (hm : m ≤ 100) (hz : ∀ j, j < m * 32 → Z[o0 + j]? = some (Value.int .u8 0))
    (hv : w.heap[gs]? = some (.cells (KQ.flat (qtrs X o0 m)).toArray KQ.T (0, 0))) (hgX : gs ≠ X) (hgq : gs ≠ q) :
    Calls Tryd.prog 52 #[.pointer (some ⟨q, 0, none⟩), .slice (some ⟨gs, 0, none⟩) m m] w fun e w' => e = .returned (.tuple #[]) ∧ CAt w' q (rowR hashC m r).2 ∧ Fill w' X Z (cs ++ hsC (rowR hashC m r).1) ∧ Frm (atXQ X q) w w' := by
  have HR := Lib.hid hr
  have HF := Lib.hid hf
  have HV := Lib.hid hv
  have HZ := Lib.hid hz
  have HS := Lib.hid hs
  have HO := Lib.hid ho
  clear hr hf hv hz hs ho
  go_enter Tryd.func52, Tryd.ntmps52
  go_upto_region 1 with (fail)
  go_loopw [8] (fun iv wr => ∃ k : Nat, k ≤ m ∧ iv = .int .i64 k ∧ CAt wr q (rowR hashC k r).2 ∧ Fill wr X Z (cs ++ hsC (rowR hashC k r).1) ∧ Frm (atXQ X q) w wr) (fun iv _ => m - (intOf iv).toNat)
  case atStart => exact ⟨0, Nat.zero_le _, rfl, HR.out, by rw [rowR]; simp only [hsC, List.flatMap_nil, List.append_nil]; exact HF.out, Frm.refl _ _⟩
  case round =>
    obtain ⟨k, hk, rfl, hrd, hfl, hfr⟩ := hrel
    have HRD := Lib.hid hrd
    have HFL := Lib.hid hfl
    have HFR := Lib.hid hfr
    clear hrd hfl hfr
    by_cases hlt : k < m
    · have hki : (k : Int) < (m : Int) := by omega
      have hvr := (HFR.out.block gs (Array.getElem?_eq_some_iff.1 HV.out).1 (fun h => by rcases h with h | h; exact hgX h; exact hgq h)).trans HV.out
      have cp : wr.cell? ⟨gs, k, none⟩ = some (.pointer (some ⟨X, o0 + 32 * k, none⟩)) := by
        rw [Lib.cell_of_heap hvr, List.getElem?_toArray]
        have := KQ.flat_at (qtrs X o0 m) k (X, o0 + 32 * k) 0 (pV (X, o0 + 32 * k)) (qtrs_get X o0 m k hlt) rfl
        simpa [KQ] using this
      have HADD := Lib.hid (rowR_add hashC k 1 r)
      have HLK := Lib.hid (rowR_le hashC_le k r)
      have HLN := Lib.hid (rowR_len hashC k r)
      have HBAD := Lib.hid (fun h : hashC (rowR hashC k r).2 = (Deed.h0, Og.bad) => show rowR hashC m r = ((rowR hashC k r).1 ++ List.replicate (m - k) Deed.h0, Og.bad) by
        rw [show m = k + ((m - k - 1) + 1) by omega, rowR_add hashC k, rowR, h, rowR_bad hashC_bad, show k + (m - k - 1 + 1) - k = (m - k - 1) + 1 by omega]
        rfl)
      obtain ⟨⟨xs, rk⟩, hK⟩ : ∃ R, rowR hashC k r = R := ⟨_, rfl⟩
      rw [hK] at HRD HFL HADD HLK HLN HBAD
      simp only at HRD HFL HADD HLK HLN HBAD
      rw [rowR_one] at HADD
      clear hK hvr
      have c0 := HRD.out.c0
      have hfq := HRD.out.free
      have HLS := Lib.hid (Nat.le_trans HLK.out HS.out)
      obtain ⟨lk, bk⟩ := rk
      simp only at c0 HLS
      have hcl : (cs ++ hsC xs).length = o0 + 32 * k := by rw [List.length_append, hsC_len, HLN.out]; have := HO.out; omega
      obtain ⟨SS, hSS⟩ : ∃ S, bs lk = S := ⟨_, rfl⟩
      have HSS := Lib.hid hSS
      rw [hSS] at c0
      have hSn : SS.size = lk.length := by rw [← hSS, bs_size]
      by_cases he : lk.length < 32
      · have hbad : hashC (lk, bk) = (Deed.h0, Og.bad) := by unfold hashC; rw [dif_pos he]
        have hei : (SS.size : Int) < 32 := by omega
        have HA := Lib.hid (HBAD.out hbad)
        have HSTILL := Lib.hid (fun (wz : World) (h : Fill wz X Z (cs ++ hsC xs)) => Og.Fill.still h (hsC (List.replicate (m - k) Deed.h0)) (fun j v hv => by
          rw [hsC_zero, List.getElem?_replicate] at hv
          split at hv
          · next hj =>
            simp at hv
            subst hv
            rw [hcl, Nat.add_assoc]
            exact HZ.out (32 * k + j) (by rw [Nat.sub_mul] at hj; omega)
          · simp at hv))
        have HFA := Lib.hid (code_fail HRD.out)
        clear hbad hSS hcl HADD HBAD
        go_wp2_with (first
          | (go_at_call 80; refine HFA.out.mono ?_; rintro e w2 ⟨rfl, hr2, hf2⟩))
        refine bodyPost_ret (v := .tuple #[]) (by simp [results, Tryd.results52, Sem.run_pure]) rfl ⟨rfl, by rw [HA.out]; exact hr2, ?_, HFR.out.trans hf2 (fun _ h => Or.inl (Or.inr h))⟩
        rw [HA.out]
        simp only [hsC, List.flatMap_append]
        rw [← List.append_assoc]
        exact HSTILL.out _ (HFL.out.frm hf2 hXq)
      · have hgd : hashC (lk, bk) = (⟨lk.take 32, by rw [List.length_take]; omega⟩, lk.drop 32, bk) := by unfold hashC; rw [dif_neg he]
        have hei : decide ((SS.size : Int) < 32) = false := decide_eq_false (by omega)
        rw [hgd] at HADD
        have HA := Lib.hid HADD.out
        have HZL := Lib.hid (show o0 + 32 * k + 32 ≤ Z.length by
          have := (List.getElem?_eq_some_iff.1 (HZ.out (32 * k + 31) (by omega))).1
          omega)
        have HFC := Lib.hid (fun (wz : World) (h : Fill wz X Z (cs ++ hsC xs)) => Fill.row' h (valsB (lk.take 32)) (o0 + 32 * k) hcl (by simp only [valsB, List.length_map, List.length_take]; have := HZL.out; omega))
        have HSD := Lib.hid (show SS.extract 32 lk.length = bs (lk.drop 32) by rw [← hSS, bs_drop])
        have hrun := run_copy_long (P := Tryd.prog) wr.drew 109 9 3 5 X (o0 + 32 * k) 32 32 SS Tryd.underlying109 u8_size (by omega) (fun j hj => (HFL.out.toVar.room (o0 + 32 * k) 32 HZL.out j hj).1) (fun j hj => (HFL.out.toVar.room (o0 + 32 * k) 32 HZL.out j hj).2)
        rw [show ((SS.data.toList.take 32).map fun x => Value.int .u8 (x.toNat : Int)) = valsB (lk.take 32) by rw [← hSS]; rfl] at hrun
        have hA : wr.drew.cell? ⟨q, 0, none⟩ = some (.string SS) := c0
        have hJB : (wr.drew.setCells X (o0 + 32 * k) (valsB (lk.take 32))).cell? ⟨q, 0, none⟩ = some (.string SS) := by
          rw [CAt.c0 (CAt.otherCells X hXq _ _ HRD.out.drew), HSS.out]
        have hnzi : ¬ (SS.size : Int) < 32 := by omega
        have HB1 := Lib.hid (CAt.otherCells X hXq (valsB (lk.take 32)) (o0 + 32 * k) HRD.out.drew)
        have HB2 := Lib.hid (HFC.out _ (Og.Fill.drew HFL.out))
        have HB3 := Lib.hid (show Frm (atXQ X q) wr (wr.drew.setCells X (o0 + 32 * k) (valsB (lk.take 32))) from Frm.setCells (F := atXQ X q) X (Or.inl (Or.inl rfl)) _ _ _ (Frm.refl _ wr).drew)
        have hfB := HB1.out.free 0
        clear hgd hSS hcl HADD HBAD
        generalize wr.drew.setCells X (o0 + 32 * k) (valsB (lk.take 32)) = wB at hrun hJB HB1 HB2 HB3 hfB
        go_upto_region 5 with (fail)
        refine QT.wp_region_turn_tail 14 12 (by kernel_rfl) (fun wz => wz.cell? ⟨q, 0, none⟩ = some (.string SS)) wB (fun zi v => v = ([.pointer (some ⟨q, 0, none⟩), .pointer (some ⟨q, 0, none⟩), .pointer (some ⟨q, 0, none⟩), .pointer (some ⟨q, 0, none⟩), .string SS, .pointer (some ⟨X, o0 + 32 * k, none⟩), .pointer (some ⟨X, o0 + 32 * k, none⟩), .slice (some ⟨X, o0 + 32 * k, none⟩) 32 32, .pointer (some ⟨q, 0, none⟩), .pointer (some ⟨q, 0, none⟩), .pointer (some ⟨q, 0, none⟩), .string SS, .int .i64 32, .string (SS.extract 32 SS.size)] : List Value).getD zi undef) (by kernel_rfl) (by kernel_rfl) (by decide) hA (fun zi o hzn hzi ho a wz hJ hag hdep => ?_) (fun o ho a hag hdep => ?_) (fun a hag hf => ?_)
        · have t0 : a.eval (.tmp 0) = .pointer (some ⟨q, 0, none⟩) := hag.old 0 _ (by kernel_rfl) rfl
          have t5 : a.eval (.tmp 5) = .pointer (some ⟨X, o0 + 32 * k, none⟩) := hag.old 5 _ (by kernel_rfl) rfl
          match zi, hzn, hzi, ho with
          | 0, _, _, ho =>
            obtain rfl := (Option.some.inj ho).symm
            exact ⟨rfl, QT.wp_value (BigFrame.run_move (.tmp 0) rfl wz) ⟨_, rfl, t0, rfl⟩⟩
          | 1, _, _, ho =>
            obtain rfl := (Option.some.inj ho).symm
            exact ⟨rfl, QT.wp_value (BigFrame.run_move (.tmp 0) rfl wz) ⟨_, rfl, t0, rfl⟩⟩
          | 2, _, _, ho =>
            obtain rfl := (Option.some.inj ho).symm
            have d21 : a.eval (.tmp 21) = .pointer (some ⟨q, 0, none⟩) := hdep _ (Array.mem_of_getElem? (i := 0) rfl) rfl _ _ rfl rfl
            exact ⟨rfl, QT.wp_value (v := .pointer (some ⟨q, 0, none⟩)) (by simp [go_sem, QT.nf d21]) ⟨_, rfl, rfl, rfl⟩⟩
          | 3, _, _, ho =>
            obtain rfl := (Option.some.inj ho).symm
            have d22 : a.eval (.tmp 22) = .pointer (some ⟨q, 0, none⟩) := hdep _ (Array.mem_of_getElem? (i := 0) rfl) rfl _ _ rfl rfl
            exact ⟨rfl, QT.wp_value (v := .pointer (some ⟨q, 0, none⟩)) (by simp [go_sem, QT.nf d22]) ⟨_, rfl, rfl, rfl⟩⟩
          | 4, _, _, ho =>
            obtain rfl := (Option.some.inj ho).symm
            have d23 : a.eval (.tmp 23) = .pointer (some ⟨q, 0, none⟩) := hdep _ (Array.mem_of_getElem? (i := 0) rfl) rfl _ _ rfl rfl
            exact ⟨rfl, QT.wp_value (v := .string SS) (by simp [go_sem, QT.nf d23, (show _ from hJ)]) ⟨_, rfl, rfl, rfl⟩⟩
          | 5, _, _, ho =>
            obtain rfl := (Option.some.inj ho).symm
            exact ⟨rfl, QT.wp_value (BigFrame.run_move (.tmp 5) rfl wz) ⟨_, rfl, t5, rfl⟩⟩
          | 6, _, _, ho =>
            obtain rfl := (Option.some.inj ho).symm
            have d25 : a.eval (.tmp 25) = .pointer (some ⟨X, o0 + 32 * k, none⟩) := hdep _ (Array.mem_of_getElem? (i := 0) rfl) rfl _ _ rfl rfl
            exact ⟨rfl, QT.wp_value (v := .pointer (some ⟨X, o0 + 32 * k, none⟩)) (by simp [go_sem, QT.nf d25]) ⟨_, rfl, rfl, rfl⟩⟩
          | 7, _, _, ho =>
            obtain rfl := (Option.some.inj ho).symm
            have d26 : a.eval (.tmp 26) = .pointer (some ⟨X, o0 + 32 * k, none⟩) := hdep _ (Array.mem_of_getElem? (i := 0) rfl) rfl _ _ rfl rfl
            exact ⟨rfl, QT.wp_value (v := .slice (some ⟨X, o0 + 32 * k, none⟩) 32 32) (by simp [go_sem, QT.nf d26]) ⟨_, rfl, rfl, rfl⟩⟩
          | 8, _, _, ho =>
            obtain rfl := (Option.some.inj ho).symm
            exact ⟨rfl, QT.wp_value (BigFrame.run_move (.tmp 0) rfl wz) ⟨_, rfl, t0, rfl⟩⟩
          | 9, _, _, ho =>
            obtain rfl := (Option.some.inj ho).symm
            have d28 : a.eval (.tmp 28) = .pointer (some ⟨q, 0, none⟩) := hdep _ (Array.mem_of_getElem? (i := 0) rfl) rfl _ _ rfl rfl
            exact ⟨rfl, QT.wp_value (v := .pointer (some ⟨q, 0, none⟩)) (by simp [go_sem, QT.nf d28]) ⟨_, rfl, rfl, rfl⟩⟩
          | 10, _, _, ho =>
            obtain rfl := (Option.some.inj ho).symm
            have d29 : a.eval (.tmp 29) = .pointer (some ⟨q, 0, none⟩) := hdep _ (Array.mem_of_getElem? (i := 0) rfl) rfl _ _ rfl rfl
            exact ⟨rfl, QT.wp_value (v := .pointer (some ⟨q, 0, none⟩)) (by simp [go_sem, QT.nf d29]) ⟨_, rfl, rfl, rfl⟩⟩
          | 11, _, _, ho =>
            obtain rfl := (Option.some.inj ho).symm
            have d30 : a.eval (.tmp 30) = .pointer (some ⟨q, 0, none⟩) := hdep _ (Array.mem_of_getElem? (i := 0) rfl) rfl _ _ rfl rfl
            exact ⟨rfl, QT.wp_value (v := .string SS) (by simp [go_sem, QT.nf d30, (show _ from hJ)]) ⟨_, rfl, rfl, rfl⟩⟩
          | 12, _, hn, _ => exact absurd rfl hn
          | 13, _, _, ho =>
            obtain rfl := (Option.some.inj ho).symm
            have d24 : a.eval (.tmp 24) = .string SS := hdep _ (Array.mem_of_getElem? (i := 0) rfl) rfl _ _ rfl rfl
            have d32 : a.eval (.tmp 32) = .int .i64 32 := hdep _ (Array.mem_of_getElem? (i := 1) rfl) rfl _ _ rfl rfl
            exact ⟨rfl, QT.wp_value (v := .string (SS.extract 32 SS.size)) (by simp [go_sem, QT.nf d24, QT.nf d32, hnzi]) ⟨_, rfl, rfl, rfl⟩⟩
          | zi + 14, hn, _, _ => omega
        · have t0 : a.eval (.tmp 0) = .pointer (some ⟨q, 0, none⟩) := hag.old 0 _ (by kernel_rfl) rfl
          have t5 : a.eval (.tmp 5) = .pointer (some ⟨X, o0 + 32 * k, none⟩) := hag.old 5 _ (by kernel_rfl) rfl
          obtain rfl := (Option.some.inj ho).symm
          have d27 : a.eval (.tmp 27) = .slice (some ⟨X, o0 + 32 * k, none⟩) 32 32 := hdep _ (Array.mem_of_getElem? (i := 0) rfl) rfl _ _ rfl rfl
          have d31 : a.eval (.tmp 31) = .string SS := hdep _ (Array.mem_of_getElem? (i := 1) rfl) rfl _ _ rfl rfl
          refine ⟨rfl, ?_⟩
          unfold Oper.wp
          simp [execOp, resolve, invoke, builtin, d27, d31, hrun, Result.andThen]
          exact ⟨_, rfl, rfl, rfl, hJB⟩
        · have f0 : a.eval (.tmp 20) = .pointer (some ⟨q, 0, none⟩) := hf 0 _ _ (by decide) rfl rfl
          have f1 : a.eval (.tmp 21) = .pointer (some ⟨q, 0, none⟩) := hf 1 _ _ (by decide) rfl rfl
          have f2 : a.eval (.tmp 22) = .pointer (some ⟨q, 0, none⟩) := hf 2 _ _ (by decide) rfl rfl
          have f3 : a.eval (.tmp 23) = .pointer (some ⟨q, 0, none⟩) := hf 3 _ _ (by decide) rfl rfl
          have f4 : a.eval (.tmp 24) = .string SS := hf 4 _ _ (by decide) rfl rfl
          have f5 : a.eval (.tmp 25) = .pointer (some ⟨X, o0 + 32 * k, none⟩) := hf 5 _ _ (by decide) rfl rfl
          have f6 : a.eval (.tmp 26) = .pointer (some ⟨X, o0 + 32 * k, none⟩) := hf 6 _ _ (by decide) rfl rfl
          have f7 : a.eval (.tmp 27) = .slice (some ⟨X, o0 + 32 * k, none⟩) 32 32 := hf 7 _ _ (by decide) rfl rfl
          have f8 : a.eval (.tmp 28) = .pointer (some ⟨q, 0, none⟩) := hf 8 _ _ (by decide) rfl rfl
          have f9 : a.eval (.tmp 29) = .pointer (some ⟨q, 0, none⟩) := hf 9 _ _ (by decide) rfl rfl
          have f10 : a.eval (.tmp 30) = .pointer (some ⟨q, 0, none⟩) := hf 10 _ _ (by decide) rfl rfl
          have f11 : a.eval (.tmp 31) = .string SS := hf 11 _ _ (by decide) rfl rfl
          have f12 : a.eval (.tmp 32) = .int .i64 32 := hf 12 _ _ (by decide) rfl rfl
          have f13 : a.eval (.tmp 33) = .string (SS.extract 32 SS.size) := hf 13 _ _ (by decide) rfl rfl
          have ha := hag.puts [(20, .pointer (some ⟨q, 0, none⟩)), (21, .pointer (some ⟨q, 0, none⟩)), (22, .pointer (some ⟨q, 0, none⟩)), (23, .pointer (some ⟨q, 0, none⟩)), (24, .string SS), (25, .pointer (some ⟨X, o0 + 32 * k, none⟩)), (26, .pointer (some ⟨X, o0 + 32 * k, none⟩)), (27, .slice (some ⟨X, o0 + 32 * k, none⟩) 32 32), (28, .pointer (some ⟨q, 0, none⟩)), (29, .pointer (some ⟨q, 0, none⟩)), (30, .pointer (some ⟨q, 0, none⟩)), (31, .string SS), (32, .int .i64 32), (33, .string (SS.extract 32 SS.size))] rfl (by simp) (by simp only [List.forall_mem_cons, List.not_mem_nil, false_implies, implies_true, and_true]; exact ⟨f0, f1, f2, f3, f4, f5, f6, f7, f8, f9, f10, f11, f12, f13⟩)
          subst ha
          clear hag hf f0 f1 f2 f3 f4 f5 f6 f7 f8 f9 f10 f11 f12 f13
          simp only [List.foldl_cons, List.foldl_nil, Act.put, List.drop_succ_cons, List.drop_zero, List.setIfInBounds_toArray, List.set_cons_succ, List.set_cons_zero]
          go_wp2_with fail
          go_roundw
          case rel =>
            refine ⟨k + 1, by omega, by go_num, ?_, ?_, ?_⟩
            · rw [HA.out, HSD.out]
              exact HB1.out.on _
            · rw [HA.out]
              simp only [hsC, List.flatMap_append, List.flatMap_singleton]
              rw [← List.append_assoc]
              exact Og.Fill.other HB2.out ⟨q, 0, none⟩ (fun e => hXq e.symm) _
            · exact (HFR.out.trans HB3.out (fun _ h => Or.inl h)).trans (Frm.set (F := atXQ X q) (Frm.refl _ wB) ⟨q, 0, none⟩ (Or.inl (Or.inr rfl)) _) (fun _ h => Or.inl h)
          case measure => simp [intOf]; omega
    · obtain rfl : k = m := by omega
      go_wp2_with fail
      refine end0 rfl rfl ⟨rfl, HRD.out, HFL.out, HFR.out⟩

end Go.Proofs.YtdgaoebjbhomdaaDoor.Og
