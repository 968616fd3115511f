/- disk: what a change makes of a file's bytes. -/
import Derived.Test.YtepcfmigkhacgaaDoorDkG
import Derived.Lib.LazyBuf
namespace Go.Proofs.YtepcfmigkhacgaaDoor.Dk
open Go.RowKit Go.Proofs.YtepcfmigkhacgaaDoor.Gr

def doneT (a : Nat) (t b : List UInt8) : List UInt8 :=
  (b ++ List.replicate (a + t.length - b.length) 0).take a ++ t ++ (b ++ List.replicate (a + t.length - b.length) 0).drop (a + t.length)
def doneB (c : Ch) (b : List UInt8) (k : Nat) : List UInt8 :=
  if k = 0 then b else if c.cut then b.take c.at_
  else if min k c.s.size = 0 then b else doneT c.at_ (c.s.data.toList.take k) b
theorem doneT_len (a : Nat) (t b : List UInt8) : (doneT a t b).length = max b.length (a + t.length) := by
  simp only [doneT, List.length_append, List.length_take, List.length_drop, List.length_replicate]
  omega
theorem doneB_len (c : Ch) (b : List UInt8) (k n : Nat) (hb : b.length ≤ n) (hc : c.at_ + c.s.size ≤ n) : (doneB c b k).length ≤ n := by
  unfold doneB
  split
  · exact hb
  · split
    · rw [List.length_take]; omega
    · split
      · exact hb
      · rw [doneT_len, List.length_take]
        have : c.s.data.toList.length = c.s.size := by rw [Array.length_toList]; rfl
        rw [this]
        exact Nat.max_le.2 ⟨hb, by omega⟩

section
variable {ops : Array Oper} {rest : List Oper} {o : Oper} {a : Act} {w : World} {Q : Exit → Act → World → Prop}
theorem wpList_copy_text (hgd : o.guard = none) (d x : Operand) (ho : o.op = .call { callee := .builtin .copy, args := #[d, x], argTypes := #[81, 9] })
    (g off n cap : Nat) (hd : a.eval d = .slice (some ⟨g, off, none⟩) n cap) (t : ByteArray) (hx : a.eval x = .string t) (hle : t.size ≤ n) (hth : w.there g off t.size)
    (h : wpList Tryd.prog ops Q rest (a.put o.dst (goInt t.size)) (w.setCells g off (bv t.data.toList))) : wpList Tryd.prog ops Q (o :: rest) a w := by
  obtain ⟨i0, hi, hz0, hz1, hz2⟩ := info_parts byte_info
  have hrun := run_copy_string (P := Tryd.prog) w 81 9 o.type 5 g off n cap t Tryd.underlying81 (fun w => by simp [sizeOf, typeInfo, hi, hz1]) hle (fun j hj => (hth j hj).1) (fun j hj => (hth j hj).2)
  refine wpList_plain hgd fun K hK => ?_
  unfold Oper.wp
  simp [execOp, ho, resolve, invoke, builtin, hd, hx, hrun, Result.andThen]
  exact hK _ _ h
theorem wpList_append_zeros (hgd : o.guard = none) (s x : Operand) (ho : o.op = .call { callee := .builtin .append, args := #[s, x], argTypes := #[81, 3] })
    (v : Value) (xs : List UInt8) (hs : a.eval s = v) (hb : BAt w v xs) (k : Nat) (hx : a.eval x = .int .i64 k) (h0 : 0 < k) (hk : xs.length + k ≤ 1099511627776)
    (h : ∀ v' w', BAt w' v' (xs ++ List.replicate k 0) → Frm (fun i => v.ownBlock = some i) w w' → (∀ i, v'.ownBlock = some i → v.ownBlock = some i ∨ w.heap.size ≤ i) → wpList Tryd.prog ops Q rest (a.put o.dst v') w') : wpList Tryd.prog ops Q (o :: rest) a w := by
  obtain ⟨v', w', hrun, h1, h2, h3⟩ := hb.zeros o.type k h0 hk
  refine wpList_plain hgd fun K hK => ?_
  unfold Oper.wp
  simp [execOp, ho, resolve, invoke, builtin, hs, hx, hrun, Result.andThen]
  exact hK _ _ (h v' w' h1 h2 h3)
end
theorem BAt.form {w : World} {v : Value} {xs : List UInt8} (h : BAt w v xs) : ∃ g cap, v = .slice (some ⟨g, 0, none⟩) xs.length cap ∧ xs.length ≤ cap ∧ g < w.heap.size := by
  obtain ⟨g, cap, cur, fz, rfl, hg, hz, h1, h2, h3, hr⟩ := h
  exact ⟨g, cap, rfl, h1, (Array.getElem?_eq_some_iff.1 hg).1⟩

/-- What a call leaves of a row of bytes. -/
structure Made (w : World) (v : Value) (xs : List UInt8) (w' : World) (v' : Value) : Prop where
  at_ : BAt w' v' xs
  frm : Frm (fun i => v.ownBlock = some i) w w'
  own : ∀ i, v'.ownBlock = some i → v.ownBlock = some i ∨ w.heap.size ≤ i

set_option maxRecDepth 100000 in
set_option maxHeartbeats 1600000 in
theorem code_done (c : Ch) (v : Value) (b : List UInt8) (k : Nat) (w : World) (hB : BAt w v b) (hb : b.length ≤ 1073741824) (ha : c.at_ ≤ 1048576) (hs : c.s.size ≤ 1048576) :
    Calls Tryd.prog 45 #[.agg #[.int .i64 c.file, .int .i64 c.at_, .bool c.cut, .string c.s], v, .int .i64 k] w fun e w' => ∃ v', e = .returned v' ∧ Made w v (doneB c b k) w' v' := by
  obtain ⟨g, cap, rfl, hcap, hg⟩ := hB.form
  have hb1 : Below w.heap.size w (w.alloc (.cells #[.int .i64 c.file, .int .i64 c.at_, .bool c.cut, .string c.s] 84)) := (Below.refl _ _).alloc (Nat.le_refl _) _
  have HB1 := Lib.hid (hB.frm (F := fun _ => False) (Frm.of_below hb1) (fun _ _ => id))
  have HF1 := Lib.hid (Frm.of_below (F := fun i => (Value.slice (some ⟨g, 0, none⟩) b.length cap).ownBlock = some i) hb1)
  obtain ⟨n, hn⟩ : ∃ n, b.length = n := ⟨_, rfl⟩
  by_cases hk0 : k = 0
  · subst hk0
    have hd : doneB c b 0 = b := by unfold doneB; rw [if_pos rfl]
    rw [hd]
    rw [hn] at HB1 HF1 ⊢
    clear hB hb1 hn hd
    go_enter Tryd.func45, Tryd.ntmps45
    go_wp2_with fail
    go_ret
    exact ⟨_, rfl, HB1.out, HF1.out, fun i h => Or.inl h⟩
  have hk1 : ((k : Int) == 0) = false := by simpa using hk0
  by_cases hc : c.cut = true
  · have hd : doneB c b k = b.take c.at_ := by unfold doneB; rw [if_neg hk0, if_pos hc]
    rw [hd]
    have ht := (HB1.out).take (min c.at_ b.length) (Nat.min_le_right _ _)
    obtain ⟨a', n', c', he, _, _, hta⟩ := ht
    injection he with he1 he2 he3
    subst he1 he2 he3
    have hmm : b.take (min c.at_ b.length) = b.take c.at_ := by
      rcases Nat.le_total c.at_ b.length with h | h
      · rw [Nat.min_eq_left h]
      · rw [Nat.min_eq_right h, List.take_length, List.take_of_length_le h]
    rw [hmm] at hta
    have HT := Lib.hid hta
    rw [hn] at HB1 HF1 hcap HT ⊢
    rcases Nat.lt_or_ge n c.at_ with hlt | hge
    · have h1 : (n : Int) < (c.at_ : Int) := by omega
      have h2 : (n : Int) ≤ (cap : Int) := by omega
      rw [Nat.min_eq_right (by omega)] at HT
      rw [hc] at HB1 HF1 HT ⊢
      clear hB hb1 hn hd hta hmm hc
      go_enter Tryd.func45, Tryd.ntmps45
      go_wp2_with fail
      go_ret
      exact ⟨_, rfl, HT.out, HF1.out, fun i h => Or.inl h⟩
    · have h1 : ¬ (n : Int) < (c.at_ : Int) := by omega
      have h2 : (c.at_ : Int) ≤ (cap : Int) := by omega
      have h3 : (c.at_ : Int) ≤ (n : Int) := by omega
      rw [Nat.min_eq_left (by omega)] at HT
      rw [hc] at HB1 HF1 HT ⊢
      clear hB hb1 hn hd hta hmm hc
      go_enter Tryd.func45, Tryd.ntmps45
      go_wp2_with fail
      go_ret
      exact ⟨_, rfl, HT.out, HF1.out, fun i h => Or.inl h⟩
  simp only [Bool.not_eq_true] at hc
  have hcf : ¬ c.cut = true := by rw [hc]; decide
  obtain ⟨t, he, hts, htl⟩ : ∃ t : ByteArray, c.s.extract 0 (min k c.s.size) = t ∧ t.size = min k c.s.size ∧ t.data.toList = c.s.data.toList.take k := by
    refine ⟨_, rfl, ?_, ?_⟩
    · simp
    · have : c.s.data.size = c.s.size := rfl
      simp only [ByteArray.data_extract, Array.toList_extract, List.extract_eq_take_drop, List.drop_zero, Nat.sub_zero]
      rcases Nat.le_total k c.s.size with h | h
      · rw [Nat.min_eq_left h]
      · rw [Nat.min_eq_right h, List.take_of_length_le (by rw [Array.length_toList]; omega), List.take_of_length_le (by rw [Array.length_toList]; omega)]
  have hd : doneB c b k = if t.size = 0 then b else doneT c.at_ t.data.toList b := by
    unfold doneB
    rw [if_neg hk0, if_neg hcf, hts, htl]
  have htz : t.data.toList.length = t.size := by rw [Array.length_toList]; rfl
  have hth : t.size ≤ 1048576 := by omega
  rw [hd]
  by_cases ht0 : t.size = 0
  · rw [if_pos ht0]
    obtain rfl : t = ⟨#[]⟩ := by
      have : t.data.toList = [] := List.eq_nil_of_length_eq_zero (by omega)
      cases t with
      | mk data =>
        have h2 : data.toList = [] := this
        rw [Array.toList_eq_nil_iff] at h2
        rw [h2]
    rcases Nat.lt_or_ge c.s.size k with hlt | hge
    · have h1 : (c.s.size : Int) < (k : Int) := by omega
      rw [Nat.min_eq_right (by omega)] at he
      rw [hn] at HB1 HF1 hcap ⊢
      rw [hc] at HB1 HF1 ⊢
      clear hB hb1 hn hd hc hts htl htz ht0
      go_enter Tryd.func45, Tryd.ntmps45
      go_wp2_with fail
      go_ret
      exact ⟨_, rfl, HB1.out, HF1.out, fun i h => Or.inl h⟩
    · have h1 : ¬ (c.s.size : Int) < (k : Int) := by omega
      have h2 : (k : Int) ≤ c.s.size := by omega
      rw [Nat.min_eq_left (by omega)] at he
      rw [hn] at HB1 HF1 hcap ⊢
      rw [hc] at HB1 HF1 ⊢
      clear hB hb1 hn hd hc hts htl htz ht0
      go_enter Tryd.func45, Tryd.ntmps45
      go_wp2_with fail
      go_ret
      exact ⟨_, rfl, HB1.out, HF1.out, fun i h => Or.inl h⟩
  rw [if_neg ht0]
  have hte : t.toList.isEmpty = false := by
    rw [ByteArray.toList_eq, List.isEmpty_eq_false_iff]
    intro h
    rw [h] at htz
    exact ht0 htz.symm
  have hte2 : ¬ t.toList = [] := by
    rw [ByteArray.toList_eq]
    intro h
    rw [h] at htz
    exact ht0 htz.symm
  have hn2 : (n : Int) ≤ 1073741824 := by omega
  have ha2 : (c.at_ : Int) ≤ 1048576 := by omega
  have ht2 : (t.size : Int) ≤ 1048576 := by omega
  have HTL := Lib.hid htl
  have HTZ := Lib.hid htz
  have HN := Lib.hid hn
  have HCP := Lib.hid hcap
  rw [hn] at HCP
  by_cases hsh : c.at_ + t.size ≤ n
  · have hshi : ¬ (0 : Int) < (c.at_ : Int) + t.size - n := by omega
    have hpos : 0 < t.size := by omega
    have hcapn : ¬ cap = c.at_ := by omega
    have hcapni : ¬ (cap : Int) = c.at_ := by omega
    have han : (c.at_ : Int) ≤ (n : Int) := by omega
    have hz : c.at_ + t.data.toList.length - b.length = 0 := by omega
    have hle : t.size ≤ n - c.at_ := by omega
    have hdt : doneT c.at_ t.data.toList b = b.take c.at_ ++ t.data.toList ++ b.drop (c.at_ + t.data.toList.length) := by
      unfold doneT
      rw [hz, List.replicate_zero, List.append_nil]
    rw [hn] at HB1 HF1 hcap ⊢
    obtain ⟨hth2, hput⟩ := HB1.out.put c.at_ t.data.toList (by omega)
    rw [htz] at hth2
    rw [← hdt] at hput
    clear hdt hd
    generalize doneT c.at_ t.data.toList b = R at hput ⊢
    have HTH := Lib.hid hth2
    have HPUT := Lib.hid hput
    have HFP := Lib.hid (Frm.setCells (F := fun i => (Value.slice (some ⟨g, 0, none⟩) n cap).ownBlock = some i) (a := w) (g := g) (Or.inl rfl) (bv t.data.toList) c.at_ _ HF1.out)
    have HLE := Lib.hid hle
    rw [hc] at HB1 HF1 HTH HPUT HFP ⊢
    rcases Nat.lt_or_ge c.s.size k with hlt | hge
    all_goals first
      | (have h1 : (c.s.size : Int) < (k : Int) := by omega
         rw [Nat.min_eq_right (by omega)] at he)
      | (have h1 : ¬ (c.s.size : Int) < (k : Int) := by omega
         have h2 : (k : Int) ≤ c.s.size := by omega
         rw [Nat.min_eq_left (by omega)] at he)
    all_goals
      clear hB hb1 hn hc hts htl htz ht0 hz hth2 hput
      go_enter Tryd.func45, Tryd.ntmps45
      go_wp2_with (refine wpList_copy_text rfl (.tmp 48) (.tmp 49) rfl g c.at_ (n - c.at_) (cap - c.at_) rfl t rfl HLE.out HTH.out ?_)
      go_ret
      exact ⟨_, rfl, HPUT.out, HFP.out, fun i h => Or.inl h⟩
  · have hshi : (0 : Int) < (c.at_ : Int) + t.size - n := by omega
    obtain ⟨z, hz⟩ : ∃ z : Nat, c.at_ + t.size - n = z := ⟨_, rfl⟩
    have hz0 : 0 < z := by omega
    have hzi : (c.at_ : Int) + t.size - n = z := by omega
    have hzl : b.length + z ≤ 1099511627776 := by omega
    have hz2 : c.at_ + t.data.toList.length - b.length = z := by omega
    have hnz : n + z = c.at_ + t.size := by omega
    have hpos : 0 < t.size := by omega
    have hdt : doneT c.at_ t.data.toList b = (b ++ List.replicate z 0).take c.at_ ++ t.data.toList ++ (b ++ List.replicate z 0).drop (c.at_ + t.data.toList.length) := by
      unfold doneT
      rw [hz2]
    have HDT := Lib.hid hdt
    clear hd hdt
    generalize doneT c.at_ t.data.toList b = R at HDT ⊢
    have hbl : (b ++ List.replicate z (0 : UInt8)).length = n + z := by rw [List.length_append, List.length_replicate, hn]
    rw [hn] at HB1 HF1 hcap ⊢
    have HBL := Lib.hid hbl
    have HZ0 := Lib.hid hz0
    have HZL := Lib.hid hzl
    have HNZ := Lib.hid hnz
    have hle : t.size ≤ n + z - c.at_ := by omega
    have HLE := Lib.hid hle
    have han : (c.at_ : Int) ≤ ((n + z : Nat) : Int) := by omega
    have han2 : c.at_ ≤ n + z := by omega
    have hqt : n + z = c.at_ + t.size := by omega
    obtain ⟨q, hq⟩ : ∃ q : Nat, n + z = q := ⟨_, rfl⟩
    rw [hq] at han han2 HLE HBL hqt
    have HQT := Lib.hid hqt
    clear hqt HNZ
    rw [hc] at HB1 HF1 ⊢
    rcases Nat.lt_or_ge c.s.size k with hlt | hge
    all_goals first
      | (have h1 : (c.s.size : Int) < (k : Int) := by omega
         rw [Nat.min_eq_right (by omega)] at he)
      | (have h1 : ¬ (c.s.size : Int) < (k : Int) := by omega
         have h2 : (k : Int) ≤ c.s.size := by omega
         rw [Nat.min_eq_left (by omega)] at he)
    all_goals
      clear hB hb1 hn hc hts htl htz ht0 hz hz0 hzl hz2 hnz hbl hle hq
      go_enter Tryd.func45, Tryd.ntmps45
      go_upto_region 11 with (refine wpList_append_zeros rfl (.tmp 42) (.tmp 43) rfl _ b rfl HB1.out z rfl HZ0.out HZL.out ?_; intro v2 w2 hB2 hF2 hO2)
      obtain ⟨g2, cap2, hv2, hcap2, hg2⟩ := hB2.form
      rw [HBL.out] at hv2 hcap2
      subst hv2
      have hbx := (hF2.block w.heap.size (by simp) (fun e => by have e2 : some g = some w.heap.size := e; injection e2 with e2; omega)).trans (heap_alloc_new w _)
      have hcx := Lib.cell_of_heap hbx 1
      obtain ⟨hth2, hput⟩ := hB2.put c.at_ t.data.toList (by have h1 := HTZ.out; have h2 := HQT.out; omega)
      rw [HTZ.out] at hth2
      rw [← HDT.out] at hput
      have HTH := Lib.hid hth2
      have HPUT := Lib.hid hput
      have hown : ∀ i, (Value.slice (some ⟨g2, 0, none⟩) q cap2).ownBlock = some i → (Value.slice (some ⟨g, 0, none⟩) n cap).ownBlock = some i ∨ w.heap.size ≤ i := fun i hi => by
        rcases hO2 i hi with h | h
        · exact Or.inl h
        · exact Or.inr (by simp at h; omega)
      have HFP := Lib.hid (Frm.setCells (F := fun i => (Value.slice (some ⟨g, 0, none⟩) n cap).ownBlock = some i) (a := w) (g := g2) (hown g2 rfl) (bv t.data.toList) c.at_ _ (HF1.out.trans hF2 (fun i hi => Or.inl hi)))
      have HOWN := Lib.hid hown
      have hcapn : ¬ cap2 = c.at_ := by have h2 := HQT.out; omega
      have hcapni : ¬ (cap2 : Int) = c.at_ := by omega
      clear hB2 hF2 hO2 hbx hth2 hput hown hg2
      go_wp2_with (refine wpList_copy_text rfl (.tmp 48) (.tmp 49) rfl g2 c.at_ (q - c.at_) (cap2 - c.at_) rfl t rfl HLE.out HTH.out ?_)
      go_ret
      exact ⟨_, rfl, HPUT.out, HFP.out, HOWN.out⟩
end Go.Proofs.YtepcfmigkhacgaaDoor.Dk
