/- shelf: the document's Put, Drop, Get, Next. -/
import Derived.Test.YtpepijoppgbbfaaSfP
namespace Go.Proofs.Ytpepijoppgbbfaa.Shf
open Go.RowKit Go.Proofs.Ytpepijoppgbbfaa.Gr

/-- A piece of a slice reads as a piece of the things. -/
theorem at_sliced {α : Type} {P : Program} {K : Kind P α} {w : World} {a : Option Addr} {n cap : Nat} {L : List α} (h : K.At w (.slice a n cap) L) (i j : Nat) (hij : i ≤ j) (hj : j ≤ L.length) :
    K.At w (.slice (if cap = i then a else a.map (·.add (i * K.size))) (j - i) (cap - i)) ((L.take j).drop i) := by
  rcases h with ⟨b, c, hv, rfl⟩ | ⟨g, o, c, hv, h0, hc, hr⟩
  · simp at hj
    subst hj
    obtain rfl : i = 0 := by omega
    exact Or.inl ⟨_, _, rfl, rfl⟩
  · injection hv with h1 h2 h3
    subst h1 h2 h3
    have hl : ((L.take j).drop i).length = j - i := by rw [List.length_drop, List.length_take, Nat.min_eq_left hj]
    by_cases h : j = i
    · subst h
      rw [Nat.sub_self, List.eq_nil_of_length_eq_zero (by rw [hl]; omega : ((L.take j).drop j).length = 0)]
      exact Kind.At.nil _ _
    · have hne : ¬ cap = i := by omega
      rw [if_neg hne]
      refine Or.inr ⟨g, o + i * K.size, cap - i, ?_, by omega, by omega, range_drop (range_take hr j) i (by rw [List.length_take]; omega)⟩
      rw [hl]
      show Value.slice (some ((⟨g, o, none⟩ : Addr).add (i * K.size))) (j - i) (cap - i) = _
      rw [Addr.add_mid]
theorem at_take {α : Type} {P : Program} {K : Kind P α} {w : World} {a : Option Addr} {n cap : Nat} {L : List α} (h : K.At w (.slice a n cap) L) (j : Nat) (hj : j ≤ L.length) : K.At w (.slice a j cap) (L.take j) := by
  have h1 := at_sliced h 0 j (Nat.zero_le _) hj
  rw [List.drop_zero, Nat.sub_zero, Nat.sub_zero, Nat.zero_mul] at h1
  rw [show (if cap = 0 then a else a.map (·.add 0)) = a by split <;> cases a <;> simp [Addr.add]] at h1
  exact h1
theorem at_drop {α : Type} {P : Program} {K : Kind P α} {w : World} {a : Option Addr} {n cap : Nat} {L : List α} (h : K.At w (.slice a n cap) L) (hn : L.length = n) (i : Nat) (hi : i ≤ L.length) : K.At w (.slice (if cap = i then a else a.map (·.add (i * K.size))) (n - i) (cap - i)) (L.drop i) := by
  have h1 := at_sliced h i L.length hi (Nat.le_refl _)
  rw [List.take_length, hn] at h1
  exact h1
/-- One thing in a slice of one. -/
theorem at_one (w : World) (x : Th) : KT.At (w.alloc (.cells #[.string x.1, .int .u64 x.2] 55)) (.slice (some ⟨w.heap.size, 0, none⟩) 1 1) [x] :=
  Or.inr ⟨w.heap.size, 0, 1, rfl, by simp, Nat.le_refl _, fun j u hj => by
    match j, hj with
    | 0, hj => simp [Kind.flat, KT] at hj; subst hj; simp
    | 1, hj => simp [Kind.flat, KT] at hj; subst hj; simp
    | j + 2, hj => simp [Kind.flat, KT] at hj⟩

theorem has_lt (l : List Th) (k : ByteArray) (h : hasN l k = true) : placeN l k < l.length := by
  rw [has_place] at h
  rcases Nat.lt_or_ge (placeN l k) l.length with h1 | h1
  · exact h1
  · rw [List.getElem?_eq_none h1] at h
    cases h

set_option maxHeartbeats 1600000 in
theorem ref_PutL (v : Value) (l : List Th) (k : ByteArray) (z : Nat) (w : World) (hT : KT.At w v l) (hl : l.length ≤ 10000000000) :
    Calls Try.prog 15 #[v, .string k, .int .u64 z] w fun e w' => ∃ v', e = .returned v' ∧ KT.At w' v' (putL l k z) ∧ (∀ j, v'.ownBlock = some j → w.heap.size ≤ j) ∧ Below w.heap.size w w' := by
  have HP := Lib.hid (fun w hT => ref_place v l k w hT (by omega))
  obtain ⟨a, cap, rfl, hcap⟩ := hT.form
  have HT := Lib.hid hT
  have hpl := place_le l k
  have hhl := has_lt l k
  rw [put_place l k z]
  obtain ⟨i, hi⟩ : ∃ n, placeN l k = n := ⟨_, rfl⟩
  obtain ⟨b, hb⟩ : ∃ n, hasN l k = n := ⟨_, rfl⟩
  rw [hi] at hpl HP hhl
  rw [hb] at HP hhl
  rw [hi, hb]
  clear hT hi hb
  go_enter Try.func15, Try.ntmps15
  go_wp2_with fail
  refine (HP.out w HT.out).mono ?_
  rintro e w1 ⟨rfl, hb1⟩
  have HT1 := Lib.hid (HT.out.kept hb1)
  have hicap : (i : Int) ≤ (cap : Int) := by omega
  have hicap2 : i ≤ cap := by omega
  have HA1 := Lib.hid (at_take HT1.out i hpl)
  have hbase : w.heap.size ≤ w1.heap.size := hb1.size
  go_upto_region 4 with (refine wpList_append_at (K := KT) rfl (.tmp 16) (.tmp 19) 37 rfl Try.underlying37 w.heap.size rfl (Kind.Own.nil _ _) _ _ rfl HA1.out (by simp [KT]; omega) hbase ?_; intro v1 w2 hown1 hbb1)
  rw [List.nil_append] at hown1
  have HO1 := Lib.hid (hown1.kept ((Below.refl _ _).alloc (Nat.le_refl _) (.cells #[.string k, .int .u64 z] 55)))
  have HONE := Lib.hid (at_one w2 (k, z))
  have HB2 := Lib.hid (hb1.trans hbb1)
  have hn2 : ((l.take i).length + [((k, z) : Th)].length) * (KT.bytes + 1) ≤ 1099511627776 := by simp [KT]; omega
  have hs2 : w.heap.size ≤ (w2.alloc (.cells #[.string k, .int .u64 z] 55)).heap.size := by have := HB2.out.size; simp; omega
  clear hown1 hb1 hbb1 hbase
  go_upto_region 5 with (refine wpList_append_at (K := KT) rfl (.tmp 21) (.tmp 25) 37 rfl Try.underlying37 w.heap.size rfl HO1.out _ [(k, z)] rfl HONE.out hn2 hs2 ?_; intro v2 w3 hown2 hbb2)
  have hb23 : Below w.heap.size w w3 := (HB2.out.alloc HB2.out.size _).trans hbb2
  have HT3 := Lib.hid (HT.out.kept hb23)
  have HB3 := Lib.hid hb23
  have HO2 := Lib.hid hown2
  have hs3 := hb23.size
  clear HO1 HONE hn2 hs2 hown2 hbb2 hb23 HT1 HA1 HB2 HP hicap hicap2
  cases b with
  | true =>
    have hil := hhl rfl
    have HD := Lib.hid (at_drop HT3.out rfl (i + 1) hil)
    have hicap : (i : Int) + 1 ≤ (cap : Int) := by omega
    have hicap2 : (i : Int) + 1 ≤ (l.length : Int) := by omega
    have hi0 : 0 ≤ (i : Int) + 1 := by omega
    have hn3 : ((l.take i ++ [((k, z) : Th)]).length + (l.drop (i + 1)).length) * (KT.bytes + 1) ≤ 1099511627776 := by simp [KT]; omega
    clear hhl
    go_wp2_with (refine wpList_append_at (K := KT) rfl (.tmp 30) (.tmp 33) 37 rfl Try.underlying37 w.heap.size rfl HO2.out _ (l.drop (i + 1)) rfl HD.out hn3 hs3 ?_; intro v3 w4 hown3 hbb3)
    all_goals (go_ret; exact ⟨_, rfl, by have := hown3.reads; rw [List.append_assoc] at this; exact this, hown3.base, HB3.out.trans hbb3⟩)
  | false =>
    have HD := Lib.hid (at_drop HT3.out rfl i hpl)
    have hicap : (i : Int) ≤ (cap : Int) := by omega
    have hicap2 : (i : Int) ≤ (l.length : Int) := by omega
    have hn3 : ((l.take i ++ [((k, z) : Th)]).length + (l.drop i).length) * (KT.bytes + 1) ≤ 1099511627776 := by simp [KT]; omega
    clear hhl
    go_wp2_with (refine wpList_append_at (K := KT) rfl (.tmp 30) (.tmp 33) 37 rfl Try.underlying37 w.heap.size rfl HO2.out _ (l.drop i) rfl HD.out hn3 hs3 ?_; intro v3 w4 hown3 hbb3)
    all_goals (go_ret; exact ⟨_, rfl, by have := hown3.reads; rw [List.append_assoc] at this; exact this, hown3.base, HB3.out.trans hbb3⟩)

set_option maxHeartbeats 1600000 in
theorem ref_DropL (v : Value) (l : List Th) (k : ByteArray) (w : World) (hT : KT.At w v l) (hl : l.length ≤ 10000000000) :
    Calls Try.prog 16 #[v, .string k] w fun e w' => ∃ v', e = .returned v' ∧ KT.At w' v' (dropL l k) ∧ (∀ j, v'.ownBlock = some j → w.heap.size ≤ j ∨ v.ownBlock = some j) ∧ Below w.heap.size w w' := by
  have HP := Lib.hid (fun w hT => ref_place v l k w hT (by omega))
  obtain ⟨a, cap, rfl, hcap⟩ := hT.form
  have HT := Lib.hid hT
  have hpl := place_le l k
  have hhl := has_lt l k
  rw [drop_place l k]
  obtain ⟨i, hi⟩ : ∃ n, placeN l k = n := ⟨_, rfl⟩
  obtain ⟨b, hb⟩ : ∃ n, hasN l k = n := ⟨_, rfl⟩
  rw [hi] at hpl HP hhl
  rw [hb] at HP hhl
  rw [hi, hb]
  clear hT hi hb
  go_enter Try.func16, Try.ntmps16
  go_wp2_with fail
  refine (HP.out w HT.out).mono ?_
  rintro e w1 ⟨rfl, hb1⟩
  have HT1 := Lib.hid (HT.out.kept hb1)
  cases b with
  | false =>
    clear HP
    go_wp2_with fail
    go_ret
    exact ⟨_, rfl, HT1.out, fun j h => Or.inr h, hb1⟩
  | true =>
    have hil := hhl rfl
    have hicap : (i : Int) ≤ (cap : Int) := by omega
    have hicap2 : i ≤ cap := by omega
    have HA1 := Lib.hid (at_take HT1.out i hpl)
    have HD := Lib.hid (fun w hT => @at_drop _ _ KT w a l.length cap l hT rfl (i + 1) hil)
    have hicap3 : (i : Int) + 1 ≤ (cap : Int) := by omega
    have hicap4 : (i : Int) + 1 ≤ (l.length : Int) := by omega
    have hi0 : 0 ≤ (i : Int) + 1 := by omega
    have hbase : w.heap.size ≤ w1.heap.size := hb1.size
    have hn3 : ((l.take i).length + (l.drop (i + 1)).length) * (KT.bytes + 1) ≤ 1099511627776 := by simp [KT]; omega
    clear hhl HP
    go_upto_region 6 with (refine wpList_append_at (K := KT) rfl (.tmp 17) (.tmp 20) 37 rfl Try.underlying37 w.heap.size rfl (Kind.Own.nil _ _) _ _ rfl HA1.out (by simp [KT]; omega) hbase ?_; intro v1 w2 hown1 hbb1)
    rw [List.nil_append] at hown1
    have hb2 := hb1.trans hbb1
    have HT2 := Lib.hid (HD.out w2 (HT.out.kept hb2))
    have hs2 := hb2.size
    have HO1 := Lib.hid hown1
    have HB2 := Lib.hid hb2
    clear HT1 HA1 HD hown1 hb2 hb1 hbb1 hbase
    go_wp2_with (refine wpList_append_at (K := KT) rfl (.tmp 22) (.tmp 26) 37 rfl Try.underlying37 w.heap.size rfl HO1.out _ (l.drop (i + 1)) rfl HT2.out hn3 hs2 ?_; intro v3 w4 hown3 hbb3)
    all_goals (go_ret; exact ⟨_, rfl, hown3.reads, fun j h => Or.inl (hown3.base j h), HB2.out.trans hbb3⟩)

set_option maxHeartbeats 1600000 in
theorem ref_GetL (v : Value) (l : List Th) (k : ByteArray) (w : World) (hT : KT.At w v l) (hl : l.length ≤ 10000000000) :
    Calls Try.prog 17 #[v, .string k] w fun e w' => e = .returned (.tuple #[.int .u64 ((getL l k).getD 0 : Nat), .bool (getL l k).isSome]) ∧ Below w.heap.size w w' := by
  have HP := Lib.hid (fun w hT => ref_place v l k w hT (by omega))
  have hhl := has_lt l k
  have hg := get_place l k
  obtain ⟨z, hz⟩ : ∃ z, (getL l k).getD 0 = z := ⟨_, rfl⟩
  obtain ⟨s, hs⟩ : ∃ s, (getL l k).isSome = s := ⟨_, rfl⟩
  rw [hz, hs]
  rw [hg] at hz hs
  obtain ⟨i, hi⟩ : ∃ n, placeN l k = n := ⟨_, rfl⟩
  obtain ⟨b, hb⟩ : ∃ n, hasN l k = n := ⟨_, rfl⟩
  rw [hi] at HP hhl hz hs
  rw [hb] at HP hhl hz hs
  have HT := Lib.hid hT
  clear hi hb hg
  cases b with
  | false =>
    obtain rfl : z = 0 := by rw [← hz]; rfl
    obtain rfl : s = false := by rw [← hs]; rfl
    obtain ⟨a, cap, rfl, hcap⟩ := hT.form
    clear hT hhl hz hs
    go_enter Try.func17, Try.ntmps17
    go_wp2_with fail
    refine (HP.out w HT.out).mono ?_
    rintro e w1 ⟨rfl, hb1⟩
    go_wp2_with fail
    go_ret2
    exact ⟨rfl, hb1⟩
  | true =>
    have hil := hhl rfl
    obtain ⟨g, o, cap, rfl, _, hr⟩ := hT.some (by omega)
    have hx := List.getElem?_eq_getElem hil
    obtain ⟨x, hxx⟩ : ∃ x, l[i] = x := ⟨_, rfl⟩
    rw [hxx] at hx
    have hval := thing_val hr hx
    rw [hx] at hz hs
    obtain rfl : x.2 = z := by rw [← hz]; rfl
    obtain rfl : s = true := by rw [← hs]; rfl
    have HV := Lib.hid hval
    have hlt : (i : Int) < (l.length : Int) := by omega
    clear hT hhl hz hs hx hr hxx hval
    go_enter Try.func17, Try.ntmps17
    go_wp2_with fail
    refine (HP.out w HT.out).mono ?_
    rintro e w1 ⟨rfl, hb1⟩
    have hval : w1.cell? ⟨g, o + i * 2 + 1, none⟩ = some (.int .u64 x.2) := by
      rw [hb1.cell (World.block_lt_of_cell? _ _ HV.out)]
      exact HV.out
    go_wp2_with fail
    go_ret2
    exact ⟨rfl, hb1⟩

end Go.Proofs.Ytpepijoppgbbfaa.Shf
