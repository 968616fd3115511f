/- disk: Append, Cut. -/
import Derived.Test.YtoacnhiophgfcaaDkC
import Derived.StillTailTactics
import Derived.Deep.Cut
namespace Go.Proofs.Ytoacnhiophgfcaa.Dk
open Go.RowKit Go.Proofs.Ytoacnhiophgfcaa.Gr

theorem Left.drew {w w' : World} {g : Nat} {lv lv' : Value} {S : St} (h : Left w g lv S w' lv') : Left w g lv S w'.drew lv' :=
  ⟨⟨h.at_.heap, h.at_.now, h.at_.sure, h.at_.own⟩, h.frm.drew, h.foot⟩
theorem Left.now {w w' : World} {g : Nat} {lv lv' : Value} {S : St} (h : Left w g lv S w' lv') (f : Nat) (hf : f < 64) (s : ByteArray) : Left w g lv { S with now := S.now.set f s } (w'.setCell ⟨g, f, none⟩ (.string s)) lv' :=
  h.put (set_now lv' h.at_.now f hf s) (by simp [h.at_.now]) h.at_.sure rfl
/-- append of things that a slice reads as, onto a row of one's own: what has grown. -/
theorem wpList_append_grow {P : Program} {α : Type} {K : Kind P α} {w : World} {v : Value} {L : List α} {ops : Array Oper} {rest : List Oper} {o : Oper} {a : Act} {Q : Exit → Act → World → Prop} (hgd : o.guard = none) (s x : Operand) (t : TypeId)
    (ho : o.op = .call { callee := .builtin .append, args := #[s, x], argTypes := #[t, t] }) (ht : P.underlying t = some (.slice K.T))
    (B : Nat) (hs : a.eval s = v) (hown : K.Own B v L w) (u : Value) (M : List α) (hx : a.eval x = u) (hat : K.At w u M) (h0 : 0 < M.length) (m : Nat) (hm : L.length + M.length = m)
    (hn : (L.length + M.length) * (K.bytes + 1) ≤ 1099511627776) (hB : B ≤ w.heap.size)
    (h : ∀ g cap w', K.Own B (.slice (some ⟨g, 0, none⟩) m cap) (L ++ M) w' → w.grownBy w' v.ownBlock → (v.ownBlock = some g ∨ g = w.heap.size) → g < w'.heap.size → wpList P ops Q rest (a.put o.dst (.slice (some ⟨g, 0, none⟩) m cap)) w') : wpList P ops Q (o :: rest) a w := by
  subst hm
  obtain ⟨ie, hie, hq⟩ := Option.map_eq_some_iff.1 K.info
  simp only [Prod.mk.injEq] at hq
  obtain ⟨hz, hsz, hby⟩ := hq
  have hm1 : L.length + M.length ≤ (L.length + M.length) * (K.bytes + 1) := Nat.le_mul_of_pos_right _ (by omega)
  have hm2 : (L.length + M.length) * K.bytes ≤ (L.length + M.length) * (K.bytes + 1) := Nat.mul_le_mul_left _ (by omega)
  obtain ⟨g1, o1, cap, rfl, _, hr⟩ := hat.some h0
  refine wpList_append_lies w hgd s x t ho B K.T ie K.zero K.size K.bytes ht hie hz hsz hby K.zsize K.pos v L.length (K.flat L) hs hown ⟨g1, o1, none⟩ M.length cap (K.flat M) hx (K.flat_len M) (fun j u hj => ?_) (K.flat_one M) (by omega) (by unfold maxLen; omega) (by omega) hB _ rfl ?_
  · rw [Addr.add_mid]
    exact hr j u hj
  · intro g cap w' hown' hgrow hg hlt
    refine h g cap w' ?_ hgrow hg hlt
    unfold Kind.Own
    rw [K.flat_append, List.length_append]
    exact hown'

/-- One change in a slice of one. -/
theorem at_one (w : World) (x : Ch) : KC.At (w.alloc (.cells #[.int .i64 x.file, .int .i64 x.at_, .bool x.cut, .string x.s] 61)) (.slice (some ⟨w.heap.size, 0, none⟩) 1 1) [x] :=
  Or.inr ⟨w.heap.size, 0, 1, rfl, by simp, Nat.le_refl _, fun j u hj => by
    rw [Nat.zero_add, Lib.cell_of_heap (heap_alloc_new w _)]
    simp only [Kind.flat, KC, List.flatMap_cons, List.flatMap_nil, List.append_nil] at hj
    rw [← hj]
    simp⟩
/-- The row of loose changes has grown, and is laid. -/
theorem Left.grow {w w' w2 : World} {g : Nat} {lv lv' : Value} {S : St} (h : Left w g lv S w' lv') {x : Ch} {o : Obj} {k cap m : Nat} (hown : KC.Own 0 (.slice (some ⟨k, 0, none⟩) m cap) (S.loose ++ [x]) w2) (hg : (w'.alloc o).grownBy w2 lv'.ownBlock) (hk : lv'.ownBlock = some k ∨ k = (w'.alloc o).heap.size) :
    Left w g lv { S with loose := S.loose ++ [x] } (w2.setCell ⟨g, 128, none⟩ (.slice (some ⟨k, 0, none⟩) m cap)) (.slice (some ⟨k, 0, none⟩) m cap) ∧ w2.cell? ⟨g, 128, none⟩ = some lv' ∧ w2.frozen? ⟨g, 128, none⟩ = false := by
  have hlt := h.at_.lt
  have hh : w2.heap[g]? = some (.cells (S.vals lv').toArray 58 (0, 0)) := by
    rw [hg.block g (by simp; omega) (fun e => h.at_.ne e.symm), heap_alloc_old _ _ hlt]
    exact h.at_.heap
  have hgk : g ≠ k := by
    rcases hk with hk | hk
    · exact fun e => h.at_.ne (by rw [hk, e])
    · simp at hk; omega
  refine ⟨⟨⟨?_, h.at_.now, h.at_.sure, ?_⟩, ?_, ?_⟩, cell_row hh (vals_rest S lv' h.at_.now h.at_.sure 0), by simp [World.frozen?, hh]⟩
  · rw [vals_set (T := { S with loose := S.loose ++ [x] }) (lu := .slice (some ⟨k, 0, none⟩) m cap) _ hh]
    · exact setRow_heap _ _ _ _ _ _ hh
    · rw [set_rest lv' h.at_.now h.at_.sure 0]
      rfl
  · rcases hown.2 with ⟨e, _⟩ | ⟨b, cp, cur, e, hb, hc, r⟩
    · simp at e
    · refine ⟨hown.1, Or.inr ⟨b, cp, cur, e, hb, ?_, r⟩⟩
      simp only [Value.slice.injEq, Option.some.injEq, Addr.mk.injEq] at e
      rw [Below.heap_setCell _ _ _ _ (fun e2 => hgk (by rw [e.1.1, e2]))]
      exact hc
  · refine Frm.setCell (Frm.grown (b := w'.alloc o) ?_ hg ?_) (Or.inl (Or.inl rfl)) _
    · exact ⟨h.frm.os, h.frm.tape, h.frm.output, by simp; have := h.frm.size; omega, fun i hi hn => by rw [heap_alloc_old _ _ (Nat.lt_of_lt_of_le hi h.frm.size)]; exact h.frm.block i hi hn⟩
    · intro i hi
      rcases h.foot i hi with h1 | h1
      · exact Or.inl (Or.inr h1)
      · exact Or.inr h1
  · intro i hi
    simp [Value.ownBlock] at hi
    subst hi
    rcases hk with hk | hk
    · exact h.foot _ hk
    · right
      have := h.frm.size
      simp at hk
      omega

def putS (S : St) (f : Nat) (s : ByteArray) : St := { S with now := S.now.set f (S.now.getD f ⟨#[]⟩ ++ s), loose := S.loose ++ [⟨f, (S.now.getD f ⟨#[]⟩).size, false, s⟩] }
def appendS (S : St) (f : Int) (s : ByteArray) : Int × St :=
  if errF S.on f ≠ 0 then (errF S.on f, S)
  else if 1048576 - ((S.now.getD f.toNat ⟨#[]⟩).size : Int) < s.size then (3, S)
  else if (opS S).1 ≠ 0 then opS S
  else (0, putS (opS S).2 f.toNat s)
theorem opS_two (S : St) : (opS S).1 = 0 ∨ (opS S).1 = 100 := by
  unfold opS
  split
  · exact Or.inr rfl
  · split
    · exact Or.inl rfl
    · exact Or.inl rfl
theorem opS_now (S : St) : (opS S).2.now = S.now := by unfold opS; split; rfl; split <;> rfl
theorem opS_sure (S : St) : (opS S).2.sure = S.sure := by unfold opS; split; rfl; split <;> rfl
theorem opS_loose (S : St) : (opS S).2.loose = S.loose := by unfold opS; split; rfl; split <;> rfl
/-- What the calls ask of a disk's size. -/
structure Fits (S : St) : Prop where
  ops : S.ops ≤ 10000000000
  loose : S.loose.length ≤ 1000000000
  lasts : -1 ≤ S.lasts ∧ S.lasts ≤ 1099511627776
  now : ∀ s ∈ S.now, s.size ≤ 1048576

set_option maxRecDepth 100000 in
set_option maxHeartbeats 1600000 in
theorem code_Append (g : Nat) (lv : Value) (S : St) (f : Int) (s : ByteArray) (w : World) (h : DAt w g lv S) (hS : Fits S) :
    Calls Try.prog 10 #[.pointer (some ⟨g, 0, none⟩), .int .i64 f, .string s] w fun e w' => e = .returned (.int .i64 (appendS S f s).1) ∧ ∃ lv', Left w g lv (appendS S f s).2 w' lv' := by
  have HS := Lib.hid (code_serves g S.on f w h.cOn)
  have HL := Lib.hid (Left.refl h)
  by_cases he : errF S.on f = 0
  · obtain ⟨hon, hf⟩ := errF_zero he
    obtain ⟨k, rfl⟩ : ∃ k : Nat, f = k := ⟨f.toNat, by omega⟩
    have hk : k < 64 := by omega
    have hc := h.cNow (h.file hk)
    have hsz := hS.now _ (List.mem_of_getElem? (h.file hk))
    unfold appendS
    rw [if_neg (fun x => x he), Int.toNat_natCast]
    rw [he] at HS
    obtain ⟨t, ht⟩ : ∃ t, S.now.getD k ⟨#[]⟩ = t := ⟨_, rfl⟩
    rw [ht] at hc hsz ⊢
    have hi : (k : Int) < 64 := by omega
    by_cases hl : 1048576 - (t.size : Int) < s.size
    · rw [if_pos hl]
      clear h hS hf hon he hk ht
      go_enter Try.func10, Try.ntmps10
      go_wp2_with fail
      refine HS.out.mono ?_
      rintro e w' ⟨rfl, rfl⟩
      go_wp2_with fail
      go_ret
      exact ⟨rfl, _, HL.out⟩
    rw [if_neg hl]
    have HO := Lib.hid (code_operation g lv S w h (by have := hS.ops; omega) hS.lasts.1 hS.lasts.2)
    rcases opS_two S with ho | ho
    · have hn1 := opS_now S
      have hl1 := opS_loose S
      have HF := Lib.hid hS.loose
      rw [if_neg (fun x => x ho)]
      rw [ho] at HO
      generalize (opS S).2 = S1 at HO hn1 hl1 ⊢
      rw [← hl1] at HF
      rw [← hn1] at ht
      unfold putS
      rw [ht]
      have HT := Lib.hid ht
      have HK := Lib.hid hk
      have hl2 : (s.size : Int) ≤ 1048576 - t.size := by omega
      clear h hS hf hon he hl ho hk hn1 hl1 ht
      go_enter Try.func10, Try.ntmps10
      go_wp2_with fail
      refine HS.out.mono ?_
      rintro e w' ⟨rfl, rfl⟩
      go_wp2_with fail
      refine HO.out.mono ?_
      rintro e w1 ⟨rfl, hl1⟩
      have HL1 := Lib.hid hl1
      clear hc hl1
      go_wp2_with fail
      refine wp_region_still_tail 10 (by kernel_rfl) (by kernel_rfl) ?_
      simp only [List.take_succ_cons, List.take_zero, List.drop_succ_cons, List.drop_zero]
      have hl2 := HL1.out.drew
      show wpStill _ _ w1.drew (fun a' => wpList _ _ _ _ a' w1.drew) _ _
      generalize w1.drew = w2 at hl2 ⊢
      have hc1 := hl2.at_.cNow (hl2.at_.file HK.out)
      rw [HT.out] at hc1
      have hfz1 := hl2.at_.fz
      have HL2 := Lib.hid (hl2.now k HK.out (t ++ s))
      clear hl2 HL1
      have hns : ¬ 9223372036854775807 < t.size + s.size := by omega
      repeat still_step
      refine wpStill_nil ?_
      go_upto_region 11 with (fail)
      generalize w2.setCell ⟨g, k, none⟩ (.string (t ++ s)) = w3 at HL2 ⊢
      clear hc1 hfz1
      have hc1 := HL2.out.at_.cLoose
      have hown := HL2.out.at_.own
      have hbl : ((S1.loose.length) + 1) * (KC.bytes + 1) ≤ 1099511627776 := by have := HF.out; simp [KC]; omega
      have HO2 := Lib.hid (hown.kept ((Below.refl _ _).alloc (Nat.le_refl _) (.cells #[.int .i64 k, .int .i64 t.size, .bool false, .string s] 61)))
      have HAT := Lib.hid (at_one w3 ⟨k, t.size, false, s⟩)
      have HBL := Lib.hid hbl
      clear hown hbl
      go_wp2_with (refine wpList_append_grow (K := KC) rfl (.tmp 48) (.tmp 53) 56 rfl Try.underlying56 0 rfl HO2.out _ [⟨k, t.size, false, s⟩] rfl HAT.out (by simp) (S1.loose.length + 1) rfl HBL.out (Nat.zero_le _) ?_; intro g5 cap5 w5 hown5 hgr5 hk5 hlt5; obtain ⟨hL5, hc5, hf5⟩ := HL2.out.grow hown5 hgr5 hk5; have HL5 := Lib.hid hL5; clear hown5 hgr5 hk5 hlt5 hL5)
      go_ret
      exact ⟨rfl, _, HL5.out⟩
    · have hr : (opS S).1 ≠ 0 := by rw [ho]; decide
      rw [if_pos hr]
      rw [ho] at HO ⊢
      generalize (opS S).2 = S1 at HO ⊢
      have hl2 : (s.size : Int) ≤ 1048576 - t.size := by omega
      clear h hS hf hon he hl ho hk hr ht
      go_enter Try.func10, Try.ntmps10
      go_wp2_with fail
      refine HS.out.mono ?_
      rintro e w' ⟨rfl, rfl⟩
      go_wp2_with fail
      refine HO.out.mono ?_
      rintro e w1 ⟨rfl, hl1⟩
      have HL1 := Lib.hid hl1
      clear hl1
      go_wp2_with fail
      go_ret
      exact ⟨rfl, _, HL1.out⟩
  · unfold appendS
    rw [if_pos he]
    generalize errF S.on f = x at HS he ⊢
    have he2 : (x == 0) = false := by simpa using he
    have he3 : (x != 0) = true := by simpa using he
    clear h hS
    go_enter Try.func10, Try.ntmps10
    go_wp2_with fail
    refine HS.out.mono ?_
    rintro e w' ⟨rfl, rfl⟩
    go_wp2_with fail
    go_ret
    exact ⟨rfl, _, HL.out⟩

def cutS (S : St) (f n : Nat) : St := { S with now := S.now.set f ((S.now.getD f ⟨#[]⟩).extract 0 n), loose := S.loose ++ [⟨f, n, true, ⟨#[]⟩⟩] }
def cutterS (S : St) (f n : Int) : Int × St :=
  if errF S.on f ≠ 0 then (errF S.on f, S)
  else if n < 0 ∨ ((S.now.getD f.toNat ⟨#[]⟩).size : Int) < n then (5, S)
  else if (opS S).1 ≠ 0 then opS S
  else (0, cutS (opS S).2 f.toNat n.toNat)

set_option maxRecDepth 100000 in
set_option maxHeartbeats 1600000 in
theorem code_Cut (g : Nat) (lv : Value) (S : St) (f n : Int) (w : World) (h : DAt w g lv S) (hS : Fits S) :
    Calls Try.prog 18 #[.pointer (some ⟨g, 0, none⟩), .int .i64 f, .int .i64 n] w fun e w' => e = .returned (.int .i64 (cutterS S f n).1) ∧ ∃ lv', Left w g lv (cutterS S f n).2 w' lv' := by
  have HS := Lib.hid (code_serves g S.on f w h.cOn)
  have HL := Lib.hid (Left.refl h)
  by_cases he : errF S.on f = 0
  · obtain ⟨hon, hf⟩ := errF_zero he
    obtain ⟨k, rfl⟩ : ∃ k : Nat, f = k := ⟨f.toNat, by omega⟩
    have hk : k < 64 := by omega
    have hc := h.cNow (h.file hk)
    have hsz := hS.now _ (List.mem_of_getElem? (h.file hk))
    unfold cutterS
    rw [if_neg (fun x => x he), Int.toNat_natCast]
    rw [he] at HS
    obtain ⟨t, ht⟩ : ∃ t, S.now.getD k ⟨#[]⟩ = t := ⟨_, rfl⟩
    rw [ht] at hc hsz ⊢
    have hi : (k : Int) < 64 := by omega
    by_cases hl : n < 0
    · rw [if_pos (Or.inl hl)]
      clear h hS hf hon he hk ht
      go_enter Try.func18, Try.ntmps18
      go_wp2_with fail
      refine HS.out.mono ?_
      rintro e w' ⟨rfl, rfl⟩
      go_wp2_with fail
      go_ret
      exact ⟨rfl, _, HL.out⟩
    obtain ⟨m, rfl⟩ : ∃ m : Nat, n = m := ⟨n.toNat, by omega⟩
    have hm0 : (0 : Int) ≤ (m : Int) := by omega
    by_cases hl : t.size < m
    · rw [if_pos (Or.inr (by omega))]
      clear h hS hf hon he hk ht
      go_enter Try.func18, Try.ntmps18
      go_wp2_with fail
      refine HS.out.mono ?_
      rintro e w' ⟨rfl, rfl⟩
      go_wp2_with fail
      go_ret
      exact ⟨rfl, _, HL.out⟩
    rw [if_neg (by omega), Int.toNat_natCast]
    have HO := Lib.hid (code_operation g lv S w h (by have := hS.ops; omega) hS.lasts.1 hS.lasts.2)
    rcases opS_two S with ho | ho
    · have hn1 := opS_now S
      have hl1 := opS_loose S
      have HF := Lib.hid hS.loose
      rw [if_neg (fun x => x ho)]
      rw [ho] at HO
      generalize (opS S).2 = S1 at HO hn1 hl1 ⊢
      rw [← hl1] at HF
      rw [← hn1] at ht
      unfold cutS
      rw [ht]
      have HT := Lib.hid ht
      have HK := Lib.hid hk
      have hl2 : (m : Int) ≤ t.size := by omega
      clear h hS hf hon he hl ho hk hn1 hl1 ht
      go_enter Try.func18, Try.ntmps18
      go_wp2_with fail
      refine HS.out.mono ?_
      rintro e w' ⟨rfl, rfl⟩
      go_wp2_with fail
      refine HO.out.mono ?_
      rintro e w1 ⟨rfl, hl1⟩
      have HL1 := Lib.hid hl1
      clear hc hl1
      go_wp2_with fail
      refine wp_region_still_tail 12 (by kernel_rfl) (by kernel_rfl) ?_
      simp only [List.take_succ_cons, List.take_zero, List.drop_succ_cons, List.drop_zero]
      have hl2 := HL1.out.drew
      show wpStill _ _ w1.drew (fun a' => wpList _ _ _ _ a' w1.drew) _ _
      generalize w1.drew = w2 at hl2 ⊢
      have hc1 := hl2.at_.cNow (hl2.at_.file HK.out)
      rw [HT.out] at hc1
      have hfz1 := hl2.at_.fz
      have HL2 := Lib.hid (hl2.now k HK.out (t.extract 0 m))
      clear hl2 HL1
      repeat still_step
      refine wpStill_nil ?_
      go_upto_region 10 with (fail)
      generalize w2.setCell ⟨g, k, none⟩ (.string (t.extract 0 m)) = w3 at HL2 ⊢
      clear hc1 hfz1
      have hc1 := HL2.out.at_.cLoose
      have hown := HL2.out.at_.own
      have hbl : ((S1.loose.length) + 1) * (KC.bytes + 1) ≤ 1099511627776 := by have := HF.out; simp [KC]; omega
      have HO2 := Lib.hid (hown.kept ((Below.refl _ _).alloc (Nat.le_refl _) (.cells #[.int .i64 k, .int .i64 m, .bool true, .string ⟨#[]⟩] 61)))
      have HAT := Lib.hid (at_one w3 ⟨k, m, true, ⟨#[]⟩⟩)
      have HBL := Lib.hid hbl
      clear hown hbl
      go_wp2_with (refine wpList_append_grow (K := KC) rfl (.tmp 50) (.tmp 54) 56 rfl Try.underlying56 0 rfl HO2.out _ [⟨k, m, true, ⟨#[]⟩⟩] rfl HAT.out (by simp) (S1.loose.length + 1) rfl HBL.out (Nat.zero_le _) ?_; intro g5 cap5 w5 hown5 hgr5 hk5 hlt5; obtain ⟨hL5, hc5, hf5⟩ := HL2.out.grow hown5 hgr5 hk5; have HL5 := Lib.hid hL5; clear hown5 hgr5 hk5 hlt5 hL5)
      go_ret
      exact ⟨rfl, _, HL5.out⟩
    · have hr : (opS S).1 ≠ 0 := by rw [ho]; decide
      rw [if_pos hr]
      rw [ho] at HO ⊢
      generalize (opS S).2 = S1 at HO ⊢
      have hl2 : (m : Int) ≤ t.size := by omega
      clear h hS hf hon he hl ho hk hr ht
      go_enter Try.func18, Try.ntmps18
      go_wp2_with fail
      refine HS.out.mono ?_
      rintro e w' ⟨rfl, rfl⟩
      go_wp2_with fail
      refine HO.out.mono ?_
      rintro e w1 ⟨rfl, hl1⟩
      have HL1 := Lib.hid hl1
      clear hl1
      go_wp2_with fail
      go_ret
      exact ⟨rfl, _, HL1.out⟩
  · unfold cutterS
    rw [if_pos he]
    generalize errF S.on f = x at HS he ⊢
    have he2 : (x == 0) = false := by simpa using he
    have he3 : (x != 0) = true := by simpa using he
    clear h hS
    go_enter Try.func18, Try.ntmps18
    go_wp2_with fail
    refine HS.out.mono ?_
    rintro e w' ⟨rfl, rfl⟩
    go_wp2_with fail
    go_ret
    exact ⟨rfl, _, HL.out⟩
theorem code_Append_nil (f : Int) (s : ByteArray) (w : World) : Calls Try.prog 10 #[.pointer none, .int .i64 f, .string s] w fun e w' => e = .returned (.int .i64 1) ∧ w = w' := by
  go_enter Try.func10, Try.ntmps10
  go_wp2_with fail
  refine (code_serves_nil _ _).mono ?_
  rintro e w' ⟨rfl, rfl⟩
  go_wp2_with fail
  go_ret
  exact ⟨rfl, rfl⟩
theorem code_Cut_nil (f n : Int) (w : World) : Calls Try.prog 18 #[.pointer none, .int .i64 f, .int .i64 n] w fun e w' => e = .returned (.int .i64 1) ∧ w = w' := by
  go_enter Try.func18, Try.ntmps18
  go_wp2_with fail
  refine (code_serves_nil _ _).mono ?_
  rintro e w' ⟨rfl, rfl⟩
  go_wp2_with fail
  go_ret
  exact ⟨rfl, rfl⟩
end Go.Proofs.Ytoacnhiophgfcaa.Dk
