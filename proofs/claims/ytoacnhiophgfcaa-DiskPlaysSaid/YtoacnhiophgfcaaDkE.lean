/- disk: Sync. -/
import Derived.Test.YtoacnhiophgfcaaDkE2
import Derived.StillTailTactics
import Derived.Laws.EntriesVeiled
namespace Go.Proofs.Ytoacnhiophgfcaa.Dk
open Go.RowKit Go.Proofs.Ytoacnhiophgfcaa.Gr

def syncS (S : St) (f : Nat) : St := { S with sure := S.sure.set f (S.now.getD f ⟨#[]⟩), loose := keepF f S.loose }
def syncerS (S : St) (f : Int) : Int × St :=
  if errF S.on f ≠ 0 then (errF S.on f, S)
  else if (opS S).1 ≠ 0 then opS S
  else (0, syncS (opS S).2 f.toNat)

theorem Left.sure {w w' : World} {g : Nat} {lv lv' : Value} {S : St} (h : Left w g lv S w' lv') (f : Nat) (hf : f < 64) (s : ByteArray) : Left w g lv { S with sure := S.sure.set f s } (w'.setCell ⟨g, 64 + f, none⟩ (.string s)) lv' :=
  h.put (set_sure lv' h.at_.now h.at_.sure f hf s) h.at_.now (by simp [h.at_.sure]) rfl
theorem Left.alloc {w : World} {g : Nat} {lv : Value} {S : St} (h : DAt w g lv S) (o : Obj) : Left w g lv S (w.alloc o) lv :=
  ⟨h.kept (F := fun _ => False) (Frm.of_below ((Below.refl _ _).alloc (Nat.le_refl _) _)) id (fun _ _ => id), Frm.of_below ((Below.refl _ _).alloc (Nat.le_refl _) _), fun _ h => Or.inl h⟩

/-- Another row of loose changes is laid. -/
theorem Left.swap {w w' w2 : World} {g : Nat} {lv lv' lu : Value} {S : St} (h : Left w g lv S w' lv') {L : List Ch} (hown : KC.Own 0 lu L w2) (hf : Frm (fun i => lv'.ownBlock = some i) w' w2) (hlu : ∀ i, lu.ownBlock = some i → lv'.ownBlock = some i) :
    Left w g lv { S with loose := L } (w2.setCell ⟨g, 128, none⟩ lu) lu ∧ w2.cell? ⟨g, 128, none⟩ = some lv' ∧ w2.frozen? ⟨g, 128, none⟩ = false := by
  have hh : w2.heap[g]? = some (.cells (S.vals lv').toArray 58 (0, 0)) := (hf.block g h.at_.lt h.at_.ne).trans h.at_.heap
  refine ⟨⟨⟨?_, h.at_.now, h.at_.sure, ?_⟩, ?_, fun i hi => h.foot i (hlu i hi)⟩, cell_row hh (vals_rest S lv' h.at_.now h.at_.sure 0), by simp [World.frozen?, hh]⟩
  · rw [vals_set (T := { S with loose := L }) (lu := lu) _ hh]
    · exact setRow_heap _ _ _ _ _ _ hh
    · rw [set_rest lv' h.at_.now h.at_.sure 0]
      rfl
  · rcases hown.2 with ⟨rfl, e⟩ | ⟨b, cp, cur, rfl, hb, hc, r⟩
    · exact ⟨hown.1, Or.inl ⟨rfl, e⟩⟩
    · refine ⟨hown.1, Or.inr ⟨b, cp, cur, rfl, hb, ?_, r⟩⟩
      rw [Below.heap_setCell _ _ _ _ (fun e2 => h.at_.ne (by rw [hlu b rfl, e2]))]
      exact hc
  · refine Frm.setCell (h.frm.trans hf (fun i hi => ?_)) (Or.inl (Or.inl rfl)) _
    rcases h.foot i hi with h1 | h1
    · exact Or.inl (Or.inr h1)
    · exact Or.inr h1

set_option maxRecDepth 100000 in
set_option maxHeartbeats 1600000 in
theorem code_Sync (g : Nat) (lv : Value) (S : St) (f : Int) (w : World) (h : DAt w g lv S) (hS : Fits S) :
    Calls Try.prog 15 #[.pointer (some ⟨g, 0, none⟩), .int .i64 f] w fun e w' => e = .returned (.int .i64 (syncerS S f).1) ∧ ∃ lv', Left w g lv (syncerS S f).2 w' lv' := by
  have HL := Lib.hid (Left.alloc h (.cells #[.int .i64 f] 3))
  have HS := Lib.hid (code_serves g S.on f (w.alloc (.cells #[.int .i64 f] 3)) (HL.out.at_.cOn))
  by_cases he : errF S.on f = 0
  · obtain ⟨hon, hf⟩ := errF_zero he
    obtain ⟨k, rfl⟩ : ∃ k : Nat, f = k := ⟨f.toNat, by omega⟩
    have hk : k < 64 := by omega
    unfold syncerS
    rw [if_neg (fun x => x he), Int.toNat_natCast]
    rw [he] at HS
    have hi : (k : Int) < 64 := by omega
    have HO := Lib.hid (code_operation g lv S (w.alloc (.cells #[.int .i64 k] 3)) HL.out.at_ (by have := hS.ops; omega) hS.lasts.1 hS.lasts.2)
    have hcb : (w.alloc (.cells #[.int .i64 k] 3)).heap[w.heap.size]? = some (.cells #[.int .i64 k] 3 (0, 0)) := heap_alloc_new _ _
    have hgb : w.heap.size ≠ g := by have := h.lt; omega
    have hlb : ∀ i, lv.ownBlock = some i → w.heap.size ≠ i := fun i hi => by
      obtain ⟨cs, hc⟩ := own_type h.own i hi
      have := (Array.getElem?_eq_some_iff.1 hc).1
      omega
    rcases opS_two S with ho | ho
    · have hn1 := opS_now S
      have hl1 := opS_loose S
      have HF := Lib.hid hS.loose
      rw [if_neg (fun x => x ho)]
      rw [ho] at HO
      generalize (opS S).2 = S1 at HO hn1 hl1 ⊢
      rw [← hl1] at HF
      obtain ⟨t, ht⟩ : ∃ t, S1.now.getD k ⟨#[]⟩ = t := ⟨_, rfl⟩
      unfold syncS
      rw [ht]
      have HT := Lib.hid ht
      have HK := Lib.hid hk
      have HCB := Lib.hid hcb
      have HGB := Lib.hid hgb
      have HLB := Lib.hid hlb
      clear h hS hf hon he ho hk hn1 hl1 ht hcb hgb hlb
      go_enter Try.func15, Try.ntmps15
      go_wp2_with fail
      refine HS.out.mono ?_
      rintro e w' ⟨rfl, rfl⟩
      go_wp2_with fail
      refine HO.out.mono ?_
      rintro e w1 ⟨rfl, hl1⟩
      have hb1 : w1.heap[w.heap.size]? = some (.cells #[.int .i64 k] 3 (0, 0)) := (hl1.frm.block _ (by simp) (fun hfo => by
        rcases hfo with e | e
        · exact HGB.out e
        · exact HLB.out _ e rfl)).trans HCB.out
      obtain ⟨b, hb⟩ : ∃ b, w.heap.size = b := ⟨_, rfl⟩
      rw [hb] at hb1
      rw [hb]
      have hgb2 : b ≠ (⟨g, 64 + k, none⟩ : Addr).block := by rw [← hb]; exact HGB.out
      have HGB2 := Lib.hid hgb2
      clear hgb2
      have HL1 := Lib.hid hl1
      have HB1 := Lib.hid hb1
      have hcb := Lib.cell_of_heap hb1 0
      clear hl1 hb1 hb
      go_wp2_with fail
      refine wp_region_still_tail 10 (by kernel_rfl) (by kernel_rfl) ?_
      simp only [List.take_succ_cons, List.take_zero, List.drop_succ_cons, List.drop_zero]
      have hl2 := HL1.out.drew
      have hb2 : w1.drew.heap[b]? = some (.cells #[.int .i64 k] 3 (0, 0)) := HB1.out
      show wpStill _ _ w1.drew (fun a' => wpList _ _ _ _ a' w1.drew) _ _
      generalize w1.drew = w2 at hl2 hb2 ⊢
      have hc1 := hl2.at_.cNow (hl2.at_.file HK.out)
      rw [HT.out] at hc1
      have hc3 := hl2.at_.cSure (hl2.at_.fileS HK.out)
      have hfz1 := hl2.at_.fz
      have HB2 := Lib.hid hb2
      clear hcb
      have hcb := Lib.cell_of_heap hb2 0
      have HL2 := Lib.hid (hl2.sure k HK.out t)
      clear hl2 HL1 hb2
      repeat still_step
      refine wpStill_nil ?_
      go_upto_region 8 with (fail)
      have hb3 : (w2.setCell ⟨g, 64 + k, none⟩ (.string t)).heap[b]? = some (.cells #[.int .i64 k] 3 (0, 0)) := (Below.heap_setCell _ _ _ _ HGB2.out).trans HB2.out
      generalize w2.setCell ⟨g, 64 + k, none⟩ (.string t) = w3 at HL2 hb3 ⊢
      have HB3 := Lib.hid hb3
      clear hc1 hc3 hfz1 hcb HB2 hb3
      have hc1 := HL2.out.at_.cLoose
      have HD := Lib.hid (code_DeleteFunc lv S1.loose k b w3 HL2.out.at_.own HB3.out HF.out)
      go_wp2_with fail
      refine HD.out.mono ?_
      rintro e w4 ⟨lu, rfl, hown4, hfr4, hlu⟩
      obtain ⟨ua, un, uc, rfl⟩ : ∃ a n c, lu = .slice a n c := by
        rcases hown4.form with ⟨h1, _⟩ | ⟨_, _, h1, _⟩
        · exact ⟨_, _, _, h1⟩
        · exact ⟨_, _, _, h1⟩
      obtain ⟨hL4, hc4, hf4⟩ := HL2.out.swap hown4 hfr4 hlu
      have HL4 := Lib.hid (HL.out.trans hL4)
      clear hown4 hfr4 hlu hL4 hc1
      go_wp2_with fail
      go_ret
      exact ⟨rfl, _, HL4.out⟩
    · have hr : (opS S).1 ≠ 0 := by rw [ho]; decide
      rw [if_pos hr]
      rw [ho] at HO ⊢
      generalize (opS S).2 = S1 at HO ⊢
      clear h hS hf hon he ho hk hr hcb hgb hlb
      go_enter Try.func15, Try.ntmps15
      go_wp2_with fail
      refine HS.out.mono ?_
      rintro e w' ⟨rfl, rfl⟩
      go_wp2_with fail
      refine HO.out.mono ?_
      rintro e w1 ⟨rfl, hl1⟩
      have HL1 := Lib.hid (HL.out.trans hl1)
      clear hl1
      go_wp2_with fail
      go_ret
      exact ⟨rfl, _, HL1.out⟩
  · unfold syncerS
    rw [if_pos he]
    generalize errF S.on f = x at HS he ⊢
    have he2 : (x == 0) = false := by simpa using he
    have he3 : (x != 0) = true := by simpa using he
    clear h hS
    go_enter Try.func15, Try.ntmps15
    go_wp2_with fail
    refine HS.out.mono ?_
    rintro e w' ⟨rfl, rfl⟩
    go_wp2_with fail
    go_ret
    exact ⟨rfl, _, HL.out⟩
theorem code_Sync_nil (f : Int) (w : World) : Calls Try.prog 15 #[.pointer none, .int .i64 f] w fun e w' => e = .returned (.int .i64 1) ∧ Below w.heap.size w w' := by
  go_enter Try.func15, Try.ntmps15
  go_wp2_with fail
  refine (code_serves_nil _ _).mono ?_
  rintro e w' ⟨rfl, rfl⟩
  go_wp2_with fail
  go_ret
  exact ⟨rfl, (Below.refl _ _).alloc (Nat.le_refl _) _⟩
end Go.Proofs.Ytoacnhiophgfcaa.Dk
