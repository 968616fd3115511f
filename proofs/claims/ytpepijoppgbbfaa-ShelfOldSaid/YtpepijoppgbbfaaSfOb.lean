/- shelf: ShelfOld. -/
import Derived.Test.YtpepijoppgbbfaaSfOa
import Derived.Test.YtpepijoppgbbfaaSfQ
import Derived.Test.YtpepijoppgbbfaaQFm
namespace Go.Proofs.Ytpepijoppgbbfaa.Shf
open Go.RowKit Go.Shelf Go.Proofs.Ytpepijoppgbbfaa.Gr

set_option maxRecDepth 100000 in
set_option maxHeartbeats 12800000 in
theorem old_any (v0 : Value) (L : List OpT) (w : World) (hT : KO.At w v0 L) (hl : L.length ≤ 9223372036854775807) (hwf : ∀ x ∈ L, (Lit.int .i64 x.n).wf = true) :
    Calls Try.prog 5 #[v0] w fun e w' => e = .returned (.bool true) ∧ Below w.heap.size w w' := by
  have HN := Lib.hid (fun w => code_NewS w)
  have HWK := Lib.hid works_any
  have HHV := Lib.hid (fun w hT => heavy_any v0 L w hT hl)
  have HWF := Lib.hid hwf
  obtain ⟨av0, cap0, rfl, hcap⟩ := hT.form
  have HT := Lib.hid hT
  clear hT hl hwf
  go_enter Try.func5, Try.ntmps5
  go_wp2_with fail
  refine (HWK.out _).mono ?_
  rintro e w1 ⟨rfl, hb1⟩
  go_wp2_with fail
  refine (HHV.out _ (HT.out.kept hb1)).mono ?_
  rintro e w2 ⟨b, rfl, _, hb2⟩
  have HB2 := Lib.hid (hb1.trans (hb2.mono hb1.size))
  clear hb1 hb2 HWK HHV
  cases b with
  | true =>
    go_wp2_with fail
    go_ret
    exact ⟨rfl, HB2.out⟩
  | false =>
    by_cases h60 : L.length ≤ 60
    · have h60i : ¬ (60 < (L.length : Int)) := by omega
      go_wp2_with fail
      refine (HN.out _).mono ?_
      rintro e w3 ⟨S0, rfl, hS0, hb3⟩
      obtain ⟨p0, T0, rfl, hT0, hl0, hs0⟩ := hS0
      have HS0 := Lib.hid (show ShelfAt w3.heap.size w3 #[.pointer p0] [] from ⟨p0, T0, rfl, hT0, hl0, hs0⟩)
      have HB3 := Lib.hid (HB2.out.trans (hb3.mono HB2.out.size))
      clear hT0 hl0 hs0 hb3 HB2 HN h60i
      go_wp2_with fail
      obtain ⟨W5, hW5⟩ : ∃ X, (w3.alloc (.cells #[.pointer p0] 24)).alloc (.cells #[.slice none 0 0] 37) = X := ⟨_, rfl⟩
      have hI0 : OldI w 0 (.slice (some ⟨w3.heap.size, 0, none⟩) 1 1) (.slice (some ⟨w3.heap.size + 1, 0, none⟩) 1 1) [p0] [(none, 0, 0)] [⟨p0, (none, 0, 0), []⟩] W5 := by
        have ha : KH.Own w.heap.size (.slice (some ⟨w3.heap.size, 0, none⟩) 1 1) [p0] (w3.alloc (.cells #[.pointer p0] 24)) := World.ownsRow_lit w3 #[.pointer p0] 1 HB3.out.size (by decide) rfl
        have hb : KL.Own w.heap.size (.slice (some ⟨(w3.alloc (.cells #[.pointer p0] 24)).heap.size, 0, none⟩) 1 1) [(none, 0, 0)] ((w3.alloc (.cells #[.pointer p0] 24)).alloc (.cells #[.slice none 0 0] 37)) := World.ownsRow_lit _ #[.slice none 0 0] 1 (by have := HB3.out.size; simp; omega) (by decide) rfl
        have h1 : Below w3.heap.size w3 (w3.alloc (.cells #[.pointer p0] 24)) := (Below.refl _ _).alloc (Nat.le_refl _) _
        have h2 : Below (w3.alloc (.cells #[.pointer p0] 24)).heap.size (w3.alloc (.cells #[.pointer p0] 24)) ((w3.alloc (.cells #[.pointer p0] 24)).alloc (.cells #[.slice none 0 0] 37)) := (Below.refl _ _).alloc (Nat.le_refl _) _
        have h12 := h1.trans (h2.mono h1.size)
        rw [World.size_alloc] at hb
        rw [← hW5]
        refine ⟨ha.kept h2, hb, fun j hj hk => ?_, fun e he => ?_, HB3.out.trans (h12.mono HB3.out.size)⟩
        · simp [Value.ownBlock] at hj hk
          omega
        · obtain rfl := List.mem_singleton.1 he
          exact ⟨HS0.out.below h12 h12.size, Nat.le_refl _, Kind.At.nil _ _, fun h => absurd rfl h⟩
      rw [hW5]
      clear hW5
      have HI0 := Lib.hid hI0
      clear hI0 HB3 HS0
      generalize w3.heap.size = ga0 at HI0 ⊢
      go_loopw [3, 4, 26] (fun av lv iv wr => ∃ (i : Nat) (E : List Ent) (ga ca gl cl : Nat), i ≤ L.length ∧ E.length = i + 1 ∧ av = .slice (some ⟨ga, 0, none⟩) (i + 1) ca ∧ lv = .slice (some ⟨gl, 0, none⟩) (i + 1) cl ∧ iv = .int .i64 i ∧ OldI w i av lv (E.map (·.p)) (E.map (·.s)) E wr) (fun _ _ iv _ => L.length - (intOf iv).toNat)
      case atStart => exact ⟨0, [⟨p0, (none, 0, 0), []⟩], ga0, 1, ga0 + 1, 1, Nat.zero_le _, rfl, rfl, rfl, rfl, HI0.out⟩
      case round =>
        obtain ⟨i, E, ga, ca, gl, cl, hi, hE, rfl, rfl, rfl, hI⟩ := hrel
        have HI := Lib.hid hI
        have HE := Lib.hid hE
        clear hI hE HI0
        by_cases hlt : i < L.length
        · obtain ⟨g, o, cap', hav, _, hr⟩ := (HT.out.kept HI.out.below).some (by omega)
          have hx := List.getElem?_eq_getElem hlt
          obtain ⟨x, hxx⟩ : ∃ x, L[i] = x := ⟨_, rfl⟩
          rw [hxx] at hx
          obtain ⟨c0, c1, c2, c3⟩ := op_cells hr hx
          injection hav with hav1 _ hav2
          subst hav1 hav2
          have hlti : (i : Int) < (L.length : Int) := by omega
          obtain ⟨n, hn⟩ : ∃ n, i + 1 = n := ⟨_, rfl⟩
          rw [hn] at HI HE
          rw [hn]
          have hni : (n : Int) - 1 = (i : Int) := by omega
          clear hxx hr hx
          go_upto_region 10 with (fail)
          have hb1 : Below wr.heap.size wr (wr.alloc (.cells #[.int .i64 x.kind, .int .i64 x.n, .string x.key, .int .u64 x.v] 39)) := (Below.refl _ _).alloc (Nat.le_refl _) _
          have h6 := heap_alloc_new wr (.cells #[.int .i64 x.kind, .int .i64 x.n, .string x.key, .int .u64 x.v] 39)
          have hs6 : (wr.alloc (.cells #[.int .i64 x.kind, .int .i64 x.n, .string x.key, .int .u64 x.v] 39)).heap.size = wr.heap.size + 1 := by simp
          generalize wr.alloc (.cells #[.int .i64 x.kind, .int .i64 x.n, .string x.key, .int .u64 x.v] 39) = W at hb1 h6 hs6 ⊢
          have HW := Lib.hid (HI.out.kept hb1)
          obtain ⟨g6, hg6⟩ : ∃ y, wr.heap.size = y := ⟨_, rfl⟩
          rw [hg6] at h6 hs6
          rw [hg6]
          have H6 := Lib.hid h6
          have L6 := Lib.hid (show g6 < W.heap.size by omega)
          have HN := Lib.hid (show i + 1 = n ∧ i < 60 by omega)
          have k0 : W.cell? ⟨g6, 0, none⟩ = some (.int .i64 x.kind) := by rw [Lib.cell_of_heap h6]; rfl
          have k1 : W.cell? ⟨g6, 1, none⟩ = some (.int .i64 x.n) := by rw [Lib.cell_of_heap h6]; rfl
          clear hb1 h6 hs6 hg6 HI c0 c1 c2 c3 hn hlti
          by_cases e4 : x.kind = 4
          · rw [e4] at k0
            have hn0 : ¬ (n : Int) = 0 := by have := HN.out; omega
            go_upto_region 13 with (fail)
            obtain ⟨q, hqn, hq⟩ := rem_in x.n n (by have := HN.out; omega) (by have := HN.out; omega)
            rw [hq]
            clear hq hn0 hni k1
            have hqe : q < E.length := by have := HE.out; omega
            have he := List.getElem?_eq_getElem hqe
            obtain ⟨e, hee⟩ : ∃ e, E[q] = e := ⟨_, rfl⟩
            rw [hee] at he
            have HEA := Lib.hid (HW.out.each e (by rw [← hee]; exact List.getElem_mem hqe))
            have HRA := Lib.hid (HW.out.readA (i := q) (p := e.p) (by rw [List.getElem?_map, he]; rfl))
            have HRL := Lib.hid (HW.out.readL (i := q) (s := e.s) (by rw [List.getElem?_map, he]; rfl))
            obtain ⟨ep, ⟨sa, sn, sc⟩, el⟩ := e
            obtain rfl : sn = el.length := by
              obtain ⟨_, _, hv, _⟩ := HEA.out.list.form
              rw [sl_own] at hv
              injection hv
            rw [sl_own] at HRL
            clear he hee hqe
            have hqi : (q : Int) < (n : Int) := by omega
            refine QT.wp_region_facts_mid 9 8 8 (by kernel_rfl) (fun w' => Below W.heap.size W w') (fun zi v w' => (([.val (.slice (some ⟨ga, 0, none⟩) n ca), .val (.int .i64 (q : Int)), .val (.pointer (some ⟨ga, q, none⟩)), .val (.agg #[.pointer ep]), .val (.slice (some ⟨gl, 0, none⟩) n cl), .val (.int .i64 (q : Int)), .val (.pointer (some ⟨gl, q, none⟩)), .val (.slice sa el.length sc), .fresh W.heap.size #[.pointer none] 24, .val (.bool false), .val (.slice sa el.length sc)] : List FactO).getD zi (.val undef) : FactO).holds v w') (fun v w' => ∃ g, v = .pointer (some ⟨g, 0, none⟩) ∧ W.heap.size ≤ g ∧ w'.heap[g]? = some (.cells #[.pointer ep] 24 (0, 0))) (by kernel_rfl) (by kernel_rfl) (Below.refl _ _).drew (fun w1 w2 h1 hb => h1.trans (hb.mono h1.size)) (fun _ v w1 w2 h hb => FactO.kept _ v w1 w2 h hb) ?_ (fun zi o hzi ho a wz hI hag hdep => ?_) (fun o ho a wz hI hag hdep => ?_) (fun a wz hI hag hf hg => ?_)
            · exact fun v w1 w2 ⟨g, hv, hl, hc⟩ hb => ⟨g, hv, hl, (hb.block g ((Array.getElem?_eq_some_iff.1 hc).1)).trans hc⟩
            · have t3 : a.eval (.tmp 3) = .slice (some ⟨ga, 0, none⟩) n ca := hag.old 3 _ (by kernel_rfl) rfl
              have t4 : a.eval (.tmp 4) = .slice (some ⟨gl, 0, none⟩) n cl := hag.old 4 _ (by kernel_rfl) rfl
              have t7 : a.eval (.tmp 7) = .int .i64 (q : Int) := hag.old 7 _ (by kernel_rfl) rfl
              have r1 : wz.rangeAt ga q [.pointer ep] := range_kept hI HRA.out
              have cl1 : wz.cell? ⟨gl, q, none⟩ = some (.slice sa el.length sc) := by rw [hI.cell (World.block_lt_of_cell? _ _ HRL.out)]; exact HRL.out
              match zi, hzi, ho with
              | 0, _, ho =>
                obtain rfl := (Option.some.inj ho).symm
                exact ⟨rfl, QT.wp_value (BigFrame.run_move (.tmp 3) rfl wz) ⟨_, rfl, t3, Below.refl _ _⟩⟩
              | 1, _, ho =>
                obtain rfl := (Option.some.inj ho).symm
                exact ⟨rfl, QT.wp_value (BigFrame.run_move (.tmp 7) rfl wz) ⟨_, rfl, t7, Below.refl _ _⟩⟩
              | 2, _, ho =>
                obtain rfl := (Option.some.inj ho).symm
                have d47 : a.eval (.tmp 47) = .slice (some ⟨ga, 0, none⟩) n ca := hdep _ (Array.mem_of_getElem? (i := 0) rfl) rfl (by decide) _ _ rfl rfl
                have d48 : a.eval (.tmp 48) = .int .i64 (q : Int) := hdep _ (Array.mem_of_getElem? (i := 1) rfl) rfl (by decide) _ _ rfl rfl
                exact ⟨rfl, QT.wp_value (v := .pointer (some ⟨ga, q, none⟩)) (by simp [go_sem, QT.nf d47, QT.nf d48, hqi]) ⟨_, rfl, rfl, Below.refl _ _⟩⟩
              | 3, _, ho =>
                obtain rfl := (Option.some.inj ho).symm
                have d49 : a.eval (.tmp 49) = .pointer (some ⟨ga, q, none⟩) := hdep _ (Array.mem_of_getElem? (i := 0) rfl) rfl (by decide) _ _ rfl rfl
                exact ⟨rfl, wp_load_mid 24 (.tmp 49) rfl ga q d49 [.pointer ep] _ r1 Try.underlying24 rfl shelf_info ⟨_, rfl, rfl, Below.refl _ _⟩⟩
              | 4, _, ho =>
                obtain rfl := (Option.some.inj ho).symm
                exact ⟨rfl, QT.wp_value (BigFrame.run_move (.tmp 4) rfl wz) ⟨_, rfl, t4, Below.refl _ _⟩⟩
              | 5, _, ho =>
                obtain rfl := (Option.some.inj ho).symm
                exact ⟨rfl, QT.wp_value (BigFrame.run_move (.tmp 7) rfl wz) ⟨_, rfl, t7, Below.refl _ _⟩⟩
              | 6, _, ho =>
                obtain rfl := (Option.some.inj ho).symm
                have d51 : a.eval (.tmp 51) = .slice (some ⟨gl, 0, none⟩) n cl := hdep _ (Array.mem_of_getElem? (i := 0) rfl) rfl (by decide) _ _ rfl rfl
                have d52 : a.eval (.tmp 52) = .int .i64 (q : Int) := hdep _ (Array.mem_of_getElem? (i := 1) rfl) rfl (by decide) _ _ rfl rfl
                exact ⟨rfl, QT.wp_value (v := .pointer (some ⟨gl, q, none⟩)) (by simp [go_sem, QT.nf d51, QT.nf d52, hqi]) ⟨_, rfl, rfl, Below.refl _ _⟩⟩
              | 7, _, ho =>
                obtain rfl := (Option.some.inj ho).symm
                have d53 : a.eval (.tmp 53) = .pointer (some ⟨gl, q, none⟩) := hdep _ (Array.mem_of_getElem? (i := 0) rfl) rfl (by decide) _ _ rfl rfl
                exact ⟨rfl, QT.wp_value (v := .slice sa el.length sc) (by simp [go_sem, QT.nf d53, cl1]) ⟨_, rfl, rfl, Below.refl _ _⟩⟩
              | 8, _, ho =>
                obtain rfl := (Option.some.inj ho).symm
                exact ⟨rfl, wp_runTo (.pointer (some ⟨wz.heap.size, 0, none⟩)) (wz.alloc (.cells #[.pointer none] 24)) (by kernel_rfl) ⟨_, rfl, ⟨_, rfl, hI.size, heap_alloc_new _ _⟩, (Below.refl _ _).alloc (Nat.le_refl _) _⟩⟩
              | 9, hn, _ => exact absurd rfl hn
              | 10, _, ho =>
                obtain rfl := (Option.some.inj ho).symm
                have d54 : a.eval (.tmp 54) = .slice sa el.length sc := hdep _ (Array.mem_of_getElem? (i := 0) rfl) rfl (by decide) _ _ rfl rfl
                exact ⟨rfl, QT.wp_value (BigFrame.run_assign (.tmp 54) rfl wz) ⟨_, rfl, d54, Below.refl _ _⟩⟩
              | zi + 11, _, ho => simp at ho
            · have t3 : a.eval (.tmp 3) = .slice (some ⟨ga, 0, none⟩) n ca := hag.old 3 _ (by kernel_rfl) rfl
              have t4 : a.eval (.tmp 4) = .slice (some ⟨gl, 0, none⟩) n cl := hag.old 4 _ (by kernel_rfl) rfl
              have t7 : a.eval (.tmp 7) = .int .i64 (q : Int) := hag.old 7 _ (by kernel_rfl) rfl
              have r1 : wz.rangeAt ga q [.pointer ep] := range_kept hI HRA.out
              have cl1 : wz.cell? ⟨gl, q, none⟩ = some (.slice sa el.length sc) := by rw [hI.cell (World.block_lt_of_cell? _ _ HRL.out)]; exact HRL.out
              obtain rfl := (Option.some.inj ho).symm
              have d8 : ((.fresh W.heap.size #[.pointer none] 24) : FactO).holds (a.eval (.tmp 8)) wz := hdep _ (Array.mem_of_getElem? (i := 0) rfl) rfl _ _ rfl rfl
              have d50 : a.eval (.tmp 50) = .agg #[.pointer ep] := hdep _ (Array.mem_of_getElem? (i := 1) rfl) rfl _ _ rfl rfl
              obtain ⟨zg, hzg, hgl, hgc⟩ := d8
              refine ⟨rfl, wp_store_row 24 (.tmp 8) (.tmp 50) rfl zg #[.pointer ep] hzg d50 24 _ hgc shelf_info rfl (by simp [Value.oneCell']) ⟨rfl, ⟨zg, hzg, hgl, setRow_heap _ _ _ _ _ _ hgc⟩, below_setRow hI hgl _, fun zj v hzj h => ?_⟩⟩
              match zj, hzj, h with
              | 0, _, h => exact h
              | 1, _, h => exact h
              | 2, _, h => exact h
              | 3, _, h => exact h
              | 4, _, h => exact h
              | 5, _, h => exact h
              | 6, _, h => exact h
              | 7, _, h => exact h
              | 8, hzj, _ => exact absurd rfl hzj
              | 9, _, h => exact h
              | 10, _, h => exact h
              | zj + 11, _, h => exact h
            · have f0 : a.eval (.tmp 47) = .slice (some ⟨ga, 0, none⟩) n ca := hf 0 _ _ (by decide) rfl rfl
              have f1 : a.eval (.tmp 48) = .int .i64 (q : Int) := hf 1 _ _ (by decide) rfl rfl
              have f2 : a.eval (.tmp 49) = .pointer (some ⟨ga, q, none⟩) := hf 2 _ _ (by decide) rfl rfl
              have f3 : a.eval (.tmp 50) = .agg #[.pointer ep] := hf 3 _ _ (by decide) rfl rfl
              have f4 : a.eval (.tmp 51) = .slice (some ⟨gl, 0, none⟩) n cl := hf 4 _ _ (by decide) rfl rfl
              have f5 : a.eval (.tmp 52) = .int .i64 (q : Int) := hf 5 _ _ (by decide) rfl rfl
              have f6 : a.eval (.tmp 53) = .pointer (some ⟨gl, q, none⟩) := hf 6 _ _ (by decide) rfl rfl
              have f7 : a.eval (.tmp 54) = .slice sa el.length sc := hf 7 _ _ (by decide) rfl rfl
              obtain ⟨q8, f8, y8⟩ := hg
              have f10 : a.eval (.tmp 9) = .slice sa el.length sc := hf 10 _ _ (by decide) rfl rfl
              have ha := hag.putsN [(47, .slice (some ⟨ga, 0, none⟩) n ca), (48, .int .i64 (q : Int)), (49, .pointer (some ⟨ga, q, none⟩)), (50, .agg #[.pointer ep]), (51, .slice (some ⟨gl, 0, none⟩) n cl), (52, .int .i64 (q : Int)), (53, .pointer (some ⟨gl, q, none⟩)), (54, .slice sa el.length sc), (8, .pointer (some ⟨q8, 0, none⟩)), (9, .slice sa el.length sc)] rfl (by simp) (by simp only [List.forall_mem_cons, List.not_mem_nil, false_implies, implies_true, and_true]; exact ⟨f0, f1, f2, f3, f4, f5, f6, f7, f8, f10⟩)
              subst ha
              clear hag hf f0 f1 f2 f3 f4 f5 f6 f7 f8 f10
              simp only [List.foldl_cons, List.foldl_nil, Act.put, List.setIfInBounds_toArray, List.set_cons_succ, List.set_cons_zero]
              rename World => w7
              have H87 := Lib.hid y8.2
              have G8 := Lib.hid y8.1
              have H67 := Lib.hid ((hI.block g6 L6.out).trans H6.out)
              have HB7 := Lib.hid hI
              have HS7 := Lib.hid ((HEA.out.kept hI).shelf)
              have HM7 := Lib.hid (show KT.At w7 (.slice sa el.length sc) el from (HEA.out.kept hI).list)
              have HF7 := Lib.hid (fun h => HEA.out.far h)
              have L67 := Lib.hid (Array.getElem?_eq_some_iff.1 H67.out).1
              have L87 := Lib.hid (Array.getElem?_eq_some_iff.1 H87.out).1
              have GA7 := Lib.hid (show ga < w7.heap.size ∧ gl < w7.heap.size from ⟨Nat.lt_of_lt_of_le (own_lt HW.out.ownA ga rfl) hI.size, Nat.lt_of_lt_of_le (own_lt HW.out.ownL gl rfl) hI.size⟩)
              have HFW := Lib.hid (show el.length ≤ i from HEA.out.few)
              clear hI y8 HRA HRL
              have k7 : w7.cell? ⟨g6, 0, none⟩ = some (.int .i64 4) := by rw [Lib.cell_of_heap H67.out, ← e4]; rfl
              go_upto_region 17 with (fail)
              refine QT.wp_region_facts_tail 12 (by kernel_rfl) (fun w' => Below w7.heap.size w7 w') (fun n v w' => (([.val (.agg #[.pointer ep]), .val (.pointer (some ⟨g6, 2, none⟩)), .val (.string x.key), .val (.pointer (some ⟨g6, 3, none⟩)), .val (.int .u64 x.v), .shp (putL el x.key x.v), .val (.slice sa el.length sc), .val (.pointer (some ⟨g6, 2, none⟩)), .val (.string x.key), .val (.pointer (some ⟨g6, 3, none⟩)), .val (.int .u64 x.v), .list [q8, ga, gl] (putL el x.key x.v)] : List FactO).getD n (.val undef) : FactO).holds v w') (by kernel_rfl) (by kernel_rfl) (Below.refl _ _).drew (fun w1 w2 h1 hb => h1.trans (hb.mono h1.size)) (fun n v w1 w2 h hb => FactO.kept _ v w1 w2 h hb) (fun n o hn ho a wz hI hag hdep => ?_) (fun a wz hI hag hf => ?_)
              · have t6 : a.eval (.tmp 6) = .pointer (some ⟨g6, 0, none⟩) := hag.old 6 _ (by kernel_rfl) rfl
                have t8 : a.eval (.tmp 8) = .pointer (some ⟨q8, 0, none⟩) := hag.old 8 _ (by kernel_rfl) rfl
                have t9 : a.eval (.tmp 9) = .slice sa el.length sc := hag.old 9 _ (by kernel_rfl) rfl
                have ck : wz.cell? ⟨g6, 2, none⟩ = some (.string x.key) := by rw [Lib.cell_of_heap ((hI.block g6 L67.out).trans H67.out)]; rfl
                have cv : wz.cell? ⟨g6, 3, none⟩ = some (.int .u64 x.v) := by rw [Lib.cell_of_heap ((hI.block g6 L67.out).trans H67.out)]; rfl
                match n, ho with
                | 0, ho =>
                  obtain rfl := (Option.some.inj ho).symm
                  exact ⟨rfl, wp_load_row 24 (.tmp 8) rfl q8 t8 24 #[.pointer ep] (0, 0) _ ((hI.block q8 L87.out).trans H87.out) Try.underlying24 rfl shelf_info ⟨_, rfl, rfl, Below.refl _ _⟩⟩
                | 1, ho =>
                  obtain rfl := (Option.some.inj ho).symm
                  exact ⟨rfl, QT.wp_value (v := .pointer (some ⟨g6, 2, none⟩)) (by simp [go_sem, QT.nf t6]) ⟨_, rfl, rfl, Below.refl _ _⟩⟩
                | 2, ho =>
                  obtain rfl := (Option.some.inj ho).symm
                  have d61 : a.eval (.tmp 61) = .pointer (some ⟨g6, 2, none⟩) := hdep _ (Array.mem_of_getElem? (i := 0) rfl) rfl _ _ rfl rfl
                  exact ⟨rfl, QT.wp_value (v := .string x.key) (by simp [go_sem, QT.nf d61, ck]) ⟨_, rfl, rfl, Below.refl _ _⟩⟩
                | 3, ho =>
                  obtain rfl := (Option.some.inj ho).symm
                  exact ⟨rfl, QT.wp_value (v := .pointer (some ⟨g6, 3, none⟩)) (by simp [go_sem, QT.nf t6]) ⟨_, rfl, rfl, Below.refl _ _⟩⟩
                | 4, ho =>
                  obtain rfl := (Option.some.inj ho).symm
                  have d63 : a.eval (.tmp 63) = .pointer (some ⟨g6, 3, none⟩) := hdep _ (Array.mem_of_getElem? (i := 0) rfl) rfl _ _ rfl rfl
                  exact ⟨rfl, QT.wp_value (v := .int .u64 x.v) (by simp [go_sem, QT.nf d63, cv]) ⟨_, rfl, rfl, Below.refl _ _⟩⟩
                | 5, ho =>
                  obtain rfl := (Option.some.inj ho).symm
                  have d60 : a.eval (.tmp 60) = .agg #[.pointer ep] := hdep _ (Array.mem_of_getElem? (i := 0) rfl) rfl _ _ rfl rfl
                  have d62 : a.eval (.tmp 62) = .string x.key := hdep _ (Array.mem_of_getElem? (i := 1) rfl) rfl _ _ rfl rfl
                  have d64 : a.eval (.tmp 64) = .int .u64 x.v := hdep _ (Array.mem_of_getElem? (i := 2) rfl) rfl _ _ rfl rfl
                  exact ⟨rfl, wp_to (f := 9) (args := #[.agg #[.pointer ep], .string x.key, .int .u64 x.v]) (R := fun v w' => (.shp (putL el x.key x.v) : FactO).holds v w' ∧ Below wz.heap.size wz w') (by simp [go_sem, QT.nf d60, QT.nf d62, QT.nf d64]) (code_PutO ep el x.key x.v wz (HS7.out.below hI hI.size) (by have h1 := HFW.out; have h2 := HN.out; omega)) fun v w' h => ⟨v, rfl, h.1, h.2⟩⟩
                | 6, ho =>
                  obtain rfl := (Option.some.inj ho).symm
                  exact ⟨rfl, QT.wp_value (BigFrame.run_move (.tmp 9) rfl wz) ⟨_, rfl, t9, Below.refl _ _⟩⟩
                | 7, ho =>
                  obtain rfl := (Option.some.inj ho).symm
                  exact ⟨rfl, QT.wp_value (v := .pointer (some ⟨g6, 2, none⟩)) (by simp [go_sem, QT.nf t6]) ⟨_, rfl, rfl, Below.refl _ _⟩⟩
                | 8, ho =>
                  obtain rfl := (Option.some.inj ho).symm
                  have d67 : a.eval (.tmp 67) = .pointer (some ⟨g6, 2, none⟩) := hdep _ (Array.mem_of_getElem? (i := 0) rfl) rfl _ _ rfl rfl
                  exact ⟨rfl, QT.wp_value (v := .string x.key) (by simp [go_sem, QT.nf d67, ck]) ⟨_, rfl, rfl, Below.refl _ _⟩⟩
                | 9, ho =>
                  obtain rfl := (Option.some.inj ho).symm
                  exact ⟨rfl, QT.wp_value (v := .pointer (some ⟨g6, 3, none⟩)) (by simp [go_sem, QT.nf t6]) ⟨_, rfl, rfl, Below.refl _ _⟩⟩
                | 10, ho =>
                  obtain rfl := (Option.some.inj ho).symm
                  have d69 : a.eval (.tmp 69) = .pointer (some ⟨g6, 3, none⟩) := hdep _ (Array.mem_of_getElem? (i := 0) rfl) rfl _ _ rfl rfl
                  exact ⟨rfl, QT.wp_value (v := .int .u64 x.v) (by simp [go_sem, QT.nf d69, cv]) ⟨_, rfl, rfl, Below.refl _ _⟩⟩
                | 11, ho =>
                  obtain rfl := (Option.some.inj ho).symm
                  have d66 : a.eval (.tmp 66) = .slice sa el.length sc := hdep _ (Array.mem_of_getElem? (i := 0) rfl) rfl _ _ rfl rfl
                  have d68 : a.eval (.tmp 68) = .string x.key := hdep _ (Array.mem_of_getElem? (i := 1) rfl) rfl _ _ rfl rfl
                  have d70 : a.eval (.tmp 70) = .int .u64 x.v := hdep _ (Array.mem_of_getElem? (i := 2) rfl) rfl _ _ rfl rfl
                  exact ⟨rfl, wp_to (f := 15) (args := #[.slice sa el.length sc, .string x.key, .int .u64 x.v]) (R := fun v w' => (.list [q8, ga, gl] (putL el x.key x.v) : FactO).holds v w' ∧ Below wz.heap.size wz w') (by simp [go_sem, QT.nf d66, QT.nf d68, QT.nf d70]) (ref_PutO [q8, ga, gl] _ el x.key x.v wz (HM7.out.kept hI) (by have h1 := HFW.out; have h2 := HN.out; omega) (fun g hg => by simp only [List.mem_cons, List.not_mem_nil, or_false] at hg; have h1 := GA7.out; have h2 := L87.out; have h3 := hI.size; rcases hg with rfl | rfl | rfl <;> omega)) fun v w' h => ⟨v, rfl, h.1, h.2⟩⟩
                | n + 12, ho => omega
              · have f0 : a.eval (.tmp 60) = .agg #[.pointer ep] := hf 0 _ _ (by omega) rfl rfl
                have f1 : a.eval (.tmp 61) = .pointer (some ⟨g6, 2, none⟩) := hf 1 _ _ (by omega) rfl rfl
                have f2 : a.eval (.tmp 62) = .string x.key := hf 2 _ _ (by omega) rfl rfl
                have f3 : a.eval (.tmp 63) = .pointer (some ⟨g6, 3, none⟩) := hf 3 _ _ (by omega) rfl rfl
                have f4 : a.eval (.tmp 64) = .int .u64 x.v := hf 4 _ _ (by omega) rfl rfl
                obtain ⟨u5, f5, y5⟩ := hf 5 _ _ (by omega) rfl rfl
                have f6 : a.eval (.tmp 66) = .slice sa el.length sc := hf 6 _ _ (by omega) rfl rfl
                have f7 : a.eval (.tmp 67) = .pointer (some ⟨g6, 2, none⟩) := hf 7 _ _ (by omega) rfl rfl
                have f8 : a.eval (.tmp 68) = .string x.key := hf 8 _ _ (by omega) rfl rfl
                have f9 : a.eval (.tmp 69) = .pointer (some ⟨g6, 3, none⟩) := hf 9 _ _ (by omega) rfl rfl
                have f10 : a.eval (.tmp 70) = .int .u64 x.v := hf 10 _ _ (by omega) rfl rfl
                obtain ⟨u11, f11⟩ : ∃ u, a.eval (.tmp 71) = u := ⟨_, rfl⟩
                have y11 := hf 11 _ _ (by omega) rfl rfl
                rw [f11] at y11
                have ha := hag.puts [(60, .agg #[.pointer ep]), (61, .pointer (some ⟨g6, 2, none⟩)), (62, .string x.key), (63, .pointer (some ⟨g6, 3, none⟩)), (64, .int .u64 x.v), (65, .agg #[.pointer u5]), (66, .slice sa el.length sc), (67, .pointer (some ⟨g6, 2, none⟩)), (68, .string x.key), (69, .pointer (some ⟨g6, 3, none⟩)), (70, .int .u64 x.v), (71, u11)] rfl (by simp) (by simp only [List.forall_mem_cons, List.not_mem_nil, false_implies, implies_true, and_true]; exact ⟨f0, f1, f2, f3, f4, f5, f6, f7, f8, f9, f10, f11⟩)
                subst ha
                clear hag hf f0 f1 f2 f3 f4 f5 f6 f7 f8 f9 f10 f11
                simp only [List.foldl_cons, List.foldl_nil, Act.put, List.drop_succ_cons, List.drop_zero, List.setIfInBounds_toArray, List.set_cons_succ, List.set_cons_zero]
                rename World => w8
                obtain ⟨ma, mc, rfl, _⟩ := y11.1.form
                have hs8 := (y5.store (C := #[.pointer u5]) ((hI.block q8 L87.out).trans H87.out))
                have hm8 := at_far (g := q8) (C := #[.pointer u5]) y11.1 (fun h j hj e => y11.2 h j hj (by rw [e]; exact List.mem_cons_self ..))
                have hf8 : putL el x.key x.v ≠ [] → ∀ k, (Value.slice ma (putL el x.key x.v).length mc).ownBlock = some k → (Value.slice (some ⟨ga, 0, none⟩) n ca).ownBlock ≠ some k ∧ (Value.slice (some ⟨gl, 0, none⟩) n cl).ownBlock ≠ some k := fun h k hk => by
                  have h1 := y11.2 h k hk
                  simp only [List.mem_cons, List.not_mem_nil, or_false, not_or] at h1
                  exact ⟨fun e => h1.2.1 (by simpa [Value.ownBlock] using e.symm), fun e => h1.2.2 (by simpa [Value.ownBlock] using e.symm)⟩
                have H88 := Lib.hid ((hI.block q8 L87.out).trans H87.out)
                have hbw := below_setRow (HB7.out.trans (hI.mono HB7.out.size)) G8.out #[.pointer u5]
                have HI9 := Lib.hid (HW.out.kept hbw)
                have HS9 := Lib.hid (show ShelfAt (w8.setRow q8 #[.pointer u5]).heap.size (w8.setRow q8 #[.pointer u5]) #[.pointer u5] (putL el x.key x.v) by rw [setRow_size]; exact hs8)
                have HM9 := Lib.hid hm8
                have HF9 := Lib.hid hf8
                have H89 := Lib.hid (setRow_heap _ _ _ #[.pointer u5] _ _ H88.out)
                clear hI y5 y11 hs8 hm8 hf8 hbw HB7 HS7 HM7 HF7
                go_upto_region 20 with (refine wpList_store_row rfl 24 (.tmp 8) (.tmp 65) rfl q8 #[.pointer u5] rfl rfl 24 #[.pointer ep] H88.out shelf_info rfl (by simp [Value.oneCell']) ?_)
                generalize w8.setRow q8 #[.pointer u5] = w9 at HI9 HS9 HM9 HF9 H89 ⊢
                have hIN := (HI9.out.mono (Nat.le_succ i)).add (e := ⟨u5, (ma, (putL el x.key x.v).length, mc), putL el x.key x.v⟩) ⟨HS9.out, show (putL el x.key x.v).length ≤ i + 1 from (by have h1 := put_le el x.key x.v; have h2 := HFW.out; omega), HM9.out, HF9.out⟩
                have hba : Below w9.heap.size w9 (w9.alloc (.cells #[.pointer (u5)] 24)) := (Below.refl _ _).alloc (Nat.le_refl _) _
                have HA9 := Lib.hid (hIN.kept hba)
                have HAT := Lib.hid (show KH.At (w9.alloc (.cells #[.pointer (u5)] 24)) (.slice (some ⟨w9.heap.size, 0, none⟩) 1 1) [u5] from Kind.Own.reads (K := KH) (B := 0) (L := [u5]) (World.ownsRow_lit w9 #[.pointer (u5)] 1 (Nat.zero_le _) (by decide) rfl))
                have hlenA : (E.map (·.p)).length + 1 = n + 1 := by rw [List.length_map]; have := HE.out; omega
                have hlenL : (E.map (·.s)).length + 1 = n + 1 := by rw [List.length_map]; have := HE.out; omega
                have hroomA : ((E.map (·.p)).length + 1) * (KH.bytes + 1) ≤ 1099511627776 := by rw [hlenA]; have := HN.out; simp only [KH]; omega
                have hroomL : ((E.map (·.s)).length + 1) * (KL.bytes + 1) ≤ 1099511627776 := by rw [hlenL]; have := HN.out; simp only [KL]; omega
                have hsA : w.heap.size ≤ (w9.alloc (.cells #[.pointer (u5)] 24)).heap.size := HA9.out.below.size
                clear hIN hba HI9 HS9 HM9 HF9
                go_upto_region 21 with (first
                  | (refine wpList_load_row rfl 24 (.tmp 8) rfl q8 rfl 24 #[.pointer (u5)] (0, 0) _ H89.out Try.underlying24 rfl shelf_info ?_)
                  | (refine wpList_append_grow (K := KH) rfl (.tmp 82) (.tmp 84) 46 rfl Try.underlying46 w.heap.size rfl HA9.out.ownA _ [u5] rfl HAT.out (Nat.zero_lt_one) (n + 1) hlenA hroomA hsA ?_; intro g1 cap1 w10 hown1 hgr1 hgg1 hlt1; have hZ10 := Lib.hid (HA9.out.growA hown1 hgr1 hgg1); have hbz : Below w10.heap.size w10 (w10.alloc (.cells #[.slice ma ((putL el x.key x.v).length) mc] 37)) := (Below.refl _ _).alloc (Nat.le_refl _) _; have hZL := (hZ10.out.kept hbz).ownL; have hZA : KL.At (w10.alloc (.cells #[.slice ma ((putL el x.key x.v).length) mc] 37)) (.slice (some ⟨w10.heap.size, 0, none⟩) 1 1) [(ma, (putL el x.key x.v).length, mc)] := Kind.Own.reads (K := KL) (B := 0) (L := [(ma, (putL el x.key x.v).length, mc)]) (World.ownsRow_lit w10 #[.slice ma ((putL el x.key x.v).length) mc] 1 (Nat.zero_le _) (by decide) rfl); have hZs := (hZ10.out.kept hbz).below.size)
                  | (refine wpList_append_grow (K := KL) rfl (.tmp 86) (.tmp 88) 47 rfl Try.underlying47 w.heap.size rfl (by assumption) _ [(ma, (putL el x.key x.v).length, mc)] rfl (by assumption) (Nat.zero_lt_one) (n + 1) hlenL hroomL (by assumption) ?_; intro g2 cap2 w11 hown2 hgr2 hgg2 hlt2))
                have hfin := (hZ10.out.kept hbz).growL hown2 hgr2 hgg2
                have HFIN := Lib.hid hfin
                clear hfin hZL hZA hZs hbz hown2 hgr2 hgg2 hlt2 hown1 hgr1 hgg1 hlt1 hlenA hlenL hroomA hroomL hsA hZ10
                go_wp2_with fail
                go_roundw
                case rel => exact ⟨i + 1, E ++ [⟨u5, (ma, (putL el x.key x.v).length, mc), putL el x.key x.v⟩], g1, cap1, g2, cap2, by omega, by rw [List.length_append, HE.out, List.length_singleton]; have := HN.out; omega, by rw [HN.out.1], by rw [HN.out.1], by go_num, by rw [List.map_append, List.map_append]; exact HFIN.out⟩
                case measure => simp [intOf]; omega
          · have b4 : (x.kind == 4) = false := by rw [beq_eq_false_iff_ne]; exact e4
            go_upto_region 13 with (fail)
            have hqe : i < E.length := by have := HE.out; omega
            have he := List.getElem?_eq_getElem hqe
            obtain ⟨e, hee⟩ : ∃ e, E[i] = e := ⟨_, rfl⟩
            rw [hee] at he
            have HEA := Lib.hid (HW.out.each e (by rw [← hee]; exact List.getElem_mem hqe))
            have HRA := Lib.hid (HW.out.readA (i := i) (p := e.p) (by rw [List.getElem?_map, he]; rfl))
            have HRL := Lib.hid (HW.out.readL (i := i) (s := e.s) (by rw [List.getElem?_map, he]; rfl))
            obtain ⟨ep, ⟨sa, sn, sc⟩, el⟩ := e
            obtain rfl : sn = el.length := by
              obtain ⟨_, _, hv, _⟩ := HEA.out.list.form
              rw [sl_own] at hv
              injection hv
            rw [sl_own] at HRL
            clear he hee hqe
            have hqi : (i : Int) < (n : Int) := by have := HN.out; omega
            clear hni k1
            refine QT.wp_region_facts_mid 9 8 8 (by kernel_rfl) (fun w' => Below W.heap.size W w') (fun zi v w' => (([.val (.slice (some ⟨ga, 0, none⟩) n ca), .val (.int .i64 (i : Int)), .val (.pointer (some ⟨ga, i, none⟩)), .val (.agg #[.pointer ep]), .val (.slice (some ⟨gl, 0, none⟩) n cl), .val (.int .i64 (i : Int)), .val (.pointer (some ⟨gl, i, none⟩)), .val (.slice sa el.length sc), .fresh W.heap.size #[.pointer none] 24, .val (.bool false), .val (.slice sa el.length sc)] : List FactO).getD zi (.val undef) : FactO).holds v w') (fun v w' => ∃ g, v = .pointer (some ⟨g, 0, none⟩) ∧ W.heap.size ≤ g ∧ w'.heap[g]? = some (.cells #[.pointer ep] 24 (0, 0))) (by kernel_rfl) (by kernel_rfl) (Below.refl _ _).drew (fun w1 w2 h1 hb => h1.trans (hb.mono h1.size)) (fun _ v w1 w2 h hb => FactO.kept _ v w1 w2 h hb) ?_ (fun zi o hzi ho a wz hI hag hdep => ?_) (fun o ho a wz hI hag hdep => ?_) (fun a wz hI hag hf hg => ?_)
            · exact fun v w1 w2 ⟨g, hv, hl, hc⟩ hb => ⟨g, hv, hl, (hb.block g ((Array.getElem?_eq_some_iff.1 hc).1)).trans hc⟩
            · have t3 : a.eval (.tmp 3) = .slice (some ⟨ga, 0, none⟩) n ca := hag.old 3 _ (by kernel_rfl) rfl
              have t4 : a.eval (.tmp 4) = .slice (some ⟨gl, 0, none⟩) n cl := hag.old 4 _ (by kernel_rfl) rfl
              have t7 : a.eval (.tmp 7) = .int .i64 (i : Int) := hag.old 7 _ (by kernel_rfl) rfl
              have r1 : wz.rangeAt ga i [.pointer ep] := range_kept hI HRA.out
              have cl1 : wz.cell? ⟨gl, i, none⟩ = some (.slice sa el.length sc) := by rw [hI.cell (World.block_lt_of_cell? _ _ HRL.out)]; exact HRL.out
              match zi, hzi, ho with
              | 0, _, ho =>
                obtain rfl := (Option.some.inj ho).symm
                exact ⟨rfl, QT.wp_value (BigFrame.run_move (.tmp 3) rfl wz) ⟨_, rfl, t3, Below.refl _ _⟩⟩
              | 1, _, ho =>
                obtain rfl := (Option.some.inj ho).symm
                exact ⟨rfl, QT.wp_value (BigFrame.run_move (.tmp 7) rfl wz) ⟨_, rfl, t7, Below.refl _ _⟩⟩
              | 2, _, ho =>
                obtain rfl := (Option.some.inj ho).symm
                have d47 : a.eval (.tmp 47) = .slice (some ⟨ga, 0, none⟩) n ca := hdep _ (Array.mem_of_getElem? (i := 0) rfl) rfl (by decide) _ _ rfl rfl
                have d48 : a.eval (.tmp 48) = .int .i64 (i : Int) := hdep _ (Array.mem_of_getElem? (i := 1) rfl) rfl (by decide) _ _ rfl rfl
                exact ⟨rfl, QT.wp_value (v := .pointer (some ⟨ga, i, none⟩)) (by simp [go_sem, QT.nf d47, QT.nf d48, hqi]) ⟨_, rfl, rfl, Below.refl _ _⟩⟩
              | 3, _, ho =>
                obtain rfl := (Option.some.inj ho).symm
                have d49 : a.eval (.tmp 49) = .pointer (some ⟨ga, i, none⟩) := hdep _ (Array.mem_of_getElem? (i := 0) rfl) rfl (by decide) _ _ rfl rfl
                exact ⟨rfl, wp_load_mid 24 (.tmp 49) rfl ga i d49 [.pointer ep] _ r1 Try.underlying24 rfl shelf_info ⟨_, rfl, rfl, Below.refl _ _⟩⟩
              | 4, _, ho =>
                obtain rfl := (Option.some.inj ho).symm
                exact ⟨rfl, QT.wp_value (BigFrame.run_move (.tmp 4) rfl wz) ⟨_, rfl, t4, Below.refl _ _⟩⟩
              | 5, _, ho =>
                obtain rfl := (Option.some.inj ho).symm
                exact ⟨rfl, QT.wp_value (BigFrame.run_move (.tmp 7) rfl wz) ⟨_, rfl, t7, Below.refl _ _⟩⟩
              | 6, _, ho =>
                obtain rfl := (Option.some.inj ho).symm
                have d51 : a.eval (.tmp 51) = .slice (some ⟨gl, 0, none⟩) n cl := hdep _ (Array.mem_of_getElem? (i := 0) rfl) rfl (by decide) _ _ rfl rfl
                have d52 : a.eval (.tmp 52) = .int .i64 (i : Int) := hdep _ (Array.mem_of_getElem? (i := 1) rfl) rfl (by decide) _ _ rfl rfl
                exact ⟨rfl, QT.wp_value (v := .pointer (some ⟨gl, i, none⟩)) (by simp [go_sem, QT.nf d51, QT.nf d52, hqi]) ⟨_, rfl, rfl, Below.refl _ _⟩⟩
              | 7, _, ho =>
                obtain rfl := (Option.some.inj ho).symm
                have d53 : a.eval (.tmp 53) = .pointer (some ⟨gl, i, none⟩) := hdep _ (Array.mem_of_getElem? (i := 0) rfl) rfl (by decide) _ _ rfl rfl
                exact ⟨rfl, QT.wp_value (v := .slice sa el.length sc) (by simp [go_sem, QT.nf d53, cl1]) ⟨_, rfl, rfl, Below.refl _ _⟩⟩
              | 8, _, ho =>
                obtain rfl := (Option.some.inj ho).symm
                exact ⟨rfl, wp_runTo (.pointer (some ⟨wz.heap.size, 0, none⟩)) (wz.alloc (.cells #[.pointer none] 24)) (by kernel_rfl) ⟨_, rfl, ⟨_, rfl, hI.size, heap_alloc_new _ _⟩, (Below.refl _ _).alloc (Nat.le_refl _) _⟩⟩
              | 9, hn, _ => exact absurd rfl hn
              | 10, _, ho =>
                obtain rfl := (Option.some.inj ho).symm
                have d54 : a.eval (.tmp 54) = .slice sa el.length sc := hdep _ (Array.mem_of_getElem? (i := 0) rfl) rfl (by decide) _ _ rfl rfl
                exact ⟨rfl, QT.wp_value (BigFrame.run_assign (.tmp 54) rfl wz) ⟨_, rfl, d54, Below.refl _ _⟩⟩
              | zi + 11, _, ho => simp at ho
            · have t3 : a.eval (.tmp 3) = .slice (some ⟨ga, 0, none⟩) n ca := hag.old 3 _ (by kernel_rfl) rfl
              have t4 : a.eval (.tmp 4) = .slice (some ⟨gl, 0, none⟩) n cl := hag.old 4 _ (by kernel_rfl) rfl
              have t7 : a.eval (.tmp 7) = .int .i64 (i : Int) := hag.old 7 _ (by kernel_rfl) rfl
              have r1 : wz.rangeAt ga i [.pointer ep] := range_kept hI HRA.out
              have cl1 : wz.cell? ⟨gl, i, none⟩ = some (.slice sa el.length sc) := by rw [hI.cell (World.block_lt_of_cell? _ _ HRL.out)]; exact HRL.out
              obtain rfl := (Option.some.inj ho).symm
              have d8 : ((.fresh W.heap.size #[.pointer none] 24) : FactO).holds (a.eval (.tmp 8)) wz := hdep _ (Array.mem_of_getElem? (i := 0) rfl) rfl _ _ rfl rfl
              have d50 : a.eval (.tmp 50) = .agg #[.pointer ep] := hdep _ (Array.mem_of_getElem? (i := 1) rfl) rfl _ _ rfl rfl
              obtain ⟨zg, hzg, hgl, hgc⟩ := d8
              refine ⟨rfl, wp_store_row 24 (.tmp 8) (.tmp 50) rfl zg #[.pointer ep] hzg d50 24 _ hgc shelf_info rfl (by simp [Value.oneCell']) ⟨rfl, ⟨zg, hzg, hgl, setRow_heap _ _ _ _ _ _ hgc⟩, below_setRow hI hgl _, fun zj v hzj h => ?_⟩⟩
              match zj, hzj, h with
              | 0, _, h => exact h
              | 1, _, h => exact h
              | 2, _, h => exact h
              | 3, _, h => exact h
              | 4, _, h => exact h
              | 5, _, h => exact h
              | 6, _, h => exact h
              | 7, _, h => exact h
              | 8, hzj, _ => exact absurd rfl hzj
              | 9, _, h => exact h
              | 10, _, h => exact h
              | zj + 11, _, h => exact h
            · have f0 : a.eval (.tmp 47) = .slice (some ⟨ga, 0, none⟩) n ca := hf 0 _ _ (by decide) rfl rfl
              have f1 : a.eval (.tmp 48) = .int .i64 (i : Int) := hf 1 _ _ (by decide) rfl rfl
              have f2 : a.eval (.tmp 49) = .pointer (some ⟨ga, i, none⟩) := hf 2 _ _ (by decide) rfl rfl
              have f3 : a.eval (.tmp 50) = .agg #[.pointer ep] := hf 3 _ _ (by decide) rfl rfl
              have f4 : a.eval (.tmp 51) = .slice (some ⟨gl, 0, none⟩) n cl := hf 4 _ _ (by decide) rfl rfl
              have f5 : a.eval (.tmp 52) = .int .i64 (i : Int) := hf 5 _ _ (by decide) rfl rfl
              have f6 : a.eval (.tmp 53) = .pointer (some ⟨gl, i, none⟩) := hf 6 _ _ (by decide) rfl rfl
              have f7 : a.eval (.tmp 54) = .slice sa el.length sc := hf 7 _ _ (by decide) rfl rfl
              obtain ⟨q8, f8, y8⟩ := hg
              have f10 : a.eval (.tmp 9) = .slice sa el.length sc := hf 10 _ _ (by decide) rfl rfl
              have ha := hag.putsN [(47, .slice (some ⟨ga, 0, none⟩) n ca), (48, .int .i64 (i : Int)), (49, .pointer (some ⟨ga, i, none⟩)), (50, .agg #[.pointer ep]), (51, .slice (some ⟨gl, 0, none⟩) n cl), (52, .int .i64 (i : Int)), (53, .pointer (some ⟨gl, i, none⟩)), (54, .slice sa el.length sc), (8, .pointer (some ⟨q8, 0, none⟩)), (9, .slice sa el.length sc)] rfl (by simp) (by simp only [List.forall_mem_cons, List.not_mem_nil, false_implies, implies_true, and_true]; exact ⟨f0, f1, f2, f3, f4, f5, f6, f7, f8, f10⟩)
              subst ha
              clear hag hf f0 f1 f2 f3 f4 f5 f6 f7 f8 f10
              simp only [List.foldl_cons, List.foldl_nil, Act.put, List.setIfInBounds_toArray, List.set_cons_succ, List.set_cons_zero]
              rename World => w7
              have H87 := Lib.hid y8.2
              have G8 := Lib.hid y8.1
              have H67 := Lib.hid ((hI.block g6 L6.out).trans H6.out)
              have HB7 := Lib.hid hI
              have HS7 := Lib.hid ((HEA.out.kept hI).shelf)
              have HM7 := Lib.hid (show KT.At w7 (.slice sa el.length sc) el from (HEA.out.kept hI).list)
              have HF7 := Lib.hid (fun h => HEA.out.far h)
              have L67 := Lib.hid (Array.getElem?_eq_some_iff.1 H67.out).1
              have L87 := Lib.hid (Array.getElem?_eq_some_iff.1 H87.out).1
              have GA7 := Lib.hid (show ga < w7.heap.size ∧ gl < w7.heap.size from ⟨Nat.lt_of_lt_of_le (own_lt HW.out.ownA ga rfl) hI.size, Nat.lt_of_lt_of_le (own_lt HW.out.ownL gl rfl) hI.size⟩)
              have HFW := Lib.hid (show el.length ≤ i from HEA.out.few)
              clear hI y8 HRA HRL
              by_cases e0 : x.kind = 0
              · have k7 : w7.cell? ⟨g6, 0, none⟩ = some (.int .i64 0) := by rw [Lib.cell_of_heap H67.out, ← e0]; rfl
                go_upto_region 17 with (fail)
                refine QT.wp_region_facts_tail 12 (by kernel_rfl) (fun w' => Below w7.heap.size w7 w') (fun n v w' => (([.val (.agg #[.pointer ep]), .val (.pointer (some ⟨g6, 2, none⟩)), .val (.string x.key), .val (.pointer (some ⟨g6, 3, none⟩)), .val (.int .u64 x.v), .shp (putL el x.key x.v), .val (.slice sa el.length sc), .val (.pointer (some ⟨g6, 2, none⟩)), .val (.string x.key), .val (.pointer (some ⟨g6, 3, none⟩)), .val (.int .u64 x.v), .list [q8, ga, gl] (putL el x.key x.v)] : List FactO).getD n (.val undef) : FactO).holds v w') (by kernel_rfl) (by kernel_rfl) (Below.refl _ _).drew (fun w1 w2 h1 hb => h1.trans (hb.mono h1.size)) (fun n v w1 w2 h hb => FactO.kept _ v w1 w2 h hb) (fun n o hn ho a wz hI hag hdep => ?_) (fun a wz hI hag hf => ?_)
                · have t6 : a.eval (.tmp 6) = .pointer (some ⟨g6, 0, none⟩) := hag.old 6 _ (by kernel_rfl) rfl
                  have t8 : a.eval (.tmp 8) = .pointer (some ⟨q8, 0, none⟩) := hag.old 8 _ (by kernel_rfl) rfl
                  have t9 : a.eval (.tmp 9) = .slice sa el.length sc := hag.old 9 _ (by kernel_rfl) rfl
                  have ck : wz.cell? ⟨g6, 2, none⟩ = some (.string x.key) := by rw [Lib.cell_of_heap ((hI.block g6 L67.out).trans H67.out)]; rfl
                  have cv : wz.cell? ⟨g6, 3, none⟩ = some (.int .u64 x.v) := by rw [Lib.cell_of_heap ((hI.block g6 L67.out).trans H67.out)]; rfl
                  match n, ho with
                  | 0, ho =>
                    obtain rfl := (Option.some.inj ho).symm
                    exact ⟨rfl, wp_load_row 24 (.tmp 8) rfl q8 t8 24 #[.pointer ep] (0, 0) _ ((hI.block q8 L87.out).trans H87.out) Try.underlying24 rfl shelf_info ⟨_, rfl, rfl, Below.refl _ _⟩⟩
                  | 1, ho =>
                    obtain rfl := (Option.some.inj ho).symm
                    exact ⟨rfl, QT.wp_value (v := .pointer (some ⟨g6, 2, none⟩)) (by simp [go_sem, QT.nf t6]) ⟨_, rfl, rfl, Below.refl _ _⟩⟩
                  | 2, ho =>
                    obtain rfl := (Option.some.inj ho).symm
                    have d61 : a.eval (.tmp 61) = .pointer (some ⟨g6, 2, none⟩) := hdep _ (Array.mem_of_getElem? (i := 0) rfl) rfl _ _ rfl rfl
                    exact ⟨rfl, QT.wp_value (v := .string x.key) (by simp [go_sem, QT.nf d61, ck]) ⟨_, rfl, rfl, Below.refl _ _⟩⟩
                  | 3, ho =>
                    obtain rfl := (Option.some.inj ho).symm
                    exact ⟨rfl, QT.wp_value (v := .pointer (some ⟨g6, 3, none⟩)) (by simp [go_sem, QT.nf t6]) ⟨_, rfl, rfl, Below.refl _ _⟩⟩
                  | 4, ho =>
                    obtain rfl := (Option.some.inj ho).symm
                    have d63 : a.eval (.tmp 63) = .pointer (some ⟨g6, 3, none⟩) := hdep _ (Array.mem_of_getElem? (i := 0) rfl) rfl _ _ rfl rfl
                    exact ⟨rfl, QT.wp_value (v := .int .u64 x.v) (by simp [go_sem, QT.nf d63, cv]) ⟨_, rfl, rfl, Below.refl _ _⟩⟩
                  | 5, ho =>
                    obtain rfl := (Option.some.inj ho).symm
                    have d60 : a.eval (.tmp 60) = .agg #[.pointer ep] := hdep _ (Array.mem_of_getElem? (i := 0) rfl) rfl _ _ rfl rfl
                    have d62 : a.eval (.tmp 62) = .string x.key := hdep _ (Array.mem_of_getElem? (i := 1) rfl) rfl _ _ rfl rfl
                    have d64 : a.eval (.tmp 64) = .int .u64 x.v := hdep _ (Array.mem_of_getElem? (i := 2) rfl) rfl _ _ rfl rfl
                    exact ⟨rfl, wp_to (f := 9) (args := #[.agg #[.pointer ep], .string x.key, .int .u64 x.v]) (R := fun v w' => (.shp (putL el x.key x.v) : FactO).holds v w' ∧ Below wz.heap.size wz w') (by simp [go_sem, QT.nf d60, QT.nf d62, QT.nf d64]) (code_PutO ep el x.key x.v wz (HS7.out.below hI hI.size) (by have h1 := HFW.out; have h2 := HN.out; omega)) fun v w' h => ⟨v, rfl, h.1, h.2⟩⟩
                  | 6, ho =>
                    obtain rfl := (Option.some.inj ho).symm
                    exact ⟨rfl, QT.wp_value (BigFrame.run_move (.tmp 9) rfl wz) ⟨_, rfl, t9, Below.refl _ _⟩⟩
                  | 7, ho =>
                    obtain rfl := (Option.some.inj ho).symm
                    exact ⟨rfl, QT.wp_value (v := .pointer (some ⟨g6, 2, none⟩)) (by simp [go_sem, QT.nf t6]) ⟨_, rfl, rfl, Below.refl _ _⟩⟩
                  | 8, ho =>
                    obtain rfl := (Option.some.inj ho).symm
                    have d67 : a.eval (.tmp 67) = .pointer (some ⟨g6, 2, none⟩) := hdep _ (Array.mem_of_getElem? (i := 0) rfl) rfl _ _ rfl rfl
                    exact ⟨rfl, QT.wp_value (v := .string x.key) (by simp [go_sem, QT.nf d67, ck]) ⟨_, rfl, rfl, Below.refl _ _⟩⟩
                  | 9, ho =>
                    obtain rfl := (Option.some.inj ho).symm
                    exact ⟨rfl, QT.wp_value (v := .pointer (some ⟨g6, 3, none⟩)) (by simp [go_sem, QT.nf t6]) ⟨_, rfl, rfl, Below.refl _ _⟩⟩
                  | 10, ho =>
                    obtain rfl := (Option.some.inj ho).symm
                    have d69 : a.eval (.tmp 69) = .pointer (some ⟨g6, 3, none⟩) := hdep _ (Array.mem_of_getElem? (i := 0) rfl) rfl _ _ rfl rfl
                    exact ⟨rfl, QT.wp_value (v := .int .u64 x.v) (by simp [go_sem, QT.nf d69, cv]) ⟨_, rfl, rfl, Below.refl _ _⟩⟩
                  | 11, ho =>
                    obtain rfl := (Option.some.inj ho).symm
                    have d66 : a.eval (.tmp 66) = .slice sa el.length sc := hdep _ (Array.mem_of_getElem? (i := 0) rfl) rfl _ _ rfl rfl
                    have d68 : a.eval (.tmp 68) = .string x.key := hdep _ (Array.mem_of_getElem? (i := 1) rfl) rfl _ _ rfl rfl
                    have d70 : a.eval (.tmp 70) = .int .u64 x.v := hdep _ (Array.mem_of_getElem? (i := 2) rfl) rfl _ _ rfl rfl
                    exact ⟨rfl, wp_to (f := 15) (args := #[.slice sa el.length sc, .string x.key, .int .u64 x.v]) (R := fun v w' => (.list [q8, ga, gl] (putL el x.key x.v) : FactO).holds v w' ∧ Below wz.heap.size wz w') (by simp [go_sem, QT.nf d66, QT.nf d68, QT.nf d70]) (ref_PutO [q8, ga, gl] _ el x.key x.v wz (HM7.out.kept hI) (by have h1 := HFW.out; have h2 := HN.out; omega) (fun g hg => by simp only [List.mem_cons, List.not_mem_nil, or_false] at hg; have h1 := GA7.out; have h2 := L87.out; have h3 := hI.size; rcases hg with rfl | rfl | rfl <;> omega)) fun v w' h => ⟨v, rfl, h.1, h.2⟩⟩
                  | n + 12, ho => omega
                · have f0 : a.eval (.tmp 60) = .agg #[.pointer ep] := hf 0 _ _ (by omega) rfl rfl
                  have f1 : a.eval (.tmp 61) = .pointer (some ⟨g6, 2, none⟩) := hf 1 _ _ (by omega) rfl rfl
                  have f2 : a.eval (.tmp 62) = .string x.key := hf 2 _ _ (by omega) rfl rfl
                  have f3 : a.eval (.tmp 63) = .pointer (some ⟨g6, 3, none⟩) := hf 3 _ _ (by omega) rfl rfl
                  have f4 : a.eval (.tmp 64) = .int .u64 x.v := hf 4 _ _ (by omega) rfl rfl
                  obtain ⟨u5, f5, y5⟩ := hf 5 _ _ (by omega) rfl rfl
                  have f6 : a.eval (.tmp 66) = .slice sa el.length sc := hf 6 _ _ (by omega) rfl rfl
                  have f7 : a.eval (.tmp 67) = .pointer (some ⟨g6, 2, none⟩) := hf 7 _ _ (by omega) rfl rfl
                  have f8 : a.eval (.tmp 68) = .string x.key := hf 8 _ _ (by omega) rfl rfl
                  have f9 : a.eval (.tmp 69) = .pointer (some ⟨g6, 3, none⟩) := hf 9 _ _ (by omega) rfl rfl
                  have f10 : a.eval (.tmp 70) = .int .u64 x.v := hf 10 _ _ (by omega) rfl rfl
                  obtain ⟨u11, f11⟩ : ∃ u, a.eval (.tmp 71) = u := ⟨_, rfl⟩
                  have y11 := hf 11 _ _ (by omega) rfl rfl
                  rw [f11] at y11
                  have ha := hag.puts [(60, .agg #[.pointer ep]), (61, .pointer (some ⟨g6, 2, none⟩)), (62, .string x.key), (63, .pointer (some ⟨g6, 3, none⟩)), (64, .int .u64 x.v), (65, .agg #[.pointer u5]), (66, .slice sa el.length sc), (67, .pointer (some ⟨g6, 2, none⟩)), (68, .string x.key), (69, .pointer (some ⟨g6, 3, none⟩)), (70, .int .u64 x.v), (71, u11)] rfl (by simp) (by simp only [List.forall_mem_cons, List.not_mem_nil, false_implies, implies_true, and_true]; exact ⟨f0, f1, f2, f3, f4, f5, f6, f7, f8, f9, f10, f11⟩)
                  subst ha
                  clear hag hf f0 f1 f2 f3 f4 f5 f6 f7 f8 f9 f10 f11
                  simp only [List.foldl_cons, List.foldl_nil, Act.put, List.drop_succ_cons, List.drop_zero, List.setIfInBounds_toArray, List.set_cons_succ, List.set_cons_zero]
                  rename World => w8
                  obtain ⟨ma, mc, rfl, _⟩ := y11.1.form
                  have hs8 := (y5.store (C := #[.pointer u5]) ((hI.block q8 L87.out).trans H87.out))
                  have hm8 := at_far (g := q8) (C := #[.pointer u5]) y11.1 (fun h j hj e => y11.2 h j hj (by rw [e]; exact List.mem_cons_self ..))
                  have hf8 : putL el x.key x.v ≠ [] → ∀ k, (Value.slice ma (putL el x.key x.v).length mc).ownBlock = some k → (Value.slice (some ⟨ga, 0, none⟩) n ca).ownBlock ≠ some k ∧ (Value.slice (some ⟨gl, 0, none⟩) n cl).ownBlock ≠ some k := fun h k hk => by
                    have h1 := y11.2 h k hk
                    simp only [List.mem_cons, List.not_mem_nil, or_false, not_or] at h1
                    exact ⟨fun e => h1.2.1 (by simpa [Value.ownBlock] using e.symm), fun e => h1.2.2 (by simpa [Value.ownBlock] using e.symm)⟩
                  have H88 := Lib.hid ((hI.block q8 L87.out).trans H87.out)
                  have hbw := below_setRow (HB7.out.trans (hI.mono HB7.out.size)) G8.out #[.pointer u5]
                  have HI9 := Lib.hid (HW.out.kept hbw)
                  have HS9 := Lib.hid (show ShelfAt (w8.setRow q8 #[.pointer u5]).heap.size (w8.setRow q8 #[.pointer u5]) #[.pointer u5] (putL el x.key x.v) by rw [setRow_size]; exact hs8)
                  have HM9 := Lib.hid hm8
                  have HF9 := Lib.hid hf8
                  have H89 := Lib.hid (setRow_heap _ _ _ #[.pointer u5] _ _ H88.out)
                  clear hI y5 y11 hs8 hm8 hf8 hbw HB7 HS7 HM7 HF7
                  go_upto_region 20 with (refine wpList_store_row rfl 24 (.tmp 8) (.tmp 65) rfl q8 #[.pointer u5] rfl rfl 24 #[.pointer ep] H88.out shelf_info rfl (by simp [Value.oneCell']) ?_)
                  generalize w8.setRow q8 #[.pointer u5] = w9 at HI9 HS9 HM9 HF9 H89 ⊢
                  have hIN := (HI9.out.mono (Nat.le_succ i)).add (e := ⟨u5, (ma, (putL el x.key x.v).length, mc), putL el x.key x.v⟩) ⟨HS9.out, show (putL el x.key x.v).length ≤ i + 1 from (by have h1 := put_le el x.key x.v; have h2 := HFW.out; omega), HM9.out, HF9.out⟩
                  have hba : Below w9.heap.size w9 (w9.alloc (.cells #[.pointer (u5)] 24)) := (Below.refl _ _).alloc (Nat.le_refl _) _
                  have HA9 := Lib.hid (hIN.kept hba)
                  have HAT := Lib.hid (show KH.At (w9.alloc (.cells #[.pointer (u5)] 24)) (.slice (some ⟨w9.heap.size, 0, none⟩) 1 1) [u5] from Kind.Own.reads (K := KH) (B := 0) (L := [u5]) (World.ownsRow_lit w9 #[.pointer (u5)] 1 (Nat.zero_le _) (by decide) rfl))
                  have hlenA : (E.map (·.p)).length + 1 = n + 1 := by rw [List.length_map]; have := HE.out; omega
                  have hlenL : (E.map (·.s)).length + 1 = n + 1 := by rw [List.length_map]; have := HE.out; omega
                  have hroomA : ((E.map (·.p)).length + 1) * (KH.bytes + 1) ≤ 1099511627776 := by rw [hlenA]; have := HN.out; simp only [KH]; omega
                  have hroomL : ((E.map (·.s)).length + 1) * (KL.bytes + 1) ≤ 1099511627776 := by rw [hlenL]; have := HN.out; simp only [KL]; omega
                  have hsA : w.heap.size ≤ (w9.alloc (.cells #[.pointer (u5)] 24)).heap.size := HA9.out.below.size
                  clear hIN hba HI9 HS9 HM9 HF9
                  go_upto_region 21 with (first
                    | (refine wpList_load_row rfl 24 (.tmp 8) rfl q8 rfl 24 #[.pointer (u5)] (0, 0) _ H89.out Try.underlying24 rfl shelf_info ?_)
                    | (refine wpList_append_grow (K := KH) rfl (.tmp 82) (.tmp 84) 46 rfl Try.underlying46 w.heap.size rfl HA9.out.ownA _ [u5] rfl HAT.out (Nat.zero_lt_one) (n + 1) hlenA hroomA hsA ?_; intro g1 cap1 w10 hown1 hgr1 hgg1 hlt1; have hZ10 := Lib.hid (HA9.out.growA hown1 hgr1 hgg1); have hbz : Below w10.heap.size w10 (w10.alloc (.cells #[.slice ma ((putL el x.key x.v).length) mc] 37)) := (Below.refl _ _).alloc (Nat.le_refl _) _; have hZL := (hZ10.out.kept hbz).ownL; have hZA : KL.At (w10.alloc (.cells #[.slice ma ((putL el x.key x.v).length) mc] 37)) (.slice (some ⟨w10.heap.size, 0, none⟩) 1 1) [(ma, (putL el x.key x.v).length, mc)] := Kind.Own.reads (K := KL) (B := 0) (L := [(ma, (putL el x.key x.v).length, mc)]) (World.ownsRow_lit w10 #[.slice ma ((putL el x.key x.v).length) mc] 1 (Nat.zero_le _) (by decide) rfl); have hZs := (hZ10.out.kept hbz).below.size)
                    | (refine wpList_append_grow (K := KL) rfl (.tmp 86) (.tmp 88) 47 rfl Try.underlying47 w.heap.size rfl (by assumption) _ [(ma, (putL el x.key x.v).length, mc)] rfl (by assumption) (Nat.zero_lt_one) (n + 1) hlenL hroomL (by assumption) ?_; intro g2 cap2 w11 hown2 hgr2 hgg2 hlt2))
                  have hfin := (hZ10.out.kept hbz).growL hown2 hgr2 hgg2
                  have HFIN := Lib.hid hfin
                  clear hfin hZL hZA hZs hbz hown2 hgr2 hgg2 hlt2 hown1 hgr1 hgg1 hlt1 hlenA hlenL hroomA hroomL hsA hZ10
                  go_wp2_with fail
                  go_roundw
                  case rel => exact ⟨i + 1, E ++ [⟨u5, (ma, (putL el x.key x.v).length, mc), putL el x.key x.v⟩], g1, cap1, g2, cap2, by omega, by rw [List.length_append, HE.out, List.length_singleton]; have := HN.out; omega, by rw [HN.out.1], by rw [HN.out.1], by go_num, by rw [List.map_append, List.map_append]; exact HFIN.out⟩
                  case measure => simp [intOf]; omega
              · have b0 : (x.kind == 0) = false := by rw [beq_eq_false_iff_ne]; exact e0
                by_cases e1 : x.kind = 1
                · have k7 : w7.cell? ⟨g6, 0, none⟩ = some (.int .i64 1) := by rw [Lib.cell_of_heap H67.out, ← e1]; rfl
                  have HFB := Lib.hid (show el ≠ [] → ∀ j, (Value.slice sa el.length sc).ownBlock = some j → j ∉ [q8, ga, gl] from fun h j hj hm => by
                    have h1 := HF7.out h j hj
                    simp only [List.mem_cons, List.not_mem_nil, or_false] at hm
                    rcases hm with rfl | rfl | rfl
                    · have h2 := at_lt HEA.out.list h j hj
                      have h3 := G8.out
                      omega
                    · exact h1.1 rfl
                    · exact h1.2 rfl)
                  go_upto_region 19 with (fail)
                  refine QT.wp_region_facts_tail 8 (by kernel_rfl) (fun w' => Below w7.heap.size w7 w') (fun n v w' => (([.val (.agg #[.pointer ep]), .val (.pointer (some ⟨g6, 2, none⟩)), .val (.string x.key), .shp (dropL el x.key), .val (.slice sa el.length sc), .val (.pointer (some ⟨g6, 2, none⟩)), .val (.string x.key), .list [q8, ga, gl] (dropL el x.key)] : List FactO).getD n (.val undef) : FactO).holds v w') (by kernel_rfl) (by kernel_rfl) (Below.refl _ _).drew (fun w1 w2 h1 hb => h1.trans (hb.mono h1.size)) (fun n v w1 w2 h hb => FactO.kept _ v w1 w2 h hb) (fun n o hn ho a wz hI hag hdep => ?_) (fun a wz hI hag hf => ?_)
                  · have t6 : a.eval (.tmp 6) = .pointer (some ⟨g6, 0, none⟩) := hag.old 6 _ (by kernel_rfl) rfl
                    have t8 : a.eval (.tmp 8) = .pointer (some ⟨q8, 0, none⟩) := hag.old 8 _ (by kernel_rfl) rfl
                    have t9 : a.eval (.tmp 9) = .slice sa el.length sc := hag.old 9 _ (by kernel_rfl) rfl
                    have ck : wz.cell? ⟨g6, 2, none⟩ = some (.string x.key) := by rw [Lib.cell_of_heap ((hI.block g6 L67.out).trans H67.out)]; rfl
                    have cv : wz.cell? ⟨g6, 3, none⟩ = some (.int .u64 x.v) := by rw [Lib.cell_of_heap ((hI.block g6 L67.out).trans H67.out)]; rfl
                    match n, ho with
                    | 0, ho =>
                      obtain rfl := (Option.some.inj ho).symm
                      exact ⟨rfl, wp_load_row 24 (.tmp 8) rfl q8 t8 24 #[.pointer ep] (0, 0) _ ((hI.block q8 L87.out).trans H87.out) Try.underlying24 rfl shelf_info ⟨_, rfl, rfl, Below.refl _ _⟩⟩
                    | 1, ho =>
                      obtain rfl := (Option.some.inj ho).symm
                      exact ⟨rfl, QT.wp_value (v := .pointer (some ⟨g6, 2, none⟩)) (by simp [go_sem, QT.nf t6]) ⟨_, rfl, rfl, Below.refl _ _⟩⟩
                    | 2, ho =>
                      obtain rfl := (Option.some.inj ho).symm
                      have d75 : a.eval (.tmp 75) = .pointer (some ⟨g6, 2, none⟩) := hdep _ (Array.mem_of_getElem? (i := 0) rfl) rfl _ _ rfl rfl
                      exact ⟨rfl, QT.wp_value (v := .string x.key) (by simp [go_sem, QT.nf d75, ck]) ⟨_, rfl, rfl, Below.refl _ _⟩⟩
                    | 3, ho =>
                      obtain rfl := (Option.some.inj ho).symm
                      have d74 : a.eval (.tmp 74) = .agg #[.pointer ep] := hdep _ (Array.mem_of_getElem? (i := 0) rfl) rfl _ _ rfl rfl
                      have d76 : a.eval (.tmp 76) = .string x.key := hdep _ (Array.mem_of_getElem? (i := 1) rfl) rfl _ _ rfl rfl
                      exact ⟨rfl, wp_to (f := 11) (args := #[.agg #[.pointer ep], .string x.key]) (R := fun v w' => (.shp (dropL el x.key) : FactO).holds v w' ∧ Below wz.heap.size wz w') (by simp [go_sem, QT.nf d74, QT.nf d76]) (code_DropO ep el x.key wz (HS7.out.below hI hI.size) (by have h1 := HFW.out; have h2 := HN.out; omega)) fun v w' h => ⟨v, rfl, h.1, h.2⟩⟩
                    | 4, ho =>
                      obtain rfl := (Option.some.inj ho).symm
                      exact ⟨rfl, QT.wp_value (BigFrame.run_move (.tmp 9) rfl wz) ⟨_, rfl, t9, Below.refl _ _⟩⟩
                    | 5, ho =>
                      obtain rfl := (Option.some.inj ho).symm
                      exact ⟨rfl, QT.wp_value (v := .pointer (some ⟨g6, 2, none⟩)) (by simp [go_sem, QT.nf t6]) ⟨_, rfl, rfl, Below.refl _ _⟩⟩
                    | 6, ho =>
                      obtain rfl := (Option.some.inj ho).symm
                      have d79 : a.eval (.tmp 79) = .pointer (some ⟨g6, 2, none⟩) := hdep _ (Array.mem_of_getElem? (i := 0) rfl) rfl _ _ rfl rfl
                      exact ⟨rfl, QT.wp_value (v := .string x.key) (by simp [go_sem, QT.nf d79, ck]) ⟨_, rfl, rfl, Below.refl _ _⟩⟩
                    | 7, ho =>
                      obtain rfl := (Option.some.inj ho).symm
                      have d78 : a.eval (.tmp 78) = .slice sa el.length sc := hdep _ (Array.mem_of_getElem? (i := 0) rfl) rfl _ _ rfl rfl
                      have d80 : a.eval (.tmp 80) = .string x.key := hdep _ (Array.mem_of_getElem? (i := 1) rfl) rfl _ _ rfl rfl
                      exact ⟨rfl, wp_to (f := 16) (args := #[.slice sa el.length sc, .string x.key]) (R := fun v w' => (.list [q8, ga, gl] (dropL el x.key) : FactO).holds v w' ∧ Below wz.heap.size wz w') (by simp [go_sem, QT.nf d78, QT.nf d80]) (ref_DropO [q8, ga, gl] _ el x.key wz (HM7.out.kept hI) (by have h1 := HFW.out; have h2 := HN.out; omega) (fun g hg => by simp only [List.mem_cons, List.not_mem_nil, or_false] at hg; have h1 := GA7.out; have h2 := L87.out; have h3 := hI.size; rcases hg with rfl | rfl | rfl <;> omega) HFB.out) fun v w' h => ⟨v, rfl, h.1, h.2⟩⟩
                    | n + 8, ho => omega
                  · have f0 : a.eval (.tmp 74) = .agg #[.pointer ep] := hf 0 _ _ (by omega) rfl rfl
                    have f1 : a.eval (.tmp 75) = .pointer (some ⟨g6, 2, none⟩) := hf 1 _ _ (by omega) rfl rfl
                    have f2 : a.eval (.tmp 76) = .string x.key := hf 2 _ _ (by omega) rfl rfl
                    obtain ⟨u3, f3, y3⟩ := hf 3 _ _ (by omega) rfl rfl
                    have f4 : a.eval (.tmp 78) = .slice sa el.length sc := hf 4 _ _ (by omega) rfl rfl
                    have f5 : a.eval (.tmp 79) = .pointer (some ⟨g6, 2, none⟩) := hf 5 _ _ (by omega) rfl rfl
                    have f6 : a.eval (.tmp 80) = .string x.key := hf 6 _ _ (by omega) rfl rfl
                    obtain ⟨u7, f7⟩ : ∃ u, a.eval (.tmp 81) = u := ⟨_, rfl⟩
                    have y7 := hf 7 _ _ (by omega) rfl rfl
                    rw [f7] at y7
                    have ha := hag.puts [(74, .agg #[.pointer ep]), (75, .pointer (some ⟨g6, 2, none⟩)), (76, .string x.key), (77, .agg #[.pointer u3]), (78, .slice sa el.length sc), (79, .pointer (some ⟨g6, 2, none⟩)), (80, .string x.key), (81, u7)] rfl (by simp) (by simp only [List.forall_mem_cons, List.not_mem_nil, false_implies, implies_true, and_true]; exact ⟨f0, f1, f2, f3, f4, f5, f6, f7⟩)
                    subst ha
                    clear hag hf f0 f1 f2 f3 f4 f5 f6 f7
                    simp only [List.foldl_cons, List.foldl_nil, Act.put, List.drop_succ_cons, List.drop_zero, List.setIfInBounds_toArray, List.set_cons_succ, List.set_cons_zero]
                    rename World => w8
                    obtain ⟨ma, mc, rfl, _⟩ := y7.1.form
                    have hs8 := (y3.store (C := #[.pointer u3]) ((hI.block q8 L87.out).trans H87.out))
                    have hm8 := at_far (g := q8) (C := #[.pointer u3]) y7.1 (fun h j hj e => y7.2 h j hj (by rw [e]; exact List.mem_cons_self ..))
                    have hf8 : dropL el x.key ≠ [] → ∀ k, (Value.slice ma (dropL el x.key).length mc).ownBlock = some k → (Value.slice (some ⟨ga, 0, none⟩) n ca).ownBlock ≠ some k ∧ (Value.slice (some ⟨gl, 0, none⟩) n cl).ownBlock ≠ some k := fun h k hk => by
                      have h1 := y7.2 h k hk
                      simp only [List.mem_cons, List.not_mem_nil, or_false, not_or] at h1
                      exact ⟨fun e => h1.2.1 (by simpa [Value.ownBlock] using e.symm), fun e => h1.2.2 (by simpa [Value.ownBlock] using e.symm)⟩
                    have H88 := Lib.hid ((hI.block q8 L87.out).trans H87.out)
                    have hbw := below_setRow (HB7.out.trans (hI.mono HB7.out.size)) G8.out #[.pointer u3]
                    have HI9 := Lib.hid (HW.out.kept hbw)
                    have HS9 := Lib.hid (show ShelfAt (w8.setRow q8 #[.pointer u3]).heap.size (w8.setRow q8 #[.pointer u3]) #[.pointer u3] (dropL el x.key) by rw [setRow_size]; exact hs8)
                    have HM9 := Lib.hid hm8
                    have HF9 := Lib.hid hf8
                    have H89 := Lib.hid (setRow_heap _ _ _ #[.pointer u3] _ _ H88.out)
                    clear hI y3 y7 hs8 hm8 hf8 hbw HB7 HS7 HM7 HF7
                    go_upto_region 20 with (refine wpList_store_row rfl 24 (.tmp 8) (.tmp 77) rfl q8 #[.pointer u3] rfl rfl 24 #[.pointer ep] H88.out shelf_info rfl (by simp [Value.oneCell']) ?_)
                    generalize w8.setRow q8 #[.pointer u3] = w9 at HI9 HS9 HM9 HF9 H89 ⊢
                    have hIN := (HI9.out.mono (Nat.le_succ i)).add (e := ⟨u3, (ma, (dropL el x.key).length, mc), dropL el x.key⟩) ⟨HS9.out, show (dropL el x.key).length ≤ i + 1 from (by have h1 := drop_le el x.key; have h2 := HFW.out; omega), HM9.out, HF9.out⟩
                    have hba : Below w9.heap.size w9 (w9.alloc (.cells #[.pointer (u3)] 24)) := (Below.refl _ _).alloc (Nat.le_refl _) _
                    have HA9 := Lib.hid (hIN.kept hba)
                    have HAT := Lib.hid (show KH.At (w9.alloc (.cells #[.pointer (u3)] 24)) (.slice (some ⟨w9.heap.size, 0, none⟩) 1 1) [u3] from Kind.Own.reads (K := KH) (B := 0) (L := [u3]) (World.ownsRow_lit w9 #[.pointer (u3)] 1 (Nat.zero_le _) (by decide) rfl))
                    have hlenA : (E.map (·.p)).length + 1 = n + 1 := by rw [List.length_map]; have := HE.out; omega
                    have hlenL : (E.map (·.s)).length + 1 = n + 1 := by rw [List.length_map]; have := HE.out; omega
                    have hroomA : ((E.map (·.p)).length + 1) * (KH.bytes + 1) ≤ 1099511627776 := by rw [hlenA]; have := HN.out; simp only [KH]; omega
                    have hroomL : ((E.map (·.s)).length + 1) * (KL.bytes + 1) ≤ 1099511627776 := by rw [hlenL]; have := HN.out; simp only [KL]; omega
                    have hsA : w.heap.size ≤ (w9.alloc (.cells #[.pointer (u3)] 24)).heap.size := HA9.out.below.size
                    clear hIN hba HI9 HS9 HM9 HF9
                    go_upto_region 21 with (first
                      | (refine wpList_load_row rfl 24 (.tmp 8) rfl q8 rfl 24 #[.pointer (u3)] (0, 0) _ H89.out Try.underlying24 rfl shelf_info ?_)
                      | (refine wpList_append_grow (K := KH) rfl (.tmp 82) (.tmp 84) 46 rfl Try.underlying46 w.heap.size rfl HA9.out.ownA _ [u3] rfl HAT.out (Nat.zero_lt_one) (n + 1) hlenA hroomA hsA ?_; intro g1 cap1 w10 hown1 hgr1 hgg1 hlt1; have hZ10 := Lib.hid (HA9.out.growA hown1 hgr1 hgg1); have hbz : Below w10.heap.size w10 (w10.alloc (.cells #[.slice ma ((dropL el x.key).length) mc] 37)) := (Below.refl _ _).alloc (Nat.le_refl _) _; have hZL := (hZ10.out.kept hbz).ownL; have hZA : KL.At (w10.alloc (.cells #[.slice ma ((dropL el x.key).length) mc] 37)) (.slice (some ⟨w10.heap.size, 0, none⟩) 1 1) [(ma, (dropL el x.key).length, mc)] := Kind.Own.reads (K := KL) (B := 0) (L := [(ma, (dropL el x.key).length, mc)]) (World.ownsRow_lit w10 #[.slice ma ((dropL el x.key).length) mc] 1 (Nat.zero_le _) (by decide) rfl); have hZs := (hZ10.out.kept hbz).below.size)
                      | (refine wpList_append_grow (K := KL) rfl (.tmp 86) (.tmp 88) 47 rfl Try.underlying47 w.heap.size rfl (by assumption) _ [(ma, (dropL el x.key).length, mc)] rfl (by assumption) (Nat.zero_lt_one) (n + 1) hlenL hroomL (by assumption) ?_; intro g2 cap2 w11 hown2 hgr2 hgg2 hlt2))
                    have hfin := (hZ10.out.kept hbz).growL hown2 hgr2 hgg2
                    have HFIN := Lib.hid hfin
                    clear hfin hZL hZA hZs hbz hown2 hgr2 hgg2 hlt2 hown1 hgr1 hgg1 hlt1 hlenA hlenL hroomA hroomL hsA hZ10
                    go_wp2_with fail
                    go_roundw
                    case rel => exact ⟨i + 1, E ++ [⟨u3, (ma, (dropL el x.key).length, mc), dropL el x.key⟩], g1, cap1, g2, cap2, by omega, by rw [List.length_append, HE.out, List.length_singleton]; have := HN.out; omega, by rw [HN.out.1], by rw [HN.out.1], by go_num, by rw [List.map_append, List.map_append]; exact HFIN.out⟩
                    case measure => simp [intOf]; omega
                · have b1 : (x.kind == 1) = false := by rw [beq_eq_false_iff_ne]; exact e1
                  have k7 : w7.cell? ⟨g6, 0, none⟩ = some (.int .i64 x.kind) := by rw [Lib.cell_of_heap H67.out]; rfl
                  go_upto_region 20 with (fail)
                  have HI9 := Lib.hid (HW.out.kept HB7.out)
                  have HS9 := Lib.hid HS7.out
                  have HM9 := Lib.hid HM7.out
                  have HF9 := Lib.hid (show el ≠ [] → ∀ k, (Value.slice sa el.length sc).ownBlock = some k → (Value.slice (some ⟨ga, 0, none⟩) n ca).ownBlock ≠ some k ∧ (Value.slice (some ⟨gl, 0, none⟩) n cl).ownBlock ≠ some k from fun h k hk => HF7.out h k hk)
                  have H89 := Lib.hid H87.out
                  clear HB7 HS7 HM7 HF7
                  have hIN := (HI9.out.mono (Nat.le_succ i)).add (e := ⟨ep, (sa, el.length, sc), el⟩) ⟨HS9.out, show (el).length ≤ i + 1 from (by have h2 := HFW.out; omega), HM9.out, HF9.out⟩
                  have hba : Below w7.heap.size w7 (w7.alloc (.cells #[.pointer (ep)] 24)) := (Below.refl _ _).alloc (Nat.le_refl _) _
                  have HA9 := Lib.hid (hIN.kept hba)
                  have HAT := Lib.hid (show KH.At (w7.alloc (.cells #[.pointer (ep)] 24)) (.slice (some ⟨w7.heap.size, 0, none⟩) 1 1) [ep] from Kind.Own.reads (K := KH) (B := 0) (L := [ep]) (World.ownsRow_lit w7 #[.pointer (ep)] 1 (Nat.zero_le _) (by decide) rfl))
                  have hlenA : (E.map (·.p)).length + 1 = n + 1 := by rw [List.length_map]; have := HE.out; omega
                  have hlenL : (E.map (·.s)).length + 1 = n + 1 := by rw [List.length_map]; have := HE.out; omega
                  have hroomA : ((E.map (·.p)).length + 1) * (KH.bytes + 1) ≤ 1099511627776 := by rw [hlenA]; have := HN.out; simp only [KH]; omega
                  have hroomL : ((E.map (·.s)).length + 1) * (KL.bytes + 1) ≤ 1099511627776 := by rw [hlenL]; have := HN.out; simp only [KL]; omega
                  have hsA : w.heap.size ≤ (w7.alloc (.cells #[.pointer (ep)] 24)).heap.size := HA9.out.below.size
                  clear hIN hba HI9 HS9 HM9 HF9
                  go_upto_region 21 with (first
                    | (refine wpList_load_row rfl 24 (.tmp 8) rfl q8 rfl 24 #[.pointer (ep)] (0, 0) _ H89.out Try.underlying24 rfl shelf_info ?_)
                    | (refine wpList_append_grow (K := KH) rfl (.tmp 82) (.tmp 84) 46 rfl Try.underlying46 w.heap.size rfl HA9.out.ownA _ [ep] rfl HAT.out (Nat.zero_lt_one) (n + 1) hlenA hroomA hsA ?_; intro g1 cap1 w10 hown1 hgr1 hgg1 hlt1; have hZ10 := Lib.hid (HA9.out.growA hown1 hgr1 hgg1); have hbz : Below w10.heap.size w10 (w10.alloc (.cells #[.slice sa (el.length) sc] 37)) := (Below.refl _ _).alloc (Nat.le_refl _) _; have hZL := (hZ10.out.kept hbz).ownL; have hZA : KL.At (w10.alloc (.cells #[.slice sa (el.length) sc] 37)) (.slice (some ⟨w10.heap.size, 0, none⟩) 1 1) [(sa, el.length, sc)] := Kind.Own.reads (K := KL) (B := 0) (L := [(sa, el.length, sc)]) (World.ownsRow_lit w10 #[.slice sa (el.length) sc] 1 (Nat.zero_le _) (by decide) rfl); have hZs := (hZ10.out.kept hbz).below.size)
                    | (refine wpList_append_grow (K := KL) rfl (.tmp 86) (.tmp 88) 47 rfl Try.underlying47 w.heap.size rfl (by assumption) _ [(sa, el.length, sc)] rfl (by assumption) (Nat.zero_lt_one) (n + 1) hlenL hroomL (by assumption) ?_; intro g2 cap2 w11 hown2 hgr2 hgg2 hlt2))
                  have hfin := (hZ10.out.kept hbz).growL hown2 hgr2 hgg2
                  have HFIN := Lib.hid hfin
                  clear hfin hZL hZA hZs hbz hown2 hgr2 hgg2 hlt2 hown1 hgr1 hgg1 hlt1 hlenA hlenL hroomA hroomL hsA hZ10
                  go_wp2_with fail
                  go_roundw
                  case rel => exact ⟨i + 1, E ++ [⟨ep, (sa, el.length, sc), el⟩], g1, cap1, g2, cap2, by omega, by rw [List.length_append, HE.out, List.length_singleton]; have := HN.out; omega, by rw [HN.out.1], by rw [HN.out.1], by go_num, by rw [List.map_append, List.map_append]; exact HFIN.out⟩
                  case measure => simp [intOf]; omega
        · obtain rfl : i = L.length := by omega
          have hlti : ¬ ((L.length : Int) < (L.length : Int)) := by omega
          obtain ⟨m1, hn⟩ : ∃ m1, L.length + 1 = m1 := ⟨_, rfl⟩
          rw [hn] at HI HE
          rw [hn]
          have HN := Lib.hid (show m1 ≤ 61 by omega)
          clear hn
          go_wp2_with fail
          go_loopw [93] (fun jv wr' => ∃ j : Nat, j ≤ m1 ∧ jv = .int .i64 j ∧ OldI w L.length (.slice (some ⟨ga, 0, none⟩) m1 ca) (.slice (some ⟨gl, 0, none⟩) m1 cl) (E.map (·.p)) (E.map (·.s)) E wr') (fun jv _ => m1 - (intOf jv).toNat)
          case atStart => exact ⟨0, Nat.zero_le _, rfl, HI.out⟩
          case round =>
            obtain ⟨j, hj, rfl, hJ⟩ := hrel
            have HW := Lib.hid hJ
            clear hJ
            by_cases hjn : j < m1
            · have hqe : j < E.length := by have := HE.out; omega
              have he := List.getElem?_eq_getElem hqe
              obtain ⟨e, hee⟩ : ∃ e, E[j] = e := ⟨_, rfl⟩
              rw [hee] at he
              have HEA := Lib.hid (HW.out.each e (by rw [← hee]; exact List.getElem_mem hqe))
              have HRA := Lib.hid (HW.out.readA (i := j) (p := e.p) (by rw [List.getElem?_map, he]; rfl))
              have HRL := Lib.hid (HW.out.readL (i := j) (s := e.s) (by rw [List.getElem?_map, he]; rfl))
              obtain ⟨ep, ⟨sa, sn, sc⟩, el⟩ := e
              obtain rfl : sn = el.length := by
                obtain ⟨_, _, hv, _⟩ := HEA.out.list.form
                rw [sl_own] at hv
                injection hv
              rw [sl_own] at HRL
              clear he hee hqe
              have hqi : (j : Int) < (m1 : Int) := by omega
              go_upto_region 25 with (first
                | (refine wpList_load_mid rfl 24 (.tmp 96) rfl ga j rfl [.pointer ep] _ HRA.out Try.underlying24 rfl shelf_info ?_)
                | (refine wpList_store_row rfl 24 (.tmp 11) (.tmp 97) rfl wr.heap.size #[.pointer ep] rfl rfl 24 zeroS (heap_alloc_new _ _) shelf_info rfl (by simp [Value.oneCell']) ?_; rw [World.setRow_alloc_new]))
              have hb1 : Below wr.heap.size wr (wr.alloc (.cells #[.pointer ep] 24)) := (Below.refl _ _).alloc (Nat.le_refl _) _
              have h11 := heap_alloc_new wr (.cells #[.pointer ep] 24)
              have HRL1 := Lib.hid ((hb1.cell (World.block_lt_of_cell? _ _ HRL.out)).trans HRL.out)
              generalize wr.alloc (.cells #[.pointer ep] 24) = W at hb1 h11 HRL1 ⊢
              have HW1 := Lib.hid (HW.out.kept hb1)
              have HE1 := Lib.hid (HEA.out.kept hb1)
              obtain ⟨g11, hg11⟩ : ∃ x, wr.heap.size = x := ⟨_, rfl⟩
              rw [hg11] at h11
              rw [hg11]
              have H11 := Lib.hid h11
              have L11 := Lib.hid (Array.getElem?_eq_some_iff.1 h11).1
              have HLN := Lib.hid h60
              clear hb1 h11 hg11 HW HEA HRL HRA
              refine QT.wp_region_facts (by kernel_rfl) (fun w' => Below W.heap.size W w') (fun n v w' => (([.val (.agg #[.pointer ep]), .val (.slice (some ⟨gl, 0, none⟩) m1 cl), .val (.int .i64 (j : Int)), .val (.pointer (some ⟨gl, j, none⟩)), .val (.slice sa el.length sc), .val (.bool true), .val (.bool false)] : List FactO).getD n (.val undef) : FactO).holds v w') (by kernel_rfl) (by kernel_rfl) (Below.refl _ _).drew (fun w1 w2 h1 hb => h1.trans (hb.mono h1.size)) (fun n v w1 w2 h hb => FactO.kept _ v w1 w2 h hb) (fun n o ho a wz hI hag hdep => ?_) (fun a wz hI hag hf => ?_)
              · have t4 : a.eval (.tmp 4) = .slice (some ⟨gl, 0, none⟩) m1 cl := hag.old 4 _ (by kernel_rfl) rfl
                have t10 : a.eval (.tmp 10) = .int .i64 (j : Int) := hag.old 10 _ (by kernel_rfl) rfl
                have t11 : a.eval (.tmp 11) = .pointer (some ⟨g11, 0, none⟩) := hag.old 11 _ (by kernel_rfl) rfl
                have cl1 : wz.cell? ⟨gl, j, none⟩ = some (.slice sa el.length sc) := by rw [hI.cell (World.block_lt_of_cell? _ _ HRL1.out)]; exact HRL1.out
                match n, ho with
                | 0, ho =>
                  obtain rfl := (Option.some.inj ho).symm
                  exact ⟨rfl, wp_load_row 24 (.tmp 11) rfl g11 t11 24 #[.pointer ep] (0, 0) _ ((hI.block g11 L11.out).trans H11.out) Try.underlying24 rfl shelf_info ⟨_, rfl, rfl, Below.refl _ _⟩⟩
                | 1, ho =>
                  obtain rfl := (Option.some.inj ho).symm
                  exact ⟨rfl, QT.wp_value (BigFrame.run_move (.tmp 4) rfl wz) ⟨_, rfl, t4, Below.refl _ _⟩⟩
                | 2, ho =>
                  obtain rfl := (Option.some.inj ho).symm
                  exact ⟨rfl, QT.wp_value (BigFrame.run_move (.tmp 10) rfl wz) ⟨_, rfl, t10, Below.refl _ _⟩⟩
                | 3, ho =>
                  obtain rfl := (Option.some.inj ho).symm
                  have d99 : a.eval (.tmp 99) = .slice (some ⟨gl, 0, none⟩) m1 cl := hdep _ (Array.mem_of_getElem? (i := 0) rfl) rfl _ _ rfl rfl
                  have d100 : a.eval (.tmp 100) = .int .i64 (j : Int) := hdep _ (Array.mem_of_getElem? (i := 1) rfl) rfl _ _ rfl rfl
                  exact ⟨rfl, QT.wp_value (v := .pointer (some ⟨gl, j, none⟩)) (by simp [go_sem, QT.nf d99, QT.nf d100, hqi]) ⟨_, rfl, rfl, Below.refl _ _⟩⟩
                | 4, ho =>
                  obtain rfl := (Option.some.inj ho).symm
                  have d101 : a.eval (.tmp 101) = .pointer (some ⟨gl, j, none⟩) := hdep _ (Array.mem_of_getElem? (i := 0) rfl) rfl _ _ rfl rfl
                  exact ⟨rfl, QT.wp_value (v := .slice sa el.length sc) (by simp [go_sem, QT.nf d101, cl1]) ⟨_, rfl, rfl, Below.refl _ _⟩⟩
                | 5, ho =>
                  obtain rfl := (Option.some.inj ho).symm
                  have d98 : a.eval (.tmp 98) = .agg #[.pointer ep] := hdep _ (Array.mem_of_getElem? (i := 0) rfl) rfl _ _ rfl rfl
                  have d102 : a.eval (.tmp 102) = .slice sa el.length sc := hdep _ (Array.mem_of_getElem? (i := 1) rfl) rfl _ _ rfl rfl
                  exact ⟨rfl, QT.wp_enter (f := 20) (args := #[.agg #[.pointer ep], .slice sa el.length sc]) (by simp [go_sem, QT.nf d98, QT.nf d102]) (ref_is _ el _ wz (HE1.out.kept hI).shelf (HE1.out.kept hI).list (Nat.le_trans HE1.out.few (by have := HLN.out; omega))) fun w' hb => ⟨_, rfl, rfl, hb⟩⟩
                | 6, ho =>
                  obtain rfl := (Option.some.inj ho).symm
                  have d103 : a.eval (.tmp 103) = .bool true := hdep _ (Array.mem_of_getElem? (i := 0) rfl) rfl _ _ rfl rfl
                  exact ⟨rfl, QT.wp_value (v := .bool false) (by simp [go_sem, QT.nf d103]) ⟨_, rfl, rfl, Below.refl _ _⟩⟩
                | n + 7, ho => simp at ho
              · have f0 : a.eval (.tmp 98) = .agg #[.pointer ep] := hf 0 _ _ rfl rfl
                have f1 : a.eval (.tmp 99) = .slice (some ⟨gl, 0, none⟩) m1 cl := hf 1 _ _ rfl rfl
                have f2 : a.eval (.tmp 100) = .int .i64 (j : Int) := hf 2 _ _ rfl rfl
                have f3 : a.eval (.tmp 101) = .pointer (some ⟨gl, j, none⟩) := hf 3 _ _ rfl rfl
                have f4 : a.eval (.tmp 102) = .slice sa el.length sc := hf 4 _ _ rfl rfl
                have f5 : a.eval (.tmp 103) = .bool true := hf 5 _ _ rfl rfl
                have f6 : a.eval (.tmp 104) = .bool false := hf 6 _ _ rfl rfl
                have ha := hag.puts [(98, .agg #[.pointer ep]), (99, .slice (some ⟨gl, 0, none⟩) m1 cl), (100, .int .i64 (j : Int)), (101, .pointer (some ⟨gl, j, none⟩)), (102, .slice sa el.length sc), (103, .bool true), (104, .bool false)] rfl (by simp [Act.put]) (by simp only [List.forall_mem_cons, List.not_mem_nil, false_implies, implies_true, and_true]; exact ⟨f0, f1, f2, f3, f4, f5, f6⟩)
                subst ha
                clear hag hf f0 f1 f2 f3 f4 f5 f6
                simp only [List.foldl_cons, List.foldl_nil, Act.put, List.setIfInBounds_toArray, List.set_cons_succ, List.set_cons_zero]
                rename World => w7
                have HIN := Lib.hid (HW1.out.kept hI)
                clear hI
                have hj61 : j < 61 := by have := HN.out; omega
                go_wp2_with fail
                go_roundw
                case rel => exact ⟨j + 1, by omega, by go_num, HIN.out⟩
                case measure => simp [intOf]; omega
            · obtain rfl : j = m1 := by omega
              have hqi : ¬ ((j : Int) < (j : Int)) := by omega
              go_wp2_with fail
              go_ret
              exact ⟨rfl, HW.out.below⟩
    · have h60i : 60 < (L.length : Int) := by omega
      go_wp2_with fail
      go_ret
      exact ⟨rfl, HB2.out⟩

theorem law_ShelfOld (v0 : Value) (a0 : List OpT) (w : World) (w0 : KO.At w v0 a0) (x0 : a0.length ≤ 9223372036854775807) (y0 : ∀ x ∈ a0, (Lit.int .i64 x.n).wf = true) :
    Calls Try.prog 5 #[v0] w fun e w' => e = .returned (.bool true) ∧ Below w.heap.size w w' := old_any v0 a0 w w0 x0 y0

end Go.Proofs.Ytpepijoppgbbfaa.Shf
