/- shelf: ShelfOne. -/
import Derived.Test.YtpepijoppgbbfaaSfL3
import Derived.Test.YtpepijoppgbbfaaSfO
import Derived.Test.YtpepijoppgbbfaaQPs
import Derived.Test.YtpepijoppgbbfaaQFm
namespace Go.Proofs.Ytpepijoppgbbfaa.Shf
open Go.RowKit Go.Shelf Go.Proofs.Ytpepijoppgbbfaa.Gr
attribute [local go_sem] Oper.semAt_some

/-- Numbers. -/
def KI : Kind Try.prog Int where
  T := 3
  size := 1
  bytes := 8
  zero := .int .i64 0
  enc x := [.int .i64 x]
  info := by kernel_rfl
  zsize := rfl
  pos := by decide
  len _ := rfl
  one x u hu := by
    simp at hu
    subst hu
    rfl
theorem num_cell {w : World} {l : List Int} {g o : Nat} (hr : w.rangeAt g o (KI.flat l)) {i : Nat} {x : Int} (hi : l[i]? = some x) : w.cell? ⟨g, o + i, none⟩ = some (.int .i64 x) := by
  have h := range_thing hr hi (j := 0) (u := .int .i64 x) rfl
  have he : i * KI.size + 0 = i := Nat.mul_one i
  rw [he] at h
  exact h
theorem flatS (L : List ByteArray) : KS.flat L = L.map .string := by
  induction L with
  | nil => rfl
  | cons x L ih => rw [Kind.flat_cons, ih]; rfl
/-- Two of a row of one's own change places. -/
theorem own_swap {B g cap n : Nat} {L : List ByteArray} {w : World} (h : KS.Own B (.slice (some ⟨g, 0, none⟩) n cap) L w) (hn : L.length = n) (i j : Nat) (x y : ByteArray) :
    KS.Own B (.slice (some ⟨g, 0, none⟩) n cap) (swapL L i j x y) ((w.setCell ⟨g, i, none⟩ (.string y)).setCell ⟨g, j, none⟩ (.string x)) := by
  subst hn
  have h1 := (World.ownsRow.stored h i (.string y)).1
  have h2 := (World.ownsRow.stored h1 j (.string x)).1
  unfold Kind.Own
  rw [swap_len, flatS]
  unfold swapL
  rw [List.map_set, List.map_set, ← flatS]
  exact h2
theorem own_set {B g cap n : Nat} {L : List ByteArray} {w : World} (h : KS.Own B (.slice (some ⟨g, 0, none⟩) n cap) L w) (hn : L.length = n) (i : Nat) (y : ByteArray) :
    KS.Own B (.slice (some ⟨g, 0, none⟩) n cap) (L.set i y) (w.setCell ⟨g, i, none⟩ (.string y)) := by
  subst hn
  have h1 := (World.ownsRow.stored h i (.string y)).1
  unfold Kind.Own
  rw [List.length_set, flatS, List.map_set, ← flatS]
  exact h1
theorem own_frozen {B g cap n : Nat} {L : List ByteArray} {w : World} (h : KS.Own B (.slice (some ⟨g, 0, none⟩) n cap) L w) (hn : L.length = n) (i : Nat) : w.frozen? ⟨g, i, none⟩ = false := by
  subst hn
  exact World.ownsRow.frozenAt h i
theorem wpIn_val {P : Program} {o : Oper} {a : Act} {w w' : World} {n : Nat} {K : Act → World → Prop} {Q : Exit → Act → World → Prop} {v : Value} (h : (execOp a.eval o).run P w = .ok (.value v) w') (hk : K (a.put o.dst v) w') : o.wpIn Fence.wide n P a w K Q :=
  ⟨fun _ _ => trivial, by
    show o.uponIn Fence.wide n P a K Q ((execOp a.eval o).run P w)
    rw [h]
    exact hk⟩
theorem wpIn_skip {P : Program} {o : Oper} {a : Act} {w w' : World} {n : Nat} {K : Act → World → Prop} {Q : Exit → Act → World → Prop} (h : (execOp a.eval o).run P w = .ok .skip w') (hk : K (a.put o.dst undef) w') : o.wpIn Fence.wide n P a w K Q :=
  ⟨fun _ _ => trivial, by
    show o.uponIn Fence.wide n P a K Q ((execOp a.eval o).run P w)
    rw [h]
    exact hk⟩
theorem snocD {r : List Value} {x : Value} {k : Nat} (h : k < r.length) : (r ++ [x]).getD k undef = r.getD k undef := by
  simp [List.getD_eq_getElem?_getD, List.getElem?_append_left h]
theorem lastD {r : List Value} {x : Value} {k : Nat} (h : r.length = k) : (r ++ [x]).getD k undef = x := by
  subst h
  simp [List.getD_eq_getElem?_getD]
/-- The world between the stores of a change of places. -/
def swW (W : World) (g i j : Nat) (x y : ByteArray) : Nat → World
  | 0 => W
  | 1 => W.setCell ⟨g, i, none⟩ (.string y)
  | _ => (W.setCell ⟨g, i, none⟩ (.string y)).setCell ⟨g, j, none⟩ (.string x)
def swV (g n cap i j : Nat) (x y : ByteArray) : Nat → List Value → Value := fun k r => match k with
  | 0 => .slice (some ⟨g, 0, none⟩) n cap
  | 1 => .int .i64 (i : Int)
  | 2 => .slice (some ⟨g, 0, none⟩) n cap
  | 3 => .int .i64 (j : Int)
  | 4 => .slice (some ⟨g, 0, none⟩) n cap
  | 5 => .int .i64 (j : Int)
  | 6 => .pointer (some ⟨g, j, none⟩)
  | 7 => .string y
  | 8 => .slice (some ⟨g, 0, none⟩) n cap
  | 9 => .int .i64 (i : Int)
  | 10 => .pointer (some ⟨g, i, none⟩)
  | 11 => .string x
  | 12 => .pointer (some ⟨g, i, none⟩)
  | 13 => r.getD 0 undef
  | 14 => .pointer (some ⟨g, j, none⟩)
  | 15 => r.getD 1 undef
  | _ => undef
def swC : Nat → Nat := fun k => match k with | 13 => 1 | 14 => 1 | 15 => 2 | _ => 0
def swU : Nat → Nat := fun k => match k with | 2 => 1 | 3 => 1 | 14 => 1 | 13 => 2 | 15 => 2 | _ => 0
theorem swV_snoc (g n cap i j : Nat) (x y : ByteArray) (k : Nat) (r : List Value) (u : Value) (h : swC k ≤ r.length) : swV g n cap i j x y k (r ++ [u]) = swV g n cap i j x y k r := by
  match k, h with
  | 0, _ => rfl
  | 1, _ => rfl
  | 2, _ => rfl
  | 3, _ => rfl
  | 4, _ => rfl
  | 5, _ => rfl
  | 6, _ => rfl
  | 7, _ => rfl
  | 8, _ => rfl
  | 9, _ => rfl
  | 10, _ => rfl
  | 11, _ => rfl
  | 12, _ => rfl
  | 13, h => exact snocD (show 0 < r.length from h)
  | 14, _ => rfl
  | 15, h => exact snocD (show 1 < r.length from h)
  | k + 16, _ => rfl

theorem own_cell {B g cap n : Nat} {L : List ByteArray} {w : World} (h : KS.Own B (.slice (some ⟨g, 0, none⟩) n cap) L w) (hn : L.length = n) {i : Nat} {x : ByteArray} (hi : L[i]? = some x) : w.cell? ⟨g, i, none⟩ = some (.string x) := by
  subst hn
  have hil := (List.getElem?_eq_some_iff.1 hi).1
  have h1 := World.ownsRow.cellAt h i (by show i < L.length * KS.size; rw [show KS.size = 1 from rfl]; omega)
  rw [h1, flatS, List.getElem?_map, hi]
  rfl

/-- What is so while two shelves are filled and one is emptied. -/
structure OneI (w : World) (g h : Nat) (l m ll : List Th) (S T : Array Value) (v vo : Value) (O : List ByteArray) (W : World) : Prop where
  a : W.heap[g]? = some (.cells S 24 (0, 0))
  b : W.heap[h]? = some (.cells T 24 (0, 0))
  sa : ShelfAt W.heap.size W S l
  sb : ShelfAt W.heap.size W T m
  list : KT.At W v ll
  far : ∀ j, v.ownBlock = some j → j ≠ g ∧ j ≠ h
  other : KS.At W vo O
  ofar : ∀ j, vo.ownBlock = some j → j ≠ g ∧ j ≠ h
  below : Below w.heap.size w W
theorem OneI.kept {w : World} {g h : Nat} {l m ll : List Th} {S T : Array Value} {v vo : Value} {O : List ByteArray} {W W' : World} (k : OneI w g h l m ll S T v vo O W) (hb : Below W.heap.size W W') : OneI w g h l m ll S T v vo O W' :=
  have lt : ∀ {g : Nat} {cs : Array Value} {t : TypeId} {fr : Nat × Nat}, W.heap[g]? = some (.cells cs t fr) → W'.heap[g]? = some (.cells cs t fr) := fun h => (hb.block _ (Array.getElem?_eq_some_iff.1 h).1).trans h
  ⟨lt k.a, lt k.b, k.sa.below hb hb.size, k.sb.below hb hb.size, k.list.kept hb, k.far, k.other.kept hb, k.ofar, k.below.trans (hb.mono k.below.size)⟩
theorem OneI.stepA {w : World} {g h : Nat} {l m ll : List Th} {S T : Array Value} {v vo : Value} {O : List ByteArray} {W : World} (k : OneI w g h l m ll S T v vo O W) (hgh : g ≠ h) (hw : w.heap.size ≤ g)
    {l' ll' : List Th} {S' : Array Value} {v' : Value} (hS : ShelfAt W.heap.size W S' l') (hM : KT.At W v' ll') (hf : ∀ j, v'.ownBlock = some j → j ≠ g ∧ j ≠ h) : OneI w g h l' m ll' S' T v' vo O (W.setRow g S') := by
  have hsz : (W.setRow g S').heap.size = W.heap.size := by simp [World.setRow]
  refine ⟨setRow_heap _ _ _ _ _ _ k.a, ?_, ?_, ?_, at_store hM fun j hj => (hf j hj).1, hf, at_store k.other fun j hj => (k.ofar j hj).1, k.ofar, below_setRow k.below hw _⟩
  · rw [setRow_other _ _ _ _ (Ne.symm hgh)]
    exact k.b
  · rw [hsz]
    exact hS.store k.a
  · rw [hsz]
    exact k.sb.store k.a
theorem OneI.stepB {w : World} {g h : Nat} {l m ll : List Th} {S T : Array Value} {v vo : Value} {O : List ByteArray} {W : World} (k : OneI w g h l m ll S T v vo O W) (hgh : g ≠ h) (hw : w.heap.size ≤ h)
    {m' : List Th} {T' : Array Value} (hT : ShelfAt W.heap.size W T' m') : OneI w g h l m' ll S T' v vo O (W.setRow h T') := by
  have hsz : (W.setRow h T').heap.size = W.heap.size := by simp [World.setRow]
  refine ⟨?_, setRow_heap _ _ _ _ _ _ k.b, ?_, ?_, at_store k.list fun j hj => (k.far j hj).2, k.far, at_store k.other fun j hj => (k.ofar j hj).2, k.ofar, below_setRow k.below hw _⟩
  · rw [setRow_other _ _ _ _ hgh]
    exact k.a
  · rw [hsz]
    exact k.sa.store k.b
  · rw [hsz]
    exact hT.store k.b
theorem OneI.cell {w : World} {g h : Nat} {l m ll : List Th} {S T : Array Value} {v : Value} {gq oq n c : Nat} {O : List ByteArray} {W : World} (k : OneI w g h l m ll S T v (.slice (some ⟨gq, oq, none⟩) n c) O W) {i : Nat} {y : ByteArray} (hy : O[i]? = some y) : W.cell? ⟨gq, oq + i, none⟩ = some (.string y) := by
  have h0 := (List.getElem?_eq_some_iff.1 hy).1
  obtain ⟨g2, o2, c2, h2, _, hr⟩ := k.other.some (by omega)
  injection h2 with h3 _ _
  injection h3 with h3
  injection h3 with h4 h5 _
  subst h4 h5
  exact text_cell hr hy
theorem take_step {α : Type} {L : List α} {i : Nat} {x : α} (h : L[i]? = some x) : L.take (i + 1) = L.take i ++ [x] := by
  rw [List.take_add_one, h]
  rfl

set_option maxRecDepth 100000 in
set_option maxHeartbeats 12800000 in
theorem one_any (v0 v1 : Value) (L : List ByteArray) (M : List Int) (w : World) (hT : KS.At w v0 L) (hM : KI.At w v1 M) (hl : L.length ≤ 9223372036854775807) (hm : M.length ≤ 9223372036854775807) (hxs : ∀ x ∈ L, x.size ≤ 9223372036854775807) :
    Calls Try.prog 6 #[v0, v1] w fun e w' => e = .returned (.bool true) ∧ Below w.heap.size w w' := by
  have HN := Lib.hid (fun w => code_NewS w)
  have HWK := Lib.hid works_any
  have HXS := Lib.hid hxs
  clear hxs
  obtain ⟨av, cap, rfl, hcap⟩ := hT.form
  obtain ⟨am, capm, rfl, hcapm⟩ := hM.form
  have HT := Lib.hid hT
  have HM := Lib.hid hM
  clear hT hM
  go_enter Try.func6, Try.ntmps6
  go_wp2_with fail
  refine (HWK.out _).mono ?_
  rintro e w1 ⟨rfl, hb1⟩
  have HB1 := Lib.hid hb1
  clear hb1 HWK
  go_wp2_with fail
  go_loopw [5, 24] (fun nv iv wr => ∃ (i : Nat) (m : Int), i ≤ L.length ∧ iv = .int .i64 i ∧ nv = .int .i64 m ∧ Below w.heap.size w wr) (fun _ iv _ => L.length - (intOf iv).toNat)
  case atStart => exact ⟨0, 0, Nat.zero_le _, rfl, rfl, HB1.out⟩
  case round =>
    obtain ⟨i, m, hi, rfl, rfl, hb⟩ := hrel
    have HB := Lib.hid hb
    by_cases hlt : i < L.length
    · obtain ⟨g, o, cap', hav, _, hr⟩ := (HT.out.kept hb).some (by omega)
      have hx := List.getElem?_eq_getElem hlt
      obtain ⟨x, hxx⟩ : ∃ x, L[i] = x := ⟨_, rfl⟩
      rw [hxx] at hx
      have cx := text_cell hr hx
      injection hav with hav1 _ hav2
      subst hav1 hav2
      have hlti : (i : Int) < (L.length : Int) := by omega
      clear hxx hr hx hb
      obtain ⟨q, hq⟩ : ∃ q : Nat, min (x.size : Int) 4096 = (q : Int) := ⟨min x.size 4096, by omega⟩
      obtain ⟨m2, hm2⟩ : ∃ m2 : Int, IntKind.i64.wrap (m + (q : Int)) = m2 := ⟨_, rfl⟩
      go_wp2_with fail
      go_roundw
      case rel => exact ⟨i + 1, m2, by omega, by go_num, rfl, HB.out⟩
      case measure => simp [intOf]; omega
    · obtain rfl : i = L.length := by omega
      have hlti : ¬ ((L.length : Int) < (L.length : Int)) := by omega
      clear hb HB1
      by_cases q1 : L.length ≤ 200
      · have q1i : ¬ (200 < (L.length : Int)) := by omega
        by_cases q2 : M.length ≤ 400
        · have q2i : ¬ (400 < (M.length : Int)) := by omega
          by_cases q3 : m ≤ 16384
          · have q3i : ¬ (16384 < m) := by omega
            have hba : Below wr.heap.size wr (wr.alloc (.cells #[] 9)) := (Below.refl _ _).alloc (Nat.le_refl _) _
            have HOE := Lib.hid (show KS.Own w.heap.size (.slice (some ⟨wr.heap.size, 0, none⟩) 0 0) [] (wr.alloc (.cells #[] 9)) from World.ownsRow_made wr #[] 0 HB.out.size (by decide) rfl)
            have HK := Lib.hid (HT.out.kept (HB.out.trans (hba.mono HB.out.size)))
            have HBA := Lib.hid (HB.out.trans (hba.mono HB.out.size))
            have hn1 : (([] : List ByteArray).length + L.length) * (KS.bytes + 1) ≤ 1099511627776 := by simp [KS]; omega
            have hbs := HBA.out.size
            go_upto_region 12 with (refine wpList_append_at (K := KS) rfl (.tmp 46) (.tmp 47) 48 rfl Try.underlying48 w.heap.size rfl HOE.out _ _ rfl HK.out hn1 hbs ?_; intro vo w2 hown2 hbb2)
            rw [List.nil_append] at hown2
            have HB2 := Lib.hid (HBA.out.trans hbb2)
            obtain ⟨ao, capo, rfl, hcapo⟩ := hown2.reads.form
            have HO := Lib.hid hown2
            clear hown2 hbb2 HB HK hn1 hbs HBA hba HOE
            go_wp2_with fail
            go_loopw [51] (fun iv wr => ∃ (i : Nat) (O : List ByteArray), i ≤ M.length ∧ O.Perm L ∧ iv = .int .i64 i ∧ KS.Own w.heap.size (.slice ao L.length capo) O wr ∧ Below w.heap.size w wr) (fun iv _ => M.length - (intOf iv).toNat)
            case atStart => exact ⟨0, L, Nat.zero_le _, List.Perm.refl _, rfl, HO.out, HB2.out⟩
            case round =>
              obtain ⟨i, O, hi2, hO, rfl, hown, hb⟩ := hrel
              have HB := Lib.hid hb
              have HOW := Lib.hid hown
              have HP := Lib.hid hO
              by_cases hlt2 : i < M.length
              · obtain ⟨g, o, cap', hav, _, hr⟩ := (HM.out.kept hb).some (by omega)
                have hx := List.getElem?_eq_getElem hlt2
                obtain ⟨z, hzz⟩ : ∃ x, M[i] = x := ⟨_, rfl⟩
                rw [hzz] at hx
                have cz := num_cell hr hx
                injection hav with hav1 _ hav2
                subst hav1 hav2
                have hlti2 : (i : Int) < (M.length : Int) := by omega
                clear hzz hr hx hb hown hO
                by_cases qz : 0 ≤ z
                · obtain ⟨k, rfl⟩ : ∃ k : Nat, z = (k : Int) := ⟨z.toNat, by omega⟩
                  by_cases qL : 0 < L.length
                  · have qLi : 0 < (L.length : Int) := by omega
                    obtain ⟨gq, rfl, hgq⟩ : ∃ gq, ao = some ⟨gq, 0, none⟩ ∧ w.heap.size ≤ gq := by
                      rcases HOW.out.form with ⟨_, h0⟩ | ⟨g, cap, h, hB, _, _⟩
                      · have := HP.out.length_eq
                        rw [h0] at this
                        simp at this
                        omega
                      · injection h with h _ _
                        exact ⟨g, h, hB⟩
                    have hia : i % L.length < L.length := Nat.mod_lt _ qL
                    have hib : k % L.length < L.length := Nat.mod_lt _ qL
                    have hrA : (i : Int).tmod (L.length : Int) = ((i % L.length : Nat) : Int) := rfl
                    have hrB : (k : Int).tmod (L.length : Int) = ((k % L.length : Nat) : Int) := rfl
                    generalize i % L.length = ia at hia hrA
                    generalize k % L.length = ib at hib hrB
                    have hL0 : ¬ ((L.length : Int) = 0) := by omega
                    have hLn : ¬ L = [] := fun h => by rw [h] at qL; simp at qL
                    have hwA : IntKind.i64.wrap (ia : Int) = (ia : Int) := IntWalk.i64_in _ ⟨by omega, by omega⟩
                    have hwB : IntKind.i64.wrap (ib : Int) = (ib : Int) := IntWalk.i64_in _ ⟨by omega, by omega⟩
                    go_upto_region 16 with (fail)
                    refine QT.wp_region_facts (by kernel_rfl) (fun w' => Below wr.heap.size wr w') (fun n v w' => (([.val (.int .i64 (i : Int)), .val (.slice (some ⟨gq, 0, none⟩) L.length capo), .val (.int .i64 (L.length : Int)), .val (.int .i64 (ia : Int)), .val (.int .i64 (k : Int)), .val (.slice (some ⟨gq, 0, none⟩) L.length capo), .val (.int .i64 (L.length : Int)), .val (.int .i64 (ib : Int)), .val (.int .i64 (ia : Int)), .val (.int .i64 (ib : Int))] : List FactP).getD n (.val undef) : FactP).holds v w') (by kernel_rfl) (by kernel_rfl) (Below.refl _ _).drew (fun w1 w2 h1 hb => h1.trans (hb.mono h1.size)) (fun n v w1 w2 h hb => FactP.kept _ v w1 w2 h hb) (fun n o ho a wz hI hag hdep => ?_) (fun a wz hI hag hf => ?_)
                    · have t8 : a.eval (.tmp 8) = .slice (some ⟨gq, 0, none⟩) L.length capo := hag.old 8 _ (by kernel_rfl) rfl
                      have t9 : a.eval (.tmp 9) = .int .i64 (i : Int) := hag.old 9 _ (by kernel_rfl) rfl
                      have t10 : a.eval (.tmp 10) = .int .i64 (k : Int) := hag.old 10 _ (by kernel_rfl) rfl
                      match n, ho with
                      | 0, ho =>
                        obtain rfl := (Option.some.inj ho).symm
                        exact ⟨rfl, QT.wp_value (BigFrame.run_move (.tmp 9) rfl wz) ⟨_, rfl, t9, Below.refl _ _⟩⟩
                      | 1, ho =>
                        obtain rfl := (Option.some.inj ho).symm
                        exact ⟨rfl, QT.wp_value (BigFrame.run_move (.tmp 8) rfl wz) ⟨_, rfl, t8, Below.refl _ _⟩⟩
                      | 2, ho =>
                        obtain rfl := (Option.some.inj ho).symm
                        have d64 : a.eval (.tmp 64) = .slice (some ⟨gq, 0, none⟩) L.length capo := hdep _ (Array.mem_of_getElem? (i := 0) rfl) rfl _ _ rfl rfl
                        exact ⟨rfl, QT.wp_value (v := .int .i64 (L.length : Int)) (by simp [go_sem, QT.nf d64]) ⟨_, rfl, rfl, Below.refl _ _⟩⟩
                      | 3, ho =>
                        obtain rfl := (Option.some.inj ho).symm
                        have d63 : a.eval (.tmp 63) = .int .i64 (i : Int) := hdep _ (Array.mem_of_getElem? (i := 0) rfl) rfl _ _ rfl rfl
                        have d65 : a.eval (.tmp 65) = .int .i64 (L.length : Int) := hdep _ (Array.mem_of_getElem? (i := 1) rfl) rfl _ _ rfl rfl
                        exact ⟨rfl, QT.wp_value (v := .int .i64 (ia : Int)) (by simp [go_sem, QT.nf d63, QT.nf d65, hLn, hrA]) ⟨_, rfl, rfl, Below.refl _ _⟩⟩
                      | 4, ho =>
                        obtain rfl := (Option.some.inj ho).symm
                        exact ⟨rfl, QT.wp_value (BigFrame.run_move (.tmp 10) rfl wz) ⟨_, rfl, t10, Below.refl _ _⟩⟩
                      | 5, ho =>
                        obtain rfl := (Option.some.inj ho).symm
                        exact ⟨rfl, QT.wp_value (BigFrame.run_move (.tmp 8) rfl wz) ⟨_, rfl, t8, Below.refl _ _⟩⟩
                      | 6, ho =>
                        obtain rfl := (Option.some.inj ho).symm
                        have d68 : a.eval (.tmp 68) = .slice (some ⟨gq, 0, none⟩) L.length capo := hdep _ (Array.mem_of_getElem? (i := 0) rfl) rfl _ _ rfl rfl
                        exact ⟨rfl, QT.wp_value (v := .int .i64 (L.length : Int)) (by simp [go_sem, QT.nf d68]) ⟨_, rfl, rfl, Below.refl _ _⟩⟩
                      | 7, ho =>
                        obtain rfl := (Option.some.inj ho).symm
                        have d67 : a.eval (.tmp 67) = .int .i64 (k : Int) := hdep _ (Array.mem_of_getElem? (i := 0) rfl) rfl _ _ rfl rfl
                        have d69 : a.eval (.tmp 69) = .int .i64 (L.length : Int) := hdep _ (Array.mem_of_getElem? (i := 1) rfl) rfl _ _ rfl rfl
                        exact ⟨rfl, QT.wp_value (v := .int .i64 (ib : Int)) (by simp [go_sem, QT.nf d67, QT.nf d69, hLn, hrB]) ⟨_, rfl, rfl, Below.refl _ _⟩⟩
                      | 8, ho =>
                        obtain rfl := (Option.some.inj ho).symm
                        have d66 : a.eval (.tmp 66) = .int .i64 (ia : Int) := hdep _ (Array.mem_of_getElem? (i := 0) rfl) rfl _ _ rfl rfl
                        exact ⟨rfl, QT.wp_value (BigFrame.run_assign (.tmp 66) rfl wz) ⟨_, rfl, d66, Below.refl _ _⟩⟩
                      | 9, ho =>
                        obtain rfl := (Option.some.inj ho).symm
                        have d70 : a.eval (.tmp 70) = .int .i64 (ib : Int) := hdep _ (Array.mem_of_getElem? (i := 0) rfl) rfl _ _ rfl rfl
                        exact ⟨rfl, QT.wp_value (BigFrame.run_assign (.tmp 70) rfl wz) ⟨_, rfl, d70, Below.refl _ _⟩⟩
                      | n + 10, ho => simp at ho
                    · have f0 : a.eval (.tmp 63) = .int .i64 (i : Int) := hf 0 _ _ rfl rfl
                      have f1 : a.eval (.tmp 64) = .slice (some ⟨gq, 0, none⟩) L.length capo := hf 1 _ _ rfl rfl
                      have f2 : a.eval (.tmp 65) = .int .i64 (L.length : Int) := hf 2 _ _ rfl rfl
                      have f3 : a.eval (.tmp 66) = .int .i64 (ia : Int) := hf 3 _ _ rfl rfl
                      have f4 : a.eval (.tmp 67) = .int .i64 (k : Int) := hf 4 _ _ rfl rfl
                      have f5 : a.eval (.tmp 68) = .slice (some ⟨gq, 0, none⟩) L.length capo := hf 5 _ _ rfl rfl
                      have f6 : a.eval (.tmp 69) = .int .i64 (L.length : Int) := hf 6 _ _ rfl rfl
                      have f7 : a.eval (.tmp 70) = .int .i64 (ib : Int) := hf 7 _ _ rfl rfl
                      have f8 : a.eval (.tmp 11) = .int .i64 (ia : Int) := hf 8 _ _ rfl rfl
                      have f9 : a.eval (.tmp 12) = .int .i64 (ib : Int) := hf 9 _ _ rfl rfl
                      have ha := hag.puts [(63, .int .i64 (i : Int)), (64, .slice (some ⟨gq, 0, none⟩) L.length capo), (65, .int .i64 (L.length : Int)), (66, .int .i64 (ia : Int)), (67, .int .i64 (k : Int)), (68, .slice (some ⟨gq, 0, none⟩) L.length capo), (69, .int .i64 (L.length : Int)), (70, .int .i64 (ib : Int)), (11, .int .i64 (ia : Int)), (12, .int .i64 (ib : Int))] rfl (by simp) (by simp only [List.forall_mem_cons, List.not_mem_nil, false_implies, implies_true, and_true]; exact ⟨f0, f1, f2, f3, f4, f5, f6, f7, f8, f9⟩)
                      subst ha
                      clear hag hf f0 f1 f2 f3 f4 f5 f6 f7 f8 f9
                      simp only [List.foldl_cons, List.foldl_nil, Act.put, List.setIfInBounds_toArray, List.set_cons_succ, List.set_cons_zero]
                      rename World => W1
                      have HB1 := Lib.hid (HB.out.trans (hI.mono HB.out.size))
                      have HO1 := Lib.hid (HOW.out.kept hI)
                      have hlo : O.length = L.length := HP.out.length_eq
                      have hxa := List.getElem?_eq_getElem (show ia < O.length by omega)
                      have hxb := List.getElem?_eq_getElem (show ib < O.length by omega)
                      obtain ⟨xa, hxae⟩ : ∃ x, O[ia] = x := ⟨_, rfl⟩
                      obtain ⟨xb, hxbe⟩ : ∃ x, O[ib] = x := ⟨_, rfl⟩
                      rw [hxae] at hxa
                      rw [hxbe] at hxb
                      have hkA : ia < capo := by omega
                      have hkB : ib < capo := by omega
                      clear hxae hxbe hI cz hrA hrB hwA hwB HB
                      go_upto_region 17 with (fail)
                      refine (wpIn_wide (n := 4)).1 (QT.wpIn_region_stores [13, 15] swC swU (swV gq L.length capo ia ib xa xb) (fun r w' => w' = swW { W1 with drawn := W1.drawn + 1 } gq ia ib xa xb r.length) (by kernel_rfl) (fun _ => trivial) (by kernel_rfl) (by kernel_rfl) (by kernel_rfl) (fun i r x h => swV_snoc _ _ _ _ _ _ _ i r x h) (fun k i r x hk hr => ?_) rfl (fun n o hn ho r a wz hc hu hw hag hdep => ?_) (fun k n o hk ho r a wz hr hw hag hdep => ?_) (fun r a wz hr hw hag hf => ?_))
                      · match k, hk with
                        | 0, hk =>
                          obtain rfl := (Option.some.inj hk).symm
                          exact lastD hr
                        | 1, hk =>
                          obtain rfl := (Option.some.inj hk).symm
                          exact lastD hr
                        | k + 2, hk => simp at hk
                      · have t8 : a.eval (.tmp 8) = .slice (some ⟨gq, 0, none⟩) L.length capo := hag.old 8 _ (by kernel_rfl) rfl
                        have t11 : a.eval (.tmp 11) = .int .i64 (ia : Int) := hag.old 11 _ (by kernel_rfl) rfl
                        have t12 : a.eval (.tmp 12) = .int .i64 (ib : Int) := hag.old 12 _ (by kernel_rfl) rfl
                        match n, ho with
                        | 0, ho =>
                          obtain rfl := (Option.some.inj ho).symm
                          exact Or.inl ⟨rfl, wpIn_val (v := .slice (some ⟨gq, 0, none⟩) L.length capo) (by simp [go_sem, QT.nf t8]) ⟨rfl, hw⟩⟩
                        | 1, ho =>
                          obtain rfl := (Option.some.inj ho).symm
                          exact Or.inl ⟨rfl, wpIn_val (v := .int .i64 (ia : Int)) (by simp [go_sem, QT.nf t11]) ⟨rfl, hw⟩⟩
                        | 2, ho =>
                          obtain rfl := (Option.some.inj ho).symm
                          exact Or.inl ⟨rfl, wpIn_val (v := .slice (some ⟨gq, 0, none⟩) L.length capo) (by simp [go_sem, QT.nf t8]) ⟨rfl, hw⟩⟩
                        | 3, ho =>
                          obtain rfl := (Option.some.inj ho).symm
                          exact Or.inl ⟨rfl, wpIn_val (v := .int .i64 (ib : Int)) (by simp [go_sem, QT.nf t12]) ⟨rfl, hw⟩⟩
                        | 4, ho =>
                          obtain rfl := (Option.some.inj ho).symm
                          exact Or.inl ⟨rfl, wpIn_val (v := .slice (some ⟨gq, 0, none⟩) L.length capo) (by simp [go_sem, QT.nf t8]) ⟨rfl, hw⟩⟩
                        | 5, ho =>
                          obtain rfl := (Option.some.inj ho).symm
                          exact Or.inl ⟨rfl, wpIn_val (v := .int .i64 (ib : Int)) (by simp [go_sem, QT.nf t12]) ⟨rfl, hw⟩⟩
                        | 6, ho =>
                          obtain rfl := (Option.some.inj ho).symm
                          have d75 : a.eval (.tmp 75) = .slice (some ⟨gq, 0, none⟩) L.length capo := hdep _ (Array.mem_of_getElem? (i := 0) rfl) rfl _ _ rfl rfl
                          have d76 : a.eval (.tmp 76) = .int .i64 (ib : Int) := hdep _ (Array.mem_of_getElem? (i := 1) rfl) rfl _ _ rfl rfl
                          exact Or.inl ⟨rfl, wpIn_val (v := .pointer (some ⟨gq, ib, none⟩)) (by simp [go_sem, QT.nf d75, QT.nf d76, hib]) ⟨rfl, hw⟩⟩
                        | 7, ho =>
                          obtain rfl := (Option.some.inj ho).symm
                          have d77 : a.eval (.tmp 77) = .pointer (some ⟨gq, ib, none⟩) := hdep _ (Array.mem_of_getElem? (i := 0) rfl) rfl _ _ rfl rfl
                          obtain rfl : r = [] := List.eq_nil_of_length_eq_zero (Nat.le_zero.1 hu)
                          have hce : wz.cell? ⟨gq, ib, none⟩ = some (.string xb) := by rw [hw]; exact own_cell HO1.out hlo hxb
                          exact Or.inl ⟨rfl, wpIn_val (v := .string xb) (by simp [go_sem, QT.nf d77, hce]) ⟨rfl, hw⟩⟩
                        | 8, ho =>
                          obtain rfl := (Option.some.inj ho).symm
                          exact Or.inl ⟨rfl, wpIn_val (v := .slice (some ⟨gq, 0, none⟩) L.length capo) (by simp [go_sem, QT.nf t8]) ⟨rfl, hw⟩⟩
                        | 9, ho =>
                          obtain rfl := (Option.some.inj ho).symm
                          exact Or.inl ⟨rfl, wpIn_val (v := .int .i64 (ia : Int)) (by simp [go_sem, QT.nf t11]) ⟨rfl, hw⟩⟩
                        | 10, ho =>
                          obtain rfl := (Option.some.inj ho).symm
                          have d79 : a.eval (.tmp 79) = .slice (some ⟨gq, 0, none⟩) L.length capo := hdep _ (Array.mem_of_getElem? (i := 0) rfl) rfl _ _ rfl rfl
                          have d80 : a.eval (.tmp 80) = .int .i64 (ia : Int) := hdep _ (Array.mem_of_getElem? (i := 1) rfl) rfl _ _ rfl rfl
                          exact Or.inl ⟨rfl, wpIn_val (v := .pointer (some ⟨gq, ia, none⟩)) (by simp [go_sem, QT.nf d79, QT.nf d80, hia]) ⟨rfl, hw⟩⟩
                        | 11, ho =>
                          obtain rfl := (Option.some.inj ho).symm
                          have d81 : a.eval (.tmp 81) = .pointer (some ⟨gq, ia, none⟩) := hdep _ (Array.mem_of_getElem? (i := 0) rfl) rfl _ _ rfl rfl
                          obtain rfl : r = [] := List.eq_nil_of_length_eq_zero (Nat.le_zero.1 hu)
                          have hce : wz.cell? ⟨gq, ia, none⟩ = some (.string xa) := by rw [hw]; exact own_cell HO1.out hlo hxa
                          exact Or.inl ⟨rfl, wpIn_val (v := .string xa) (by simp [go_sem, QT.nf d81, hce]) ⟨rfl, hw⟩⟩
                        | 12, ho =>
                          obtain rfl := (Option.some.inj ho).symm
                          have d71 : a.eval (.tmp 71) = .slice (some ⟨gq, 0, none⟩) L.length capo := hdep _ (Array.mem_of_getElem? (i := 0) rfl) rfl _ _ rfl rfl
                          have d72 : a.eval (.tmp 72) = .int .i64 (ia : Int) := hdep _ (Array.mem_of_getElem? (i := 1) rfl) rfl _ _ rfl rfl
                          exact Or.inl ⟨rfl, wpIn_val (v := .pointer (some ⟨gq, ia, none⟩)) (by simp [go_sem, QT.nf d71, QT.nf d72, hia]) ⟨rfl, hw⟩⟩
                        | 13, ho =>
                          exact absurd (by simp) hn
                        | 14, ho =>
                          obtain rfl := (Option.some.inj ho).symm
                          have d73 : a.eval (.tmp 73) = .slice (some ⟨gq, 0, none⟩) L.length capo := hdep _ (Array.mem_of_getElem? (i := 0) rfl) rfl _ _ rfl rfl
                          have d74 : a.eval (.tmp 74) = .int .i64 (ib : Int) := hdep _ (Array.mem_of_getElem? (i := 1) rfl) rfl _ _ rfl rfl
                          exact Or.inl ⟨rfl, wpIn_val (v := .pointer (some ⟨gq, ib, none⟩)) (by simp [go_sem, QT.nf d73, QT.nf d74, hib]) ⟨rfl, hw⟩⟩
                        | 15, ho =>
                          exact absurd (by simp) hn
                        | n + 16, ho => simp at ho
                      · match k, hk with
                        | 0, hk =>
                          obtain rfl := (Option.some.inj hk).symm
                          obtain rfl := (Option.some.inj ho).symm
                          have d83 : a.eval (.tmp 83) = .pointer (some ⟨gq, ia, none⟩) := hdep _ (Array.mem_of_getElem? (i := 0) rfl) rfl _ _ rfl rfl
                          have d78 : a.eval (.tmp 78) = .string xb := hdep _ (Array.mem_of_getElem? (i := 1) rfl) rfl _ _ rfl rfl
                          have hOw : ∃ N : List ByteArray, N.length = L.length ∧ KS.Own w.heap.size (.slice (some ⟨gq, 0, none⟩) L.length capo) N wz := by
                            rw [hw, hr]
                            exact ⟨O, hlo, HO1.out⟩
                          obtain ⟨N, hNl, hNo⟩ := hOw
                          have hce := own_cell hNo hNl (List.getElem?_eq_getElem (show ia < N.length by omega))
                          have hfr := own_frozen hNo hNl ia
                          have hrun : wz.setCell ⟨gq, ia, none⟩ (.string xb) = swW { W1 with drawn := W1.drawn + 1 } gq ia ib xa xb 1 := by
                            rw [hw, hr]
                            rfl
                          refine Or.inl ⟨rfl, wpIn_skip (w' := wz.setCell ⟨gq, ia, none⟩ (.string xb)) (by simp [go_sem, QT.nf d83, QT.nf d78, hce, hfr]) ⟨undef, rfl, ?_⟩⟩
                          rw [List.length_append, List.length_singleton, hr]
                          exact hrun
                        | 1, hk =>
                          obtain rfl := (Option.some.inj hk).symm
                          obtain rfl := (Option.some.inj ho).symm
                          have d84 : a.eval (.tmp 84) = .pointer (some ⟨gq, ib, none⟩) := hdep _ (Array.mem_of_getElem? (i := 0) rfl) rfl _ _ rfl rfl
                          have d82 : a.eval (.tmp 82) = .string xa := hdep _ (Array.mem_of_getElem? (i := 1) rfl) rfl _ _ rfl rfl
                          have hOw : ∃ N : List ByteArray, N.length = L.length ∧ KS.Own w.heap.size (.slice (some ⟨gq, 0, none⟩) L.length capo) N wz := by
                            rw [hw, hr]
                            refine ⟨O.set ia xb, by simpa using hlo, ?_⟩
                            have hod : KS.Own w.heap.size (.slice (some ⟨gq, 0, none⟩) L.length capo) O { W1 with drawn := W1.drawn + 1 } := HO1.out
                            exact own_set hod hlo ia xb
                          obtain ⟨N, hNl, hNo⟩ := hOw
                          have hce := own_cell hNo hNl (List.getElem?_eq_getElem (show ib < N.length by omega))
                          have hfr := own_frozen hNo hNl ib
                          have hrun : wz.setCell ⟨gq, ib, none⟩ (.string xa) = swW { W1 with drawn := W1.drawn + 1 } gq ia ib xa xb 2 := by
                            rw [hw, hr]
                            rfl
                          refine Or.inl ⟨rfl, wpIn_skip (w' := wz.setCell ⟨gq, ib, none⟩ (.string xa)) (by simp [go_sem, QT.nf d84, QT.nf d82, hce, hfr]) ⟨undef, rfl, ?_⟩⟩
                          rw [List.length_append, List.length_singleton, hr]
                          exact hrun
                        | k + 2, hk => simp at hk
                      · have hw2 : wz = _ := hw
                        rw [hr] at hw2
                        have f0 : a.eval (.tmp 71) = .slice (some ⟨gq, 0, none⟩) L.length capo := hf 0 _ _ rfl rfl
                        have f1 : a.eval (.tmp 72) = .int .i64 (ia : Int) := hf 1 _ _ rfl rfl
                        have f2 : a.eval (.tmp 73) = .slice (some ⟨gq, 0, none⟩) L.length capo := hf 2 _ _ rfl rfl
                        have f3 : a.eval (.tmp 74) = .int .i64 (ib : Int) := hf 3 _ _ rfl rfl
                        have f4 : a.eval (.tmp 75) = .slice (some ⟨gq, 0, none⟩) L.length capo := hf 4 _ _ rfl rfl
                        have f5 : a.eval (.tmp 76) = .int .i64 (ib : Int) := hf 5 _ _ rfl rfl
                        have f6 : a.eval (.tmp 77) = .pointer (some ⟨gq, ib, none⟩) := hf 6 _ _ rfl rfl
                        have f7 : a.eval (.tmp 78) = .string xb := hf 7 _ _ rfl rfl
                        have f8 : a.eval (.tmp 79) = .slice (some ⟨gq, 0, none⟩) L.length capo := hf 8 _ _ rfl rfl
                        have f9 : a.eval (.tmp 80) = .int .i64 (ia : Int) := hf 9 _ _ rfl rfl
                        have f10 : a.eval (.tmp 81) = .pointer (some ⟨gq, ia, none⟩) := hf 10 _ _ rfl rfl
                        have f11 : a.eval (.tmp 82) = .string xa := hf 11 _ _ rfl rfl
                        have f12 : a.eval (.tmp 83) = .pointer (some ⟨gq, ia, none⟩) := hf 12 _ _ rfl rfl
                        have f14 : a.eval (.tmp 84) = .pointer (some ⟨gq, ib, none⟩) := hf 14 _ _ rfl rfl
                        have ha := hag.putsN [(71, .slice (some ⟨gq, 0, none⟩) L.length capo), (72, .int .i64 (ia : Int)), (73, .slice (some ⟨gq, 0, none⟩) L.length capo), (74, .int .i64 (ib : Int)), (75, .slice (some ⟨gq, 0, none⟩) L.length capo), (76, .int .i64 (ib : Int)), (77, .pointer (some ⟨gq, ib, none⟩)), (78, .string xb), (79, .slice (some ⟨gq, 0, none⟩) L.length capo), (80, .int .i64 (ia : Int)), (81, .pointer (some ⟨gq, ia, none⟩)), (82, .string xa), (83, .pointer (some ⟨gq, ia, none⟩)), (84, .pointer (some ⟨gq, ib, none⟩))] rfl (by simp) (by simp only [List.forall_mem_cons, List.not_mem_nil, false_implies, implies_true, and_true]; exact ⟨f0, f1, f2, f3, f4, f5, f6, f7, f8, f9, f10, f11, f12, f14⟩)
                        subst ha
                        clear hag hf f0 f1 f2 f3 f4 f5 f6 f7 f8 f9 f10 f11 f12 f14
                        simp only [List.foldl_cons, List.foldl_nil, Act.put, List.setIfInBounds_toArray, List.set_cons_succ, List.set_cons_zero]
                        have HO2 : Hid (KS.Own w.heap.size (.slice (some ⟨gq, 0, none⟩) L.length capo) (swapL O ia ib xa xb) wz) := Lib.hid (by rw [hw2]; exact own_swap HO1.out hlo ia ib xa xb)
                        have HB2 : Hid (Below w.heap.size w wz) := Lib.hid (by rw [hw2]; exact ((HB1.out.drew).setCell (p := ⟨gq, ia, none⟩) hgq _).setCell (p := ⟨gq, ib, none⟩) hgq _)
                        have HP2 := Lib.hid ((swap_perm hxa hxb).trans HP.out)
                        clear hw2 hw hr HO1 HB1 HOW HP hxa hxb
                        go_wp2_with fail
                        go_roundw
                        case rel => exact ⟨i + 1, swapL O ia ib xa xb, by omega, HP2.out, by go_num, HO2.out, HB2.out⟩
                        case measure => simp [intOf]; omega
                  · have qLi : ¬ (0 < (L.length : Int)) := by omega
                    go_wp2_with fail
                    go_roundw
                    case rel => exact ⟨i + 1, O, by omega, HP.out, by go_num, HOW.out, HB.out⟩
                    case measure => simp [intOf]; omega
                · have qzi : ¬ (z ≥ 0) := by omega
                  go_wp2_with fail
                  go_roundw
                  case rel => exact ⟨i + 1, O, by omega, HP.out, by go_num, HOW.out, HB.out⟩
                  case measure => simp [intOf]; omega
              · obtain rfl : i = M.length := by omega
                have hlti2 : ¬ ((M.length : Int) < (M.length : Int)) := by omega
                clear hb hown hO HO HB2 HM
                have hof := HOW.out.form
                have HOA := Lib.hid HOW.out.reads
                have HOL := Lib.hid (fun j (hj : (Value.slice ao L.length capo).ownBlock = some j) => show j < wr.heap.size by
                  rcases hof with ⟨h, _⟩ | ⟨g, cap, h, _, hlt, _⟩
                  · rw [h] at hj
                    simp [Value.ownBlock] at hj
                  · rw [h] at hj
                    simp [Value.ownBlock] at hj
                    omega)
                clear hof HOW
                go_wp2_with fail
                refine (HN.out _).mono ?_
                rintro e w3 ⟨S0, rfl, hS0, hb3⟩
                have HR0 := Lib.hid hS0.row
                have HS0 := Lib.hid hS0
                have HB3 := Lib.hid (HB.out.trans (hb3.mono HB.out.size))
                have HOA3 := Lib.hid (HOA.out.kept hb3)
                have HOL3 := Lib.hid (fun j hj => Nat.lt_of_lt_of_le (HOL.out j hj) hb3.size)
                clear hS0 hb3 HB HOA HOL
                go_wp2_with fail
                refine (HN.out _).mono ?_
                rintro e w4 ⟨T0, rfl, hT0, hb4⟩
                have HR1 := Lib.hid hT0.row
                have HS04 := Lib.hid (HS0.out.below hb4 hb4.size)
                have HT0 := Lib.hid hT0
                have HB4 := Lib.hid (HB3.out.trans (hb4.mono HB3.out.size))
                have HOA4 := Lib.hid (HOA3.out.kept hb4)
                have HOL4 := Lib.hid (fun j hj => Nat.lt_of_lt_of_le (HOL3.out j hj) hb4.size)
                clear hT0 hb4 HB3 HOA3 HOL3 HS0 HN
                have HI0 : Hid (OneI w w4.heap.size (w4.heap.size + 1) [] [] [] S0 T0 (.slice none 0 0) (.slice ao L.length capo) O ((((w4.alloc (.cells zeroS 24)).alloc (.cells zeroS 24)).setRow w4.heap.size S0).setRow (w4.heap.size + 1) T0)) := by
                  have hb5 : Below w4.heap.size w4 ((w4.alloc (.cells zeroS 24)).alloc (.cells zeroS 24)) := ((Below.refl _ _).alloc (Nat.le_refl _) _).alloc (by simp) _
                  have ha := heap_alloc2_old w4 (.cells zeroS 24) (.cells zeroS 24)
                  have hb := heap_alloc2_new w4 (.cells zeroS 24) (.cells zeroS 24)
                  have ha2 := setRow_heap _ _ _ S0 _ _ ha
                  have hb6 := below_setRow (below_setRow hb5 (Nat.le_refl _) S0) (Nat.le_succ _) T0
                  have hb2 := (setRow_other ((w4.alloc (.cells zeroS 24)).alloc (.cells zeroS 24)) w4.heap.size (w4.heap.size + 1) S0 (by omega)).trans hb
                  refine Lib.hid ⟨?_, setRow_heap _ _ _ _ _ _ hb2, HS04.out.below hb6 hb6.size, HT0.out.below hb6 hb6.size, Kind.At.nil _ _, fun j hj => by simp [Value.ownBlock] at hj, HOA4.out.kept hb6, fun j hj => ?_, HB4.out.trans (hb6.mono HB4.out.size)⟩
                  · rw [setRow_other _ _ _ _ (by omega)]
                    exact ha2
                  · have := HOL4.out j hj
                    omega
                have HBB := Lib.hid (show w.heap.size ≤ w4.heap.size ∧ w.heap.size ≤ w4.heap.size + 1 ∧ w4.heap.size ≠ w4.heap.size + 1 by have := HB4.out.size; omega)
                clear HOA4 HOL4 HB4 HS04 HT0
                go_upto_region 20 with (first
                  | (refine wpList_store_row rfl 24 (.tmp 13) (.tmp 86) rfl w4.heap.size S0 rfl rfl 24 zeroS (heap_alloc2_old _ _ _) HR0.out.info HR0.out.size.symm HR0.out.one ?_)
                  | (refine wpList_store_row rfl 24 (.tmp 14) (.tmp 87) rfl (w4.heap.size + 1) T0 rfl rfl 24 zeroS ((setRow_other _ _ _ _ (Nat.succ_ne_self _)).trans (heap_alloc2_new _ _ _)) HR1.out.info HR1.out.size.symm HR1.out.one ?_))
                generalize (((w4.alloc (.cells zeroS 24)).alloc (.cells zeroS 24)).setRow w4.heap.size S0).setRow (w4.heap.size + 1) T0 = w5 at HI0 ⊢
                obtain ⟨gb, hgb⟩ : ∃ x, w4.heap.size + 1 = x := ⟨_, rfl⟩
                rw [hgb] at HI0 HBB
                rw [hgb]
                generalize w4.heap.size = ga at HI0 HBB hgb ⊢
                clear hgb HR0 HR1
                go_wp2_with fail
                go_loopw [15, 90] (fun lv iv wr => ∃ (i : Nat) (S T : Array Value), i ≤ L.length ∧ iv = .int .i64 i ∧ OneI w ga gb (putK [] (L.take i)) (putK [] (O.take i)) (putK [] (L.take i)) S T lv (.slice ao L.length capo) O wr) (fun _ iv _ => L.length - (intOf iv).toNat)
                case atStart => exact ⟨0, S0, T0, Nat.zero_le _, rfl, HI0.out⟩
                case round =>
                  clear HI0
                  obtain ⟨i, S, T, hi3, rfl, hE⟩ := hrel
                  have HE := Lib.hid hE
                  have HR := Lib.hid hE.sa.row
                  have HRT := Lib.hid hE.sb.row
                  have hlo : O.length = L.length := HP.out.length_eq
                  by_cases hlt3 : i < L.length
                  · have hlti3 : (i : Int) < (L.length : Int) := by omega
                    obtain ⟨g, o, cap', hav, _, hr⟩ := (HT.out.kept hE.below).some (by omega)
                    have hx := List.getElem?_eq_getElem hlt3
                    obtain ⟨x, hxx⟩ : ∃ x, L[i] = x := ⟨_, rfl⟩
                    rw [hxx] at hx
                    have cx := text_cell hr hx
                    injection hav with hav1 _ hav2
                    subst hav1 hav2
                    obtain ⟨gq, oq, capq, haq, _, hrq⟩ := hE.other.some (by omega)
                    injection haq with haq1 haqn haq2
                    subst haq1 haq2
                    clear haqn
                    have hy := List.getElem?_eq_getElem (show i < O.length by omega)
                    obtain ⟨y, hyy⟩ : ∃ x, O[i] = x := ⟨_, rfl⟩
                    rw [hyy] at hy
                    have hxsz := HXS.out x (List.mem_of_getElem? hx)
                    have hysz := HXS.out y (HP.out.mem_iff.1 (List.mem_of_getElem? hy))
                    have hwx : IntKind.u64.wrap (x.size : Int) = (x.size : Int) := IntWalk.u64_in _ ⟨by omega, by omega⟩
                    have hwy : IntKind.u64.wrap (y.size : Int) = (y.size : Int) := IntWalk.u64_in _ ⟨by omega, by omega⟩
                    have hl1 := putK_step [] (L.take i) x
                    rw [← take_step hx] at hl1
                    have hm1 := putK_step [] (O.take i) y
                    rw [← take_step hy] at hm1
                    have hll := putK_len (L.take i) []
                    have hml := putK_len (O.take i) []
                    rw [List.length_take] at hll hml
                    rw [List.length_nil] at hll hml
                    generalize putK [] (L.take i) = l at hE HE hl1 hll
                    generalize putK [] (O.take i) = m at hE HE hm1 hml
                    have HL1 := Lib.hid hl1
                    have HM1 := Lib.hid hm1
                    have HLE := Lib.hid (show l.length ≤ 200 ∧ m.length ≤ 200 by omega)
                    obtain ⟨ma, mcap, rfl, hmc⟩ := hE.list.form
                    have HY := Lib.hid hy
                    have HEI := Lib.hid (fun (w' : World) (h : Below wr.heap.size wr w') => HE.out.kept h)
                    have HA := Lib.hid hE.a
                    clear hxx hx hr hyy hy hrq hl1 hm1 hll hml hE hxsz hysz
                    go_wp2_with (refine wpList_load_row rfl 24 (.tmp 13) rfl ga rfl 24 S (0, 0) _ HA.out Try.underlying24 rfl HR.out.info ?_)
                    refine (code_PutB S l x x.size _ HE.out.sa (by have := HLE.out; omega)).mono ?_
                    rintro e w6 ⟨_, rfl, ⟨S', rfl, hS'⟩, hb6⟩
                    have HS' := Lib.hid hS'
                    have HB6 := Lib.hid hb6
                    clear hS' hb6
                    go_wp2_with fail
                    refine (ref_PutB _ l x x.size wr.heap.size w6 (HEI.out w6 HB6.out).list (by have := HLE.out; omega) HB6.out.size).mono ?_
                    rintro e w7 ⟨v', rfl, ⟨hv', hvo'⟩, hb7⟩
                    have HB7 := Lib.hid (HB6.out.trans (hb7.mono HB6.out.size))
                    have hE7 := HEI.out w7 HB7.out
                    have hS7 := HS'.out.below hb7 hb7.size
                    have hR7 := hS7.row
                    have hf7 : ∀ j, v'.ownBlock = some j → j ≠ ga ∧ j ≠ gb := fun j hj => by
                      have h1 := hvo' j hj
                      have h2 := (Array.getElem?_eq_some_iff.1 HE.out.a).1
                      have h3 := (Array.getElem?_eq_some_iff.1 HE.out.b).1
                      omega
                    have hE8 := hE7.stepA HBB.out.2.2 HBB.out.1 hS7 hv' hf7
                    have hsz : S.size = S'.size := by rw [HR.out.size, hR7.size]
                    have HR7 := Lib.hid hR7
                    have HA7 := Lib.hid hE7.a
                    have HE8 := Lib.hid hE8
                    clear hv' hvo' hb7 hE7 hS7 hR7 hf7 hE8 HE HEI HS' HB6 HA cx HB7
                    go_upto_region 25 with (refine wpList_store_row rfl 24 (.tmp 13) (.tmp 100) rfl ga S' rfl rfl 24 S HA7.out HR7.out.info hsz HR7.out.one ?_)
                    generalize w7.setRow ga S' = w8 at HE8 ⊢
                    have HB8 := Lib.hid HE8.out.b
                    have HBL := Lib.hid ((Array.getElem?_eq_some_iff.1 HB8.out).1)
                    have hkq : i < capo := by omega
                    clear HA7 HR7
                    refine QT.wp_region_facts_tail 12 (by kernel_rfl) (fun w' => Below w8.heap.size w8 w') (fun n v w' => (([.val (.agg T), .val (.slice (some ⟨gq, oq, none⟩) L.length capo), .val (.int .i64 (i : Int)), .val (.pointer (some ⟨gq, oq + i, none⟩)), .val (.string y), .val (.slice (some ⟨gq, oq, none⟩) L.length capo), .val (.int .i64 (i : Int)), .val (.pointer (some ⟨gq, oq + i, none⟩)), .val (.string y), .val (.int .i64 (y.size : Int)), .val (.int .u64 (y.size : Int)), .shelf (putL m y y.size)] : List FactP).getD n (.val undef) : FactP).holds v w') (by kernel_rfl) (by kernel_rfl) (Below.refl _ _).drew (fun w1 w2 h1 hb => h1.trans (hb.mono h1.size)) (fun n v w1 w2 h hb => FactP.kept _ v w1 w2 h hb) (fun n o hn ho a wz hI hag hdep => ?_) (fun a wz hI hag hf => ?_)
                    · have t8 : a.eval (.tmp 8) = .slice (some ⟨gq, oq, none⟩) L.length capo := hag.old 8 _ (by kernel_rfl) rfl
                      have t14 : a.eval (.tmp 14) = .pointer (some ⟨gb, 0, none⟩) := hag.old 14 _ (by kernel_rfl) rfl
                      have t16 : a.eval (.tmp 16) = .int .i64 (i : Int) := hag.old 16 _ (by kernel_rfl) rfl
                      have cy := (HE8.out.kept hI).cell HY.out
                      match n, ho with
                      | 0, ho =>
                        obtain rfl := (Option.some.inj ho).symm
                        exact ⟨rfl, wp_load_row 24 (.tmp 14) rfl gb t14 24 T (0, 0) _ ((hI.block gb HBL.out).trans HB8.out) Try.underlying24 rfl HRT.out.info ⟨_, rfl, rfl, Below.refl _ _⟩⟩
                      | 1, ho =>
                        obtain rfl := (Option.some.inj ho).symm
                        exact ⟨rfl, QT.wp_value (BigFrame.run_move (.tmp 8) rfl wz) ⟨_, rfl, t8, Below.refl _ _⟩⟩
                      | 2, ho =>
                        obtain rfl := (Option.some.inj ho).symm
                        exact ⟨rfl, QT.wp_value (BigFrame.run_move (.tmp 16) rfl wz) ⟨_, rfl, t16, Below.refl _ _⟩⟩
                      | 3, ho =>
                        obtain rfl := (Option.some.inj ho).symm
                        have d108 : a.eval (.tmp 108) = .slice (some ⟨gq, oq, none⟩) L.length capo := hdep _ (Array.mem_of_getElem? (i := 0) rfl) rfl _ _ rfl rfl
                        have d109 : a.eval (.tmp 109) = .int .i64 (i : Int) := hdep _ (Array.mem_of_getElem? (i := 1) rfl) rfl _ _ rfl rfl
                        exact ⟨rfl, QT.wp_value (v := .pointer (some ⟨gq, oq + i, none⟩)) (by simp [go_sem, QT.nf d108, QT.nf d109, hlti3]) ⟨_, rfl, rfl, Below.refl _ _⟩⟩
                      | 4, ho =>
                        obtain rfl := (Option.some.inj ho).symm
                        have d110 : a.eval (.tmp 110) = .pointer (some ⟨gq, oq + i, none⟩) := hdep _ (Array.mem_of_getElem? (i := 0) rfl) rfl _ _ rfl rfl
                        exact ⟨rfl, QT.wp_value (v := .string y) (by simp [go_sem, QT.nf d110, cy]) ⟨_, rfl, rfl, Below.refl _ _⟩⟩
                      | 5, ho =>
                        obtain rfl := (Option.some.inj ho).symm
                        exact ⟨rfl, QT.wp_value (BigFrame.run_move (.tmp 8) rfl wz) ⟨_, rfl, t8, Below.refl _ _⟩⟩
                      | 6, ho =>
                        obtain rfl := (Option.some.inj ho).symm
                        exact ⟨rfl, QT.wp_value (BigFrame.run_move (.tmp 16) rfl wz) ⟨_, rfl, t16, Below.refl _ _⟩⟩
                      | 7, ho =>
                        obtain rfl := (Option.some.inj ho).symm
                        have d112 : a.eval (.tmp 112) = .slice (some ⟨gq, oq, none⟩) L.length capo := hdep _ (Array.mem_of_getElem? (i := 0) rfl) rfl _ _ rfl rfl
                        have d113 : a.eval (.tmp 113) = .int .i64 (i : Int) := hdep _ (Array.mem_of_getElem? (i := 1) rfl) rfl _ _ rfl rfl
                        exact ⟨rfl, QT.wp_value (v := .pointer (some ⟨gq, oq + i, none⟩)) (by simp [go_sem, QT.nf d112, QT.nf d113, hlti3]) ⟨_, rfl, rfl, Below.refl _ _⟩⟩
                      | 8, ho =>
                        obtain rfl := (Option.some.inj ho).symm
                        have d114 : a.eval (.tmp 114) = .pointer (some ⟨gq, oq + i, none⟩) := hdep _ (Array.mem_of_getElem? (i := 0) rfl) rfl _ _ rfl rfl
                        exact ⟨rfl, QT.wp_value (v := .string y) (by simp [go_sem, QT.nf d114, cy]) ⟨_, rfl, rfl, Below.refl _ _⟩⟩
                      | 9, ho =>
                        obtain rfl := (Option.some.inj ho).symm
                        have d115 : a.eval (.tmp 115) = .string y := hdep _ (Array.mem_of_getElem? (i := 0) rfl) rfl _ _ rfl rfl
                        exact ⟨rfl, QT.wp_value (v := .int .i64 (y.size : Int)) (by simp [go_sem, QT.nf d115]) ⟨_, rfl, rfl, Below.refl _ _⟩⟩
                      | 10, ho =>
                        obtain rfl := (Option.some.inj ho).symm
                        have d116 : a.eval (.tmp 116) = .int .i64 (y.size : Int) := hdep _ (Array.mem_of_getElem? (i := 0) rfl) rfl _ _ rfl rfl
                        exact ⟨rfl, QT.wp_value (v := .int .u64 (y.size : Int)) (by simp [go_sem, QT.nf d116, hwy]) ⟨_, rfl, rfl, Below.refl _ _⟩⟩
                      | 11, ho =>
                        obtain rfl := (Option.some.inj ho).symm
                        have d107 : a.eval (.tmp 107) = .agg T := hdep _ (Array.mem_of_getElem? (i := 0) rfl) rfl _ _ rfl rfl
                        have d111 : a.eval (.tmp 111) = .string y := hdep _ (Array.mem_of_getElem? (i := 1) rfl) rfl _ _ rfl rfl
                        have d117 : a.eval (.tmp 117) = .int .u64 (y.size : Int) := hdep _ (Array.mem_of_getElem? (i := 2) rfl) rfl _ _ rfl rfl
                        exact ⟨rfl, wp_enter_to (f := 9) (args := #[.agg T, .string y, .int .u64 y.size]) (R := fun v w' => (.shelf (putL m y y.size) : FactP).holds v w' ∧ Below wz.heap.size wz w') (by simp [go_sem, QT.nf d107, QT.nf d111, QT.nf d117]) (code_PutF T m y y.size wz (HE8.out.kept hI).sb (by have := HLE.out; omega)) fun v w' h => ⟨v, rfl, h.1, h.2⟩⟩
                      | n + 12, ho => omega
                    · have f0 : a.eval (.tmp 107) = .agg T := hf 0 _ _ (by omega) rfl rfl
                      have f1 : a.eval (.tmp 108) = .slice (some ⟨gq, oq, none⟩) L.length capo := hf 1 _ _ (by omega) rfl rfl
                      have f2 : a.eval (.tmp 109) = .int .i64 (i : Int) := hf 2 _ _ (by omega) rfl rfl
                      have f3 : a.eval (.tmp 110) = .pointer (some ⟨gq, oq + i, none⟩) := hf 3 _ _ (by omega) rfl rfl
                      have f4 : a.eval (.tmp 111) = .string y := hf 4 _ _ (by omega) rfl rfl
                      have f5 : a.eval (.tmp 112) = .slice (some ⟨gq, oq, none⟩) L.length capo := hf 5 _ _ (by omega) rfl rfl
                      have f6 : a.eval (.tmp 113) = .int .i64 (i : Int) := hf 6 _ _ (by omega) rfl rfl
                      have f7 : a.eval (.tmp 114) = .pointer (some ⟨gq, oq + i, none⟩) := hf 7 _ _ (by omega) rfl rfl
                      have f8 : a.eval (.tmp 115) = .string y := hf 8 _ _ (by omega) rfl rfl
                      have f9 : a.eval (.tmp 116) = .int .i64 (y.size : Int) := hf 9 _ _ (by omega) rfl rfl
                      have f10 : a.eval (.tmp 117) = .int .u64 (y.size : Int) := hf 10 _ _ (by omega) rfl rfl
                      obtain ⟨u11, f11, y11⟩ := hf 11 _ _ (by omega) rfl rfl
                      have ha := hag.puts [(107, .agg T), (108, .slice (some ⟨gq, oq, none⟩) L.length capo), (109, .int .i64 (i : Int)), (110, .pointer (some ⟨gq, oq + i, none⟩)), (111, .string y), (112, .slice (some ⟨gq, oq, none⟩) L.length capo), (113, .int .i64 (i : Int)), (114, .pointer (some ⟨gq, oq + i, none⟩)), (115, .string y), (116, .int .i64 (y.size : Int)), (117, .int .u64 (y.size : Int)), (118, .agg u11)] rfl (by simp) (by simp only [List.forall_mem_cons, List.not_mem_nil, false_implies, implies_true, and_true]; exact ⟨f0, f1, f2, f3, f4, f5, f6, f7, f8, f9, f10, f11⟩)
                      subst ha
                      clear hag hf f0 f1 f2 f3 f4 f5 f6 f7 f8 f9 f10 f11
                      simp only [List.foldl_cons, List.foldl_nil, Act.put, List.drop_succ_cons, List.drop_zero, List.setIfInBounds_toArray, List.set_cons_succ, List.set_cons_zero]
                      rename World => w9
                      have hE9 := HE8.out.kept hI
                      have hR9 := y11.row
                      have hE10 := hE9.stepB HBB.out.2.2 HBB.out.2.1 y11
                      have hsz9 : T.size = u11.size := by rw [HRT.out.size, hR9.size]
                      have HR9 := Lib.hid hR9
                      have HB9 := Lib.hid hE9.b
                      have HE10 := Lib.hid hE10
                      clear hI y11 hE9 hR9 hE10 HE8 HB8 HBL
                      go_wp2_with (refine wpList_store_row rfl 24 (.tmp 14) (.tmp 118) rfl gb u11 rfl rfl 24 T HB9.out HR9.out.info hsz9 HR9.out.one ?_)
                      go_roundw
                      case rel => exact ⟨i + 1, _, _, by omega, by go_num, by rw [HL1.out, HM1.out]; exact HE10.out⟩
                      case measure => simp [intOf]; omega
                  · obtain rfl : i = L.length := by omega
                    have hlti3 : ¬ ((L.length : Int) < (L.length : Int)) := by omega
                    have ht1 : L.take L.length = L := List.take_length
                    have ht2 : O.take L.length = O := List.take_of_length_le (by omega)
                    have hpp := putK_perm HP.out
                    have hdd := dropK_perm HP.out.symm
                    have hll := putK_len L []
                    rw [List.length_nil] at hll
                    rw [ht1, ht2, hpp] at hE
                    clear HE ht1 ht2 hpp
                    generalize putK [] L = l0 at hE hdd hll
                    have HDD := Lib.hid hdd
                    have HLE := Lib.hid (show l0.length ≤ 200 by omega)
                    obtain ⟨ma, mcap, rfl, hmc⟩ := hE.list.form
                    have HE := Lib.hid hE
                    have HA := Lib.hid hE.a
                    clear hE hdd hll HXS HT
                    go_wp2_with (refine wpList_load_row rfl 24 (.tmp 13) rfl ga rfl 24 S (0, 0) _ HA.out Try.underlying24 rfl HR.out.info ?_)
                    refine (ref_is S l0 _ _ HE.out.sa HE.out.list (by have := HLE.out; omega)).mono ?_
                    rintro e w6 ⟨rfl, hb6⟩
                    have HE6 := Lib.hid (HE.out.kept hb6)
                    have HB6 := Lib.hid HE6.out.b
                    clear hb6 HE HA
                    go_wp2_with (refine wpList_load_row_g rfl 24 (.tmp 14) rfl gb rfl 24 T (0, 0) _ HB6.out Try.underlying24 rfl HRT.out.info ?_)
                    refine (ref_is T l0 _ _ HE6.out.sb HE6.out.list (by have := HLE.out; omega)).mono ?_
                    rintro e w7 ⟨rfl, hb7⟩
                    have HE7 := Lib.hid (HE6.out.kept hb7)
                    clear hb7 HE6 HB6
                    go_wp2_with fail
                    go_loopw [132] (fun iv wr => ∃ (i : Nat) (S : Array Value), i ≤ L.length ∧ iv = .int .i64 i ∧ OneI w ga gb (dropK l0 (O.take i)) l0 l0 S T (.slice ma l0.length mcap) (.slice ao L.length capo) O wr) (fun iv _ => L.length - (intOf iv).toNat)
                    case atStart => exact ⟨0, S, Nat.zero_le _, rfl, HE7.out⟩
                    case round =>
                      clear HE7 HR HRT
                      obtain ⟨i, S, hi4, rfl, hE⟩ := hrel
                      have HE := Lib.hid hE
                      have HR := Lib.hid hE.sa.row
                      have HA := Lib.hid hE.a
                      have hdl := dropK_len (O.take i) l0
                      by_cases hlt4 : i < L.length
                      · have hlti4 : (i : Int) < (L.length : Int) := by omega
                        obtain ⟨gq, oq, capq, haq, _, _⟩ := hE.other.some (by omega)
                        injection haq with haq1 haqn haq2
                        subst haq1 haq2
                        clear haqn
                        have hy := List.getElem?_eq_getElem (show i < O.length by omega)
                        obtain ⟨y, hyy⟩ : ∃ x, O[i] = x := ⟨_, rfl⟩
                        rw [hyy] at hy
                        have cy := hE.cell hy
                        have hd1 := dropK_step l0 (O.take i) y
                        rw [← take_step hy] at hd1
                        generalize dropK l0 (O.take i) = l at hE HE hd1 hdl
                        have HD1 := Lib.hid hd1
                        have hkq : i < capo := by omega
                        have HLL := Lib.hid (show l.length ≤ 200 by have := HLE.out; omega)
                        clear hE hyy hy hd1 hdl
                        go_wp2_with (refine wpList_load_row rfl 24 (.tmp 13) rfl ga rfl 24 S (0, 0) _ HA.out Try.underlying24 rfl HR.out.info ?_)
                        refine (code_DropS S l y _ HE.out.sa (by have := HLL.out; omega)).mono ?_
                        rintro e w8 ⟨S', rfl, hS', hb8⟩
                        have hE8 := HE.out.kept hb8
                        have hR8 := hS'.row
                        have hE9 := hE8.stepA HBB.out.2.2 HBB.out.1 hS' hE8.list hE8.far
                        have hsz : S.size = S'.size := by rw [HR.out.size, hR8.size]
                        have HR8 := Lib.hid hR8
                        have HA8 := Lib.hid hE8.a
                        have HE9 := Lib.hid hE9
                        clear hS' hb8 hE8 hR8 hE9 HE HA cy
                        go_wp2_with (refine wpList_store_row rfl 24 (.tmp 13) (.tmp 138) rfl ga S' rfl rfl 24 S HA8.out HR8.out.info hsz HR8.out.one ?_)
                        go_roundw
                        case rel => exact ⟨i + 1, _, by omega, by go_num, by rw [HD1.out]; exact HE9.out⟩
                        case measure => simp [intOf]; omega
                      · obtain rfl : i = L.length := by omega
                        have hlti4 : ¬ ((L.length : Int) < (L.length : Int)) := by omega
                        have ht2 : O.take L.length = O := List.take_of_length_le (by omega)
                        rw [ht2, HDD.out] at hE
                        clear HE ht2 hdl
                        have HE := Lib.hid hE
                        clear hE
                        go_wp2_with (refine wpList_load_row rfl 24 (.tmp 13) rfl ga rfl 24 S (0, 0) _ HA.out Try.underlying24 rfl HR.out.info ?_)
                        refine (code_LenS S [] _ HE.out.sa (by simp)).mono ?_
                        rintro e w8 ⟨rfl, hb8⟩
                        have HE8 := Lib.hid (HE.out.kept hb8)
                        have HA8 := Lib.hid HE8.out.a
                        clear hb8 HE HA
                        go_wp2_with (refine wpList_load_row_g rfl 24 (.tmp 13) rfl ga rfl 24 S (0, 0) _ HA8.out Try.underlying24 rfl HR.out.info ?_)
                        refine (ref_is S [] _ _ HE8.out.sa (Kind.At.nil _ _) (by simp)).mono ?_
                        rintro e w9 ⟨rfl, hb9⟩
                        have HB9 := Lib.hid (HE8.out.kept hb9).below
                        clear hb9 HE8 HA8
                        go_wp2_with fail
                        go_ret
                        first
                          | exact ⟨rfl, HB9.out⟩
                          | exact HB9.out
          · have q3i : 16384 < m := by omega
            go_wp2_with fail
            go_ret
            first
              | exact ⟨rfl, HB.out⟩
              | exact HB.out
        · have q2i : 400 < (M.length : Int) := by omega
          go_wp2_with fail
          go_ret
          first
            | exact ⟨rfl, HB.out⟩
            | exact HB.out
      · have q1i : 200 < (L.length : Int) := by omega
        go_wp2_with fail
        go_ret
        first
          | exact ⟨rfl, HB.out⟩
          | exact HB.out

end Go.Proofs.Ytpepijoppgbbfaa.Shf
