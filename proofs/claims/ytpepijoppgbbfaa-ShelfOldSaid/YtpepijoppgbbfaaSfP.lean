/- shelf: the document's place. -/
import Derived.Test.YtpepijoppgbbfaaSfM
import Derived.Test.YtpepijoppgbbfaaGr
import Derived.Test.YtpepijoppgbbfaaProg
import Derived.Deep.Cut
import Derived.Lib.Strings
import Derived.WalkSmall
import Derived.Deep.QuietTactic
import Derived.Lib.QuietBelow
import Derived.Laws.StructEq
namespace Go.Proofs.Ytpepijoppgbbfaa.Shf
open Go.RowKit Go.Proofs.Ytpepijoppgbbfaa.Gr

/-- Things at their keys, as the document keeps them. -/
def KT : Kind Try.prog Th where
  T := 55
  size := 2
  bytes := 24
  zero := .agg #[.string ⟨#[]⟩, .int .u64 0]
  enc x := [.string x.1, .int .u64 x.2]
  info := by kernel_rfl
  zsize := rfl
  pos := by decide
  len _ := rfl
  one x u hu := by
    simp at hu
    rcases hu with rfl | rfl <;> rfl

theorem thing_key {w : World} {l : List Th} {g o : Nat} (hr : w.rangeAt g o (KT.flat l)) {i : Nat} {x : Th} (hi : l[i]? = some x) : w.cell? ⟨g, o + i * 2, none⟩ = some (.string x.1) := by
  have := range_thing hr hi (j := 0) (u := .string x.1) rfl
  exact this
theorem thing_val {w : World} {l : List Th} {g o : Nat} (hr : w.rangeAt g o (KT.flat l)) {i : Nat} {x : Th} (hi : l[i]? = some x) : w.cell? ⟨g, o + i * 2 + 1, none⟩ = some (.int .u64 x.2) := by
  have := range_thing hr hi (j := 1) (u := .int .u64 x.2) rfl
  rw [← Nat.add_assoc] at this
  exact this

theorem bytesLess_lt : ∀ (x y : List UInt8), Op.bytesLess x y = decide (x < y)
  | [], [] => by simp [Op.bytesLess]
  | _ :: _, [] => by simp [Op.bytesLess]
  | [], _ :: _ => by simp [Op.bytesLess]
  | a :: x, b :: y => by
    rw [Op.bytesLess, bytesLess_lt x y]
    simp only [List.cons_lt_cons_iff]
    by_cases h1 : a < b <;> by_cases h2 : a = b <;> by_cases h3 : x < y <;> simp [h1, h2, h3]
/-- How a walk shows the order of keys. -/
theorem less_eq (x y : ByteArray) : Op.bytesLess x.toList y.toList = ltK x y := by
  rw [bytesLess_lt, Lib.toList_data, Lib.toList_data]
  rfl

/-- How a walk shows that keys are the same. -/
theorem same_eq (x y : ByteArray) : (x.toList == y.toList) = decide (x = y) := by
  rw [Lib.toList_data, Lib.toList_data, Bool.eq_iff_iff, beq_iff_eq, decide_eq_true_iff]
  exact ⟨key_ext, fun h => by rw [h]⟩

set_option maxHeartbeats 1600000 in
attribute [local irreducible] Go.wpQuiet in
theorem ref_place (v : Value) (l : List Th) (k : ByteArray) (w : World) (hT : KT.At w v l) (hl : l.length ≤ 1000000000000) :
    Calls Try.prog 25 #[v, .string k] w fun e w' => e = .returned (.tuple #[.int .i64 (placeN l k), .bool (hasN l k)]) ∧ Below w.heap.size w w' := by
  obtain ⟨a, cap, rfl, hcap⟩ := hT.form
  have HT := Lib.hid hT
  have hpl := place_le l k
  have HPE := Lib.hid (fun i (hi : i ≤ l.length) (hip : i ≤ placeN l k) => place_eq l k i hi (fun j y hj hji => place_below l k j y hj (by omega)))
  have HHP := Lib.hid (has_place l k)
  have HPB := Lib.hid (place_at l k)
  obtain ⟨pn, hpn⟩ : ∃ n, placeN l k = n := ⟨_, rfl⟩
  obtain ⟨hn, hhn⟩ : ∃ n, hasN l k = n := ⟨_, rfl⟩
  rw [hpn] at hpl HHP HPB
  simp only [hpn] at HPE
  rw [hhn] at HHP
  rw [hpn, hhn]
  clear hT hpn hhn
  go_enter Try.func25, Try.ntmps25
  go_wp2_with fail
  go_loop [6] (fun iv => ∃ i : Nat, i ≤ pn ∧ iv = .int .i64 i) (fun iv => l.length - (intOf iv).toNat)
  case atStart => exact ⟨0, Nat.zero_le _, rfl⟩
  case round =>
    obtain ⟨i, hi, rfl⟩ := hrel
    by_cases hlt : i < l.length
    · obtain ⟨g, o, cap', ha, _, hr⟩ := HT.out.some (by omega)
      have hx := List.getElem?_eq_getElem hlt
      obtain ⟨x, hxx⟩ : ∃ x, l[i] = x := ⟨_, rfl⟩
      rw [hxx] at hx
      have hkey := thing_key hr hx
      injection ha with ha1 _ ha2
      subst ha1 ha2
      have hlti : (i : Int) < (l.length : Int) := by omega
      have hls := less_eq x.1 k
      have HX := Lib.hid hx
      obtain ⟨xk, hxk⟩ : ∃ y, x.1 = y := ⟨_, rfl⟩
      rw [hxk] at hkey hls
      have HXK := Lib.hid hxk
      cases hlk : ltK xk k with
      | true =>
        rw [hlk] at hls
        have HLK := Lib.hid hlk
        clear hxx hr hx hxk hlk
        go_wp2_with fail
        go_round
        case rel =>
          refine ⟨i + 1, ?_, by go_num⟩
          rcases Nat.lt_or_ge i pn with h | h
          · exact h
          · have he : pn = i := by omega
            have := HPB.out x (by rw [he]; exact HX.out)
            rw [HXK.out, HLK.out] at this
            cases this
        case measure => simp [intOf]; omega
      | false =>
        rw [hlk] at hls
        have hpe : pn = i := HPE.out i (by omega) hi fun y hy => by
          rw [HX.out] at hy
          injection hy with hy
          subst hy
          rw [HXK.out]
          exact hlk
        have hhp : hn = decide (xk = k) := by
          rw [HHP.out, hpe, HX.out]
          simp only [HXK.out]
        rw [← hpe] at hkey hlti ⊢
        have HHN := Lib.hid hhp
        clear hxx hr hx hxk hlk hhp HPE HHP HPB HX hpe hi
        by_cases he : xk = k
        · subst he
          obtain rfl : hn = true := by rw [HHN.out]; simp
          clear HXK HHN
          go_upto_region 4 with (fail)
          go_quiet (fail)
          go_wp2_with fail
          go_ret2
          exact ⟨rfl, below_drewN (Below.refl _ _) _⟩
        · obtain rfl : hn = false := by rw [HHN.out]; exact decide_eq_false he
          have hbe : (xk.toList == k.toList) = false := by rw [same_eq]; exact decide_eq_false he
          clear HXK HHN
          go_upto_region 4 with (fail)
          go_quiet (fail)
          go_wp2_with fail
          go_ret2
          exact ⟨rfl, below_drewN (Below.refl _ _) _⟩
    · obtain rfl : i = l.length := by omega
      obtain rfl : pn = l.length := by omega
      obtain rfl : hn = false := by
        rw [HHP.out, List.getElem?_eq_none (Nat.le_refl _)]
      have hlti : ¬ ((l.length : Int) < (l.length : Int)) := by omega
      clear HPE HHP HPB hpl hi
      go_upto_region 4 with (fail)
      go_quiet (fail)
      go_wp2_with fail
      go_ret2
      exact ⟨rfl, below_drewN (Below.refl _ _) _⟩

end Go.Proofs.Ytpepijoppgbbfaa.Shf
