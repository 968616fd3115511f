/- shelf: the document's Next. -/
import Derived.Test.YtpepijoppgbbfaaSfR
namespace Go.Proofs.Ytpepijoppgbbfaa.Shf
open Go.RowKit Go.Proofs.Ytpepijoppgbbfaa.Gr

/-- What Next tells. -/
def nextV (o : Option Th) : Value := match o with
  | some x => .tuple #[.string x.1, .int .u64 x.2, .bool true]
  | none => .tuple #[.string ⟨#[]⟩, .int .u64 0, .bool false]

set_option maxHeartbeats 1600000 in
theorem ref_NextL (v : Value) (l : List Th) (k : ByteArray) (w : World) (hT : KT.At w v l) (hl : l.length ≤ 10000000000) :
    Calls Try.prog 18 #[v, .string k] w fun e w' => e = .returned (nextV (nextL l k)) ∧ Below w.heap.size w w' := by
  have HP := Lib.hid (fun w hT => ref_place v l k w hT (by omega))
  have hpl := place_le l k
  rw [next_place l k]
  obtain ⟨i, hi⟩ : ∃ n, placeN l k = n := ⟨_, rfl⟩
  obtain ⟨b, hb⟩ : ∃ n, hasN l k = n := ⟨_, rfl⟩
  rw [hi] at HP hpl
  rw [hb] at HP
  rw [hi]
  have HT := Lib.hid hT
  clear hi hb
  by_cases hil : i < l.length
  · obtain ⟨g, o, cap, rfl, _, hr⟩ := hT.some (by omega)
    have hx := List.getElem?_eq_getElem hil
    obtain ⟨x, hxx⟩ : ∃ x, l[i] = x := ⟨_, rfl⟩
    rw [hxx] at hx
    have HV := Lib.hid (thing_val hr hx)
    have HK := Lib.hid (thing_key hr hx)
    rw [hx]
    have hlt : (i : Int) < (l.length : Int) := by omega
    have hne : ¬ (i : Int) = (l.length : Int) := by omega
    have hne2 : ((i : Int) == (l.length : Int)) = false := by rw [beq_eq_false_iff_ne]; exact hne
    clear hT hx hr hxx hpl
    unfold nextV
    go_enter Try.func18, Try.ntmps18
    go_wp2_with fail
    refine (HP.out w HT.out).mono ?_
    rintro e w1 ⟨rfl, hb1⟩
    have hval : w1.cell? ⟨g, o + i * 2 + 1, none⟩ = some (.int .u64 x.2) := by
      rw [hb1.cell (World.block_lt_of_cell? _ _ HV.out)]
      exact HV.out
    have hkey : w1.cell? ⟨g, o + i * 2, none⟩ = some (.string x.1) := by
      rw [hb1.cell (World.block_lt_of_cell? _ _ HK.out)]
      exact HK.out
    go_upto_region 4 with (fail)
    go_quiet (fail)
    go_wp2_with fail
    refine bodyPost_ret (v := .tuple #[.string x.1, .int .u64 x.2, .bool true]) (by simp [results, Try.results18, go_sem]) rfl ⟨rfl, below_drewN hb1 _⟩
  · obtain rfl : i = l.length := by omega
    rw [List.getElem?_eq_none (Nat.le_refl _)]
    obtain ⟨a, cap, rfl, _⟩ := hT.form
    clear hT hpl hil
    unfold nextV
    go_enter Try.func18, Try.ntmps18
    go_wp2_with fail
    refine (HP.out w HT.out).mono ?_
    rintro e w1 ⟨rfl, hb1⟩
    go_wp2_with fail
    refine bodyPost_ret (v := .tuple #[.string ⟨#[]⟩, .int .u64 0, .bool false]) (by simp [results, Try.results18, go_sem]) rfl ⟨rfl, hb1⟩

end Go.Proofs.Ytpepijoppgbbfaa.Shf
