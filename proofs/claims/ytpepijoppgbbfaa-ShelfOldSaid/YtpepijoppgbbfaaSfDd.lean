/- shelf: balanced. -/
import Derived.Test.YtpepijoppgbbfaaSfDc
namespace Go.Proofs.Ytpepijoppgbbfaa.Shf
open Go.RowKit Go.Proofs.Ytpepijoppgbbfaa.Gr

set_option maxRecDepth 100000 in
set_option maxHeartbeats 3200000 in
theorem code_balanced (pl pr : Option Addr) (l r : List Th) (g : Nat) (k : ByteArray) (z : Nat) (x y u : Value) (w : World) (hl : TreeOf w pl l) (hr : TreeOf w pr r) (hg : NodeAt w g k z x y u) (hn : l.length + r.length ≤ 25000000000) :
    Calls Try.prog 30 #[.pointer pl, .pointer (some ⟨g, 0, none⟩), .pointer pr] w fun e w' => ∃ v, e = .returned v ∧ (FactN.tree (l ++ (k, z) :: r)).holds v w' ∧ Below w.heap.size w w' := by
  obtain ⟨na, hna⟩ : ∃ a : Int, (l.length : Int) + 1 = a := ⟨_, rfl⟩
  obtain ⟨nb, hnb⟩ : ∃ a : Int, (r.length : Int) + 1 = a := ⟨_, rfl⟩
  obtain ⟨nc, hnc⟩ : ∃ a : Int, 3 * nb = a := ⟨_, rfl⟩
  obtain ⟨nd, hnd⟩ : ∃ a : Int, 3 * na = a := ⟨_, rfl⟩
  have HWL := Lib.hid (fun (wz : World) (hI : Below w.heap.size w wz) => code_weight pl l wz (hl.go hI) (by omega))
  have HWR := Lib.hid (fun (wz : World) (hI : Below w.heap.size w wz) => code_weight pr r wz (hr.go hI) (by omega))
  rw [hna] at HWL
  rw [hnb] at HWR
  have hwc : IntKind.i64.wrap (3 * nb) = nc := by rw [wrap_in _ (by omega) (by omega)]; exact hnc
  have hwd : IntKind.i64.wrap (3 * na) = nd := by rw [wrap_in _ (by omega) (by omega)]; exact hnd
  have HNA := Lib.hid hna
  have HNB := Lib.hid hnb
  have HNC := Lib.hid hnc
  have HND := Lib.hid hnd
  clear hna hnb hnc hnd
  by_cases h1 : nc < na
  · obtain ⟨j, ja, jb, kj, zj, la, lb, m, rfl, hj, ha, hb, rfl⟩ := hl.node (fun e => by have h2 := HNA.out; have h3 := HNB.out; have h4 := HNC.out; rw [e] at h2; simp at h2; omega)
    have HT := Lib.hid (fun (wz : World) (hI : Below w.heap.size w wz) => code_turnedRight j kj zj ja jb m pr la lb r g k z x y u wz (hj.go hI) (ha.go hI) (hb.go hI) (hr.go hI) (hg.go hI) (by simp only [List.length_append, List.length_cons] at hn; omega))
    clear hj ha hb hl hr hg hn
    go_enter Try.func30, Try.ntmps30
    go_wp2_with fail
    refine (HWL.out w (Below.refl _ _)).mono ?_
    rintro e w1 ⟨rfl, hb1⟩
    go_wp2_with fail
    refine (HWR.out w1 hb1).mono ?_
    rintro e w2 ⟨rfl, hb2⟩
    have hb12 := hb1.trans (hb2.mono hb1.size)
    go_wp2_with fail
    refine (HT.out w2 hb12).mono ?_
    rintro e w3 ⟨v, rfl, hv, hb3⟩
    go_wp2_with fail
    go_ret
    exact ⟨_, rfl, hv, hb12.trans (hb3.mono hb12.size)⟩
  · by_cases h2 : nd < nb
    · obtain ⟨j, ja, jb, kj, zj, la, lb, m, rfl, hj, ha, hb, rfl⟩ := hr.node (fun e => by have h2 := HNA.out; have h3 := HNB.out; have h4 := HND.out; rw [e] at h3; simp at h3; omega)
      have HT := Lib.hid (fun (wz : World) (hI : Below w.heap.size w wz) => code_turnedLeft j kj zj ja jb m pl la lb l g k z x y u wz (hj.go hI) (ha.go hI) (hb.go hI) (hl.go hI) (hg.go hI) (by simp only [List.length_append, List.length_cons] at hn; omega))
      clear hj ha hb hl hr hg hn
      go_enter Try.func30, Try.ntmps30
      go_wp2_with fail
      refine (HWL.out w (Below.refl _ _)).mono ?_
      rintro e w1 ⟨rfl, hb1⟩
      go_wp2_with fail
      refine (HWR.out w1 hb1).mono ?_
      rintro e w2 ⟨rfl, hb2⟩
      have hb12 := hb1.trans (hb2.mono hb1.size)
      go_wp2_with fail
      refine (HWR.out w2 hb12).mono ?_
      rintro e w3 ⟨rfl, hb3⟩
      have hb13 := hb12.trans (hb3.mono hb12.size)
      go_wp2_with fail
      refine (HWL.out w3 hb13).mono ?_
      rintro e w4 ⟨rfl, hb4⟩
      have hb14 := hb13.trans (hb4.mono hb13.size)
      go_wp2_with fail
      refine (HT.out w4 hb14).mono ?_
      rintro e w5 ⟨v, rfl, hv, hb5⟩
      go_wp2_with fail
      go_ret
      exact ⟨_, rfl, hv, hb14.trans (hb5.mono hb14.size)⟩
    · have HT := Lib.hid (fun (wz : World) (hI : Below w.heap.size w wz) => code_joined pl pr l r g k z x y u wz (hl.go hI) (hr.go hI) (hg.go hI) (by omega))
      clear hl hr hg hn
      go_enter Try.func30, Try.ntmps30
      go_wp2_with fail
      refine (HWL.out w (Below.refl _ _)).mono ?_
      rintro e w1 ⟨rfl, hb1⟩
      go_wp2_with fail
      refine (HWR.out w1 hb1).mono ?_
      rintro e w2 ⟨rfl, hb2⟩
      have hb12 := hb1.trans (hb2.mono hb1.size)
      go_wp2_with fail
      refine (HWR.out w2 hb12).mono ?_
      rintro e w3 ⟨rfl, hb3⟩
      have hb13 := hb12.trans (hb3.mono hb12.size)
      go_wp2_with fail
      refine (HWL.out w3 hb13).mono ?_
      rintro e w4 ⟨rfl, hb4⟩
      have hb14 := hb13.trans (hb4.mono hb13.size)
      go_wp2_with fail
      refine (HT.out w4 hb14).mono ?_
      rintro e w5 ⟨v, rfl, hv, hb5⟩
      go_wp2_with fail
      go_ret
      exact ⟨_, rfl, hv, hb14.trans (hb5.mono hb14.size)⟩

end Go.Proofs.Ytpepijoppgbbfaa.Shf
