/- evolve: the law EvolveNexts. -/
import Derived.Test.YtpifjeghoapjbaaEvNw
import Derived.Test.YtpifjeghoapjbaaEvNa
namespace Go.Proofs.Ytpifjeghoapjbaa.Evolve
open Go.RowKit Go.Proofs.Ytpifjeghoapjbaa.Sha Go.Proofs.Ytpifjeghoapjbaa.Tree Go.Proofs.Ytpifjeghoapjbaa.Once

theorem none_ev (w : World) : (FactK.ev 0 0 zeroL [] []).holds (.agg (evRow 0 0 zeroL (.slice none 0 0) (.slice none 0 0))) w :=
  ⟨_, _, _, _, _, _, rfl, Or.inl ⟨_, _, rfl, rfl⟩, Or.inl ⟨_, _, rfl, rfl⟩⟩
theorem h32_nil : H32 ([] : List (List UInt8)) := fun y hy => by simp at hy

theorem law_EvolveNexts (d p : Int) (leaf : List UInt8) (ar : Option Addr) (nr cr : Nat) (as_ : Option Addr) (ns cs : Nat) (R S : List (List UInt8)) (m : List UInt8) (w : World)
    (hl : leaf.length = 32) (hR : Hashes w (.slice ar nr cr) R) (h32 : H32 R) (hcr : nr ≤ cr) (hS : Hashes w (.slice as_ ns cs) S) (h32S : H32 S) (hcs : ns ≤ cs) (hml : m.length = 32) :
    Calls Try.prog 5 #[.agg (evRow d p leaf (.slice ar nr cr) (.slice as_ ns cs)), .agg (valsB m).toArray] w fun e w' => e = .returned (.bool true) ∧ Below w.heap.size w w' := by
  by_cases hg : 40 < nr ∨ 40 < ns
  · exact nexts_great d p leaf m hl ar as_ nr cr ns cs hg w
  have hnr : nr ≤ 40 := by omega
  have hns : ns ≤ 40 := by omega
  by_cases hm : mayP d p R ns
  · have hfr := hashes_form hR
    have hMR := fun w' (hb : Below w.heap.size w w') => ref_May d p leaf hl ar as_ nr cr ns cs R w' (hR.kept hb) h32 true (by simp [hm])
    have hMC := fun w' (hb : Below w.heap.size w w') => code_May d p leaf hl ar as_ nr cr ns cs R w' (hR.kept hb) h32 true (by simp [hm])
    obtain ⟨dn, pn, rfl, rfl, h4, hp, hRl, hsl, hm⟩ := mayP_nat hm
    obtain rfl : nr = dn := by omega
    obtain rfl : ns = nr := hsl
    have hSl := hashes_form hS
    have hlt := lastG_lt ns pn ns
    have hpl : (overE (digitsE ns pn) S 0 ns (pubK leaf)).length = 32 := overE_len _ _ _ _ _ (pubK_len leaf)
    by_cases hj : lastG ns pn ns = -1
    · exact nexts_walk true 0 4 (Or.inr (Or.inl ⟨rfl, rfl, rfl⟩)) ns pn leaf hl ar as_ ns cr ns cs hnr hns m hml w _ hpl _ 0 0 zeroL rfl [] [] h32_nil h32_nil (by simp) (by simp) hMR hMC
        (fun w' hb => code_PublicE ns pn h4 hp leaf hl ar as_ cr cs R S w' (hR.kept hb) h32 (hS.kept hb) h32S hm)
        (fun w' hb => ref_PublicE ns pn h4 hp leaf hl ar as_ cr cs R S w' (hR.kept hb) h32 (hS.kept hb) h32S hm)
        (fun w' hb => (code_NextE_last ns pn h4 hp leaf hl ar as_ cr cs R S w' (hR.kept hb) h32 (hS.kept hb) h32S hm hj).mono fun _ w'' ⟨he, hbb⟩ => ⟨_, he, none_ev w'', hbb⟩)
        (fun w' hb => (ref_NextE_last ns pn h4 hp leaf hl ar as_ cr cs R S w' (hR.kept hb) h32 (hS.kept hb) h32S hm hj).mono fun _ w'' ⟨he, hbb⟩ => ⟨_, he, none_ev w'', hbb⟩)
        (fun w' hb => code_SignE ns pn h4 hp leaf hl ar as_ cr cs R S w' (hR.kept hb) h32 (hS.kept hb) h32S hm m hml)
        (fun w' hb => ref_SignE ns pn h4 hp leaf hl ar as_ cr cs R S w' (hR.kept hb) h32 (hS.kept hb) h32S hm m hml)
    · obtain ⟨j, hjj⟩ : ∃ j : Nat, lastG ns pn ns = (j : Int) := ⟨(lastG ns pn ns).toNat, by omega⟩
      have hjd : j < ns := by omega
      have hn := nextT_len ns pn j hjd leaf R S hRl hSl h32
      have hh := nextT_h32 ns pn j leaf R S h32 h32S
      exact nexts_walk true 0 0 (Or.inl ⟨rfl, rfl, rfl⟩) ns pn leaf hl ar as_ ns cr ns cs hnr hns m hml w _ hpl _ ns ((pn + 1 : Nat) : Int) _ hn.1 _ _ hh.1 hh.2 (by rw [hn.2.1]; omega) (by rw [hn.2.2]; omega) hMR hMC
        (fun w' hb => code_PublicE ns pn h4 hp leaf hl ar as_ cr cs R S w' (hR.kept hb) h32 (hS.kept hb) h32S hm)
        (fun w' hb => ref_PublicE ns pn h4 hp leaf hl ar as_ cr cs R S w' (hR.kept hb) h32 (hS.kept hb) h32S hm)
        (fun w' hb => (code_NextE ns pn h4 hp leaf hl ar as_ cr cs R S w' (hR.kept hb) h32 (hS.kept hb) h32S hm hcr hcs j hjj hjd).mono fun _ w'' ⟨_, _, he, h1, h2, hbb⟩ => ⟨_, he, ⟨_, _, _, _, _, _, rfl, h1, h2⟩, hbb⟩)
        (fun w' hb => (ref_NextF ns pn h4 hp leaf hl ar as_ cr cs R S w' (hR.kept hb) h32 (hS.kept hb) h32S hm j hjj hjd).mono fun _ w'' ⟨_, _, _, _, he, h1, h2, hbb⟩ => ⟨_, he, ⟨_, _, _, _, _, _, rfl, h1, h2⟩, hbb⟩)
        (fun w' hb => code_SignE ns pn h4 hp leaf hl ar as_ cr cs R S w' (hR.kept hb) h32 (hS.kept hb) h32S hm m hml)
        (fun w' hb => ref_SignE ns pn h4 hp leaf hl ar as_ cr cs R S w' (hR.kept hb) h32 (hS.kept hb) h32S hm m hml)
  · exact nexts_walk false 2 2 (Or.inr (Or.inr ⟨rfl, rfl, rfl⟩)) d p leaf hl ar as_ nr cr ns cs hnr hns m hml w zeroL rfl ⟨#[]⟩ 0 0 zeroL rfl [] [] h32_nil h32_nil (by simp) (by simp)
      (fun w' hb => ref_May d p leaf hl ar as_ nr cr ns cs R w' (hR.kept hb) h32 false (by simp [hm]))
      (fun w' hb => code_May d p leaf hl ar as_ nr cr ns cs R w' (hR.kept hb) h32 false (by simp [hm]))
      (fun w' hb => code_PublicE_no d p leaf hl ar as_ nr cr ns cs R w' (hR.kept hb) h32 hm)
      (fun w' hb => ref_PublicE_no d p leaf hl ar as_ nr cr ns cs R w' (hR.kept hb) h32 hm)
      (fun w' hb => (code_NextE_no d p leaf hl ar as_ nr cr ns cs R w' (hR.kept hb) h32 hm).mono fun _ w'' ⟨he, hbb⟩ => ⟨_, he, none_ev w'', hbb⟩)
      (fun w' hb => (ref_NextE_no d p leaf hl ar as_ nr cr ns cs R w' (hR.kept hb) h32 hm).mono fun _ w'' ⟨he, hbb⟩ => ⟨_, he, none_ev w'', hbb⟩)
      (fun w' hb => code_SignE_no d p leaf hl ar as_ nr cr ns cs R w' (hR.kept hb) h32 hm m hml)
      (fun w' hb => ref_SignE_no d p leaf hl ar as_ nr cr ns cs R w' (hR.kept hb) h32 hm m hml)

end Go.Proofs.Ytpifjeghoapjbaa.Evolve
