/- reel: the document's Append. -/
import Derived.Test.YtepcfmigkhacgaaDoorReC
namespace Go.Proofs.YtepcfmigkhacgaaDoor.Rl
open Go.RowKit Go.Proofs.YtepcfmigkhacgaaDoor.Gr Go.Proofs.YtepcfmigkhacgaaDoor.Frame Go.Proofs.YtepcfmigkhacgaaDoor.Dk
theorem own_empty (w : World) : KT.Own w.heap.size (.slice (some ⟨w.heap.size, 0, none⟩) 0 0) (tx []) (w.alloc (.cells #[] 9)) := ⟨rfl, Or.inr ⟨w.heap.size, 0, #[], rfl, Nat.le_refl _, heap_alloc_new w _, Nat.le_refl _, by unfold maxLen; omega, rfl, rfl⟩⟩
theorem own_low {α : Type} {K : Kind Tryd.prog α} {L : List α} {C D : Nat} {v : Value} {w : World} (h : K.Own C v L w) (hD : D ≤ C) : K.Own D v L w := by
  rcases h.2 with ⟨rfl, e⟩ | ⟨b, cp, cur, rfl, hb, hc, r⟩
  · exact ⟨h.1, Or.inl ⟨rfl, e⟩⟩
  · exact ⟨h.1, Or.inr ⟨b, cp, cur, rfl, Nat.le_trans hD hb, hc, r⟩⟩
section
variable {B q r na nc sa sc : Nat} {lv tv : Value} {goes : Int} {S : St} {all : List Tx} {rs : Nat}
/-- A row that was made behind some world is not one of the disk's. -/
theorem EAt.fresh {w : World} (h : EAt B w q r na nc sa sc lv goes S tv all rs) {C : Nat} {α : Type} {K : Kind Tryd.prog α} {L : List α} {v : Value} {w1 : World} (ho : K.Own C v L w1) (hC : w.heap.size ≤ C) : v.ownBlock ≠ some na ∧ v.ownBlock ≠ some sa := by
  have h1 := h.disk.now.lt
  have h2 := h.disk.sure.lt
  exact ⟨fun e => by have := ho.base _ e; omega, fun e => by have := ho.base _ e; omega⟩
set_option maxRecDepth 100000 in
set_option maxHeartbeats 1600000 in
theorem ref_AppendR (w : World) (h : EAt B w q r na nc sa sc lv goes S tv all rs) (hg : GoesOk S goes) {N : Nat} (hS : GoodN N S) (hN : N ≤ 1000000) (hB : B ≤ w.heap.size) (s : ByteArray) (hs : s.size ≤ maxLen) :
    Calls Tryd.prog 22 #[.pointer (some ⟨q, 0, none⟩), .string s] w (EPost B w q r na sa tv (.int .i64 (appendR S all s.data.toList).1) (appendR S all s.data.toList).2.1 (appendR S all s.data.toList).2.2 rs) := by
  unfold appendR EPost
  rw [len_data]
  by_cases h1 : 65536 < s.size
  · rw [if_pos h1]
    have HP := Lib.hid (ref_Put_long s w h1 hs)
    have HE := Lib.hid h
    have HG := Lib.hid hg
    clear h hg
    go_enter Tryd.func22, Tryd.ntmps22
    go_wp2_with (go_at_call 55; refine HP.out.mono ?_; rintro e w1 ⟨rfl, hb1⟩)
    go_ret
    exact ⟨rfl, _, _, _, _, _, _, _, HE.out.below hb1, HG.out, Trail.refl.below hb1, fun _ h => Or.inl h⟩
  rw [if_neg h1]
  have HP := Lib.hid (ref_Put_ok s w (by omega))
  obtain ⟨ta, n, tc, rfl, hn⟩ : ∃ a n c, tv = .slice a n c ∧ all.length = n := by
    obtain ⟨a, c, e, _⟩ := h.row.reads.form
    exact ⟨a, _, c, e, (tx_len all).symm⟩
  have HN := Lib.hid hn
  rw [hn]
  have HE := Lib.hid (show EAt B w q r na nc sa sc lv goes S (.slice ta n tc) all rs from h)
  have HG := Lib.hid hg
  have HS := Lib.hid hS
  have HB := Lib.hid hB
  clear h hg hS hB hn
  by_cases h2 : 512 ≤ n
  · rw [if_pos h2]
    have h2i : (512 : Int) ≤ (n : Int) := by omega
    go_enter Tryd.func22, Tryd.ntmps22
    go_upto_region 4 with (go_at_call 55; refine HP.out.mono ?_; rintro e w1 ⟨rfl, hb1⟩)
    have HE1 := Lib.hid (HE.out.below hb1)
    have hc1 := HE1.out.cRow
    go_wp2
    go_ret
    exact ⟨rfl, _, _, _, _, _, _, _, HE1.out, HG.out, Trail.refl.below hb1, fun _ h => Or.inl h⟩
  rw [if_neg h2]
  have h2i : ¬ (512 : Int) ≤ (n : Int) := by omega
  obtain ⟨t, ht⟩ : ∃ t, bs (frameL s.data.toList) = t := ⟨_, rfl⟩
  have htz : t.size ≤ 16777216 := by rw [← ht, bs_size, frameL_len, len_data]; omega
  rw [show bt (frameL s.data.toList) = t from ht]
  rw [ht] at HP
  obtain ⟨fq, hfq⟩ : ∃ fq : Int, ((n / 8 : Nat) : Int) = fq := ⟨_, rfl⟩
  have hw8 : IntKind.i64.wrap ((n : Int) / 8) = fq := by rw [wrap_in _ (by omega) (by omega)]; omega
  rw [hfq]
  clear hfq
  obtain ⟨er, her⟩ : ∃ er, (appendS S fq t).1 = er := ⟨_, rfl⟩
  obtain ⟨S3, hS3⟩ : ∃ S3, (appendS S fq t).2 = S3 := ⟨_, rfl⟩
  rw [her, hS3]
  obtain ⟨al, hal⟩ : ∃ al, (if er = 0 then all ++ [s.data.toList] else all) = al := ⟨_, rfl⟩
  rw [show (if er = 0 then (0, S3, all ++ [s.data.toList]) else (er, S3, all)) = (er, S3, al) by
    rw [← hal]
    split
    · rename_i e; rw [e]
    · rfl]
  have HAL := Lib.hid hal
  have HER := Lib.hid her
  have HS3 := Lib.hid hS3
  clear her hS3 hal
  have HTZ := Lib.hid htz
  clear ht htz
  go_enter Tryd.func22, Tryd.ntmps22
  go_upto_region 4 with (go_at_call 55; refine HP.out.mono ?_; rintro e w1 ⟨rfl, hb1⟩)
  have HE1 := Lib.hid (HE.out.below hb1)
  have HT1 := Lib.hid (show Trail B w w1 na sa na sa from Trail.refl.below hb1)
  clear hb1
  have hc1 := HE1.out.cRow
  go_upto_region 6 with fail
  clear hc1
  refine wp_region_still_tail 11 (by kernel_rfl) (by kernel_rfl) ?_
  simp only [List.take_succ_cons, List.take_zero, List.drop_succ_cons, List.drop_zero]
  have he2 := HE1.out.below (Below.refl _ _).drew
  have ht2 := HT1.out.below (Below.refl _ _).drew
  show wpStill _ _ w1.drew (fun a' => wpList _ _ _ _ a' w1.drew) _ _
  generalize w1.drew = w2 at he2 ht2 ⊢
  have hc0 := he2.cDisk
  have hc1 := he2.cRow
  have HE2 := Lib.hid he2
  have HT2 := Lib.hid ht2
  have HAP := Lib.hid (ref_Append w2 he2.disk HG.out (by have := HS.out.ops; omega) (by have := HS.out.loose; omega) HS.out.now (Nat.le_trans HB.out ht2.kp.size) fq t HTZ.out)
  unfold RPost at HAP
  rw [HER.out, HS3.out] at HAP
  clear he2 ht2 HE1 HT1
  repeat still_step
  refine wpStill_nil ?_
  try rw [hw8]
  go_upto_region 7 with (go_at_call 28; refine HAP.out.mono ?_; rintro e w3 ⟨rfl, hk1, na2, nc2, sa2, sc2, lv2, goes2, hd2, hg2, hn2, hs2⟩)
  have he3 := HE2.out.disked hk1 hd2 hn2 hs2
  have HG3 := Lib.hid hg2
  have ht3 := HT2.out.step (Kp.rel hk1) hn2 hs2
  clear hk1 hd2 hg2 hn2 hs2 hc0 hc1
  by_cases h3 : er = 0
  · subst h3
    rw [if_pos rfl] at HAL
    have hc1 := he3.cRow
    have hba : Below w3.heap.size w3 (w3.alloc (.cells #[] 9)) := (Below.refl _ _).alloc (Nat.le_refl _) _
    have hc1a := (he3.below hba).cRow
    have HE3 := Lib.hid he3
    have HT3 := Lib.hid ht3
    have HBA := Lib.hid hba
    have HO0 := Lib.hid (own_empty w3)
    have HAT := Lib.hid (he3.row.reads.kept hba)
    have hn512 : n < 512 := by omega
    clear hba he3 ht3
    have HS1 := Lib.hid (show ((tx ([] : List Tx) ++ tx all).length + [s].length) * (KT.bytes + 1) ≤ 1099511627776 by have h := HN.out; rw [List.length_append, tx_len, tx_len]; show (0 + _ + 1) * 17 ≤ 1099511627776; omega)
    go_upto_region 9 with (first
      | (refine wpList_append_at (K := KT) rfl (.tmp 36) (.tmp 40) 54 rfl Tryd.underlying54 w3.heap.size rfl HO0.out _ (tx all) rfl HAT.out (by have h := HN.out; rw [tx_len, tx_len]; show (0 + _) * 17 ≤ 1099511627776; omega) HBA.out.size ?_; intro v5 w5 hown5 hb5; obtain ⟨a5, n5, cap5, rfl⟩ : ∃ a n c, v5 = .slice a n c := (by obtain ⟨a, c, h, _⟩ := hown5.reads.form; exact ⟨a, _, c, h⟩); have hb5a : Below w5.heap.size w5 (w5.alloc (.cells #[.string s] 9)) := (Below.refl _ _).alloc (Nat.le_refl _) _; have HO5 := Lib.hid (hown5.kept hb5a); have HA5 := Lib.hid (kt_one w5.heap.size 0 s (w5.alloc (.cells #[.string s] 9)) (by rw [World.cell?_alloc_mark]; rfl)); have HB5 := Lib.hid ((HBA.out.trans hb5).trans (hb5a.mono (HBA.out.trans hb5).size)); clear hown5 hb5 hb5a)
      | (refine wpList_append_at (K := KT) rfl (.tmp 41) (.tmp 43) 54 rfl Tryd.underlying54 w3.heap.size rfl HO5.out _ [s] rfl HA5.out HS1.out HB5.out.size ?_; intro v6 w6 hown6 hb6; obtain ⟨a6, n6, cap6, rfl⟩ : ∃ a n c, v6 = .slice a n c := (by obtain ⟨a, c, h, _⟩ := hown6.reads.form; exact ⟨a, _, c, h⟩); have HB6 := Lib.hid (HB5.out.trans hb6); have hE6 := HE3.out.below HB6.out; have HO6 := Lib.hid (show KT.Own w3.heap.size (.slice a6 n6 cap6) (tx (all ++ [s.data.toList])) w6 by rw [tx, List.map_append]; exact hown6); have HF6 := Lib.hid (HE3.out.fresh HO6.out (Nat.le_refl _)); have hc6 := hE6.cRow; have hf6 := hE6.fz; have HE6 := Lib.hid (hE6.field (i := 1) (u := .slice a6 n6 cap6) (tv1 := .slice a6 n6 cap6) (all1 := all ++ [s.data.toList]) (rs1 := rs) (by simp) (own_low HO6.out (Nat.zero_le _)) HF6.out); have HK6 := Lib.hid (hE6.kSet (na0 := na2) (sa0 := sa2) Kp.refl 1 (.slice a6 n6 cap6)); clear hown6 hb6 hE6))
    go_wp2
    go_ret
    rw [← HAL.out]
    exact ⟨rfl, _, _, _, _, _, _, _, HE6.out, HG3.out, (HT3.out.below HB6.out).step HK6.out (Or.inl rfl) (Or.inl rfl), fun k hk => Or.inr (Nat.le_trans HT3.out.kp.size (HO6.out.base k hk))⟩
  · rw [if_neg h3] at HAL
    go_wp2
    go_ret
    rw [← HAL.out]
    exact ⟨rfl, _, _, _, _, _, _, _, he3, HG3.out, ht3, fun _ h => Or.inl h⟩
end
end Go.Proofs.YtepcfmigkhacgaaDoor.Rl
