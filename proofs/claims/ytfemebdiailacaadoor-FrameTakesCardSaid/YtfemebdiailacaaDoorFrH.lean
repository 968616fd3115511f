/- frame: FrameBack. -/
import Derived.Test.YtfemebdiailacaaDoorFrG
namespace Go.Proofs.YtfemebdiailacaaDoor.Frame
open Go.RowKit Go.Proofs.YtfemebdiailacaaDoor.Gr

def flatF (L : List ByteArray) : List UInt8 := ((L.map fun s => s.data.toList).map frameL).flatten
theorem flatF_snoc (L : List ByteArray) (k : Nat) (s : ByteArray) (h : L[k]? = some s) : flatF (L.take (k + 1)) = flatF (L.take k) ++ frameL s.data.toList := by
  rw [List.take_add_one, h]
  simp [flatF]
theorem tx_back (L : List ByteArray) : tx (L.map fun s => s.data.toList) = L := by
  induction L with
  | nil => rfl
  | cons s L ih =>
    simp only [tx, List.map_cons] at ih ⊢
    rw [ih]
theorem scan_back (L : List ByteArray) (m : ByteArray) (h : ∀ s ∈ L, s.size ≤ 65536) : scanL L.length (flatF L ++ m.data.toList) = (L.map (fun s => s.data.toList), (flatF L).length) := by
  have := scan_frames (L.map fun s => s.data.toList) m.data.toList (by
    intro l hl
    obtain ⟨s, hs, rfl⟩ := List.mem_map.1 hl
    rw [len_data]
    exact h s hs)
  rw [List.length_map] at this
  exact this

set_option maxRecDepth 100000 in
set_option maxHeartbeats 1600000 in
theorem back_any (v0 : Value) (L : List ByteArray) (more : ByteArray) (w : World) (hT : KT.At w v0 L) (hl : L.length ≤ 9223372036854775807) (hm : ∀ y ∈ L, y.size ≤ 9223372036854775807) (hs : more.size ≤ 140737488351232) (ht : Tab w) :
    Calls Tryd.prog 6 #[v0, .string more] w fun e w' => e = .returned (.bool true) ∧ Below w.heap.size w w' := by
  have HW := Lib.hid (fun (W : World) (hW : Below w.heap.size w W) => works_any W (ht.kept hW))
  have HPT := Lib.hid (fun (s : ByteArray) (h : s.size ≤ 65536) (W : World) (hW : Below w.heap.size w W) => code_Put_ok s W h (ht.kept hW))
  have HSC := Lib.hid (fun (s : ByteArray) (h : s.size ≤ 1099511627) (many : Int) (W : World) (hW : Below w.heap.size w W) => code_Scan s many W h (ht.kept hW))
  have HAT := Lib.hid hT
  obtain ⟨a, cap, n, hn, rfl, hcells⟩ : ∃ a cap n, L.length = n ∧ v0 = .slice a n cap ∧ ∀ (i : Nat) (s : ByteArray), L[i]? = some s → ∃ g o, a = some ⟨g, o, none⟩ ∧ w.cell? ⟨g, o + i, none⟩ = some (.string s) := by
    rcases hT with ⟨a, cap, rfl, rfl⟩ | ⟨g, o, cap, rfl, _, _, hc⟩
    · exact ⟨a, cap, 0, rfl, rfl, fun i s h => by simp at h⟩
    · exact ⟨_, cap, _, rfl, rfl, fun i s h => ⟨g, o, rfl, text_cell hc h⟩⟩
  have HC := Lib.hid hcells
  have HN := Lib.hid hn
  have HM := Lib.hid hm
  rw [hn] at hl
  clear hT hcells hn ht hm
  go_enter Tryd.func6, Tryd.ntmps6
  go_wp2
  go_loopw [5, 6, 17] (fun nv av iv wr => ∃ k x : Nat, k ≤ n ∧ nv = .int .i64 x ∧ iv = .int .i64 k ∧ av = .string (bs (flatF (L.take k))) ∧ (x ≤ 140737488351232) ∧ (∀ s ∈ L.take k, s.size ≤ 65536) ∧ (flatF (L.take k)).length + more.size ≤ 10 * x ∧ Below w.heap.size w wr) (fun _ _ iv _ => n - (intOf iv).toNat)
  case atStart => exact ⟨0, more.size, by omega, rfl, rfl, rfl, hs, by simp, by simp [flatF]; omega, Below.refl _ _⟩
  case round =>
    obtain ⟨k, x, hk, rfl, rfl, rfl, hx, hall, hlen, hbel⟩ := hrel
    have HALL := Lib.hid hall
    have HBEL := Lib.hid hbel
    by_cases hlt : k < n
    · obtain ⟨s, hsk⟩ : ∃ s, L[k]? = some s := ⟨L[k]'(by rw [HN.out]; exact hlt), List.getElem?_eq_getElem _⟩
      obtain ⟨g, o, rfl, hcell⟩ := HC.out k s hsk
      have hd : wr.cell? ⟨g, o + k, none⟩ = some (.string s) := by rw [hbel.cell (World.block_lt_of_cell? _ _ hcell)]; exact hcell
      have hss := HM.out s (List.mem_of_getElem? hsk)
      have HFS := Lib.hid (flatF_snoc L k s hsk)
      have HMEM := Lib.hid (show ∀ y ∈ L.take (k + 1), y ∈ L.take k ∨ y = s by
        intro y hy
        rw [List.take_add_one, hsk] at hy
        simpa using hy)
      clear hcell hsk hall hbel
      by_cases hbig : 16384 ≤ s.size ∨ 16384 < x + (s.size + 1)
      · rcases hbig with hbig | hbig
        all_goals
          go_wp2_with (go_at_call 13; refine (HW.out _ HBEL.out).mono ?_; rintro e w1 ⟨rfl, hb1⟩; have HB1 := Lib.hid (HBEL.out.trans (hb1.mono HBEL.out.size)); clear hb1)
          all_goals
            go_ret
            exact ⟨rfl, HB1.out⟩
      · have hs16 : s.size < 16384 := by omega
        have hx16 : x + (s.size + 1) ≤ 16384 := by omega
        clear hbig
        have hls : (frameL s.data.toList).length = s.size + 9 := by rw [frameL_len, len_data]
        have hfz : (bs (frameL s.data.toList)).size = s.size + 9 := by rw [bs_size, hls]
        have haz : (bs (flatF (L.take k))).size = (flatF (L.take k)).length := bs_size _
        have HAP := Lib.hid (bs_append (flatF (L.take k)) (frameL s.data.toList))
        rw [← HFS.out] at HAP
        have HLN := Lib.hid (show (flatF (L.take (k + 1))).length + more.size ≤ 10 * (x + (s.size + 1)) by
          rw [HFS.out, List.length_append, hls]
          omega)
        have hov : ¬ 9223372036854775807 < (flatF (L.take k)).length + (s.size + 9) := by omega
        clear hls hlen
        go_wp2_with (go_at_call 9; refine (HPT.out s (by omega) _ HBEL.out).mono ?_; rintro e w1 ⟨rfl, hb1⟩; have HB1 := Lib.hid (HBEL.out.trans (hb1.mono HBEL.out.size)); clear hb1)
        go_roundw
        case rel => exact ⟨k + 1, x + (s.size + 1), by omega, by go_num, by go_num, by rw [HAP.out], by omega, by
          intro y hy
          rcases HMEM.out y hy with h | rfl
          · exact HALL.out y h
          · omega, HLN.out, HB1.out⟩
        case measure => simp [intOf]; omega
    · obtain rfl : k = n := by omega
      have htk : L.take k = L := List.take_of_length_le (by rw [HN.out]; omega)
      rw [htk] at HALL hlen
      rw [htk]
      by_cases hbig : 16384 < x
      · go_wp2_with (go_at_call 13; refine (HW.out _ HBEL.out).mono ?_; rintro e w1 ⟨rfl, hb1⟩; have HB1 := Lib.hid (HBEL.out.trans (hb1.mono HBEL.out.size)); clear hb1)
        go_ret
        exact ⟨rfl, HB1.out⟩
      · have haz : (bs (flatF L)).size = (flatF L).length := bs_size _
        have hov : ¬ 9223372036854775807 < (flatF L).length + more.size := by omega
        have HS1 := Lib.hid (HSC.out (bs (flatF L) ++ more) (by rw [ByteArray.size_append, haz]; omega) (k : Int))
        have e1 : (bs (flatF L) ++ more).data.toList = flatF L ++ more.data.toList := cat_bytes _ _
        have e2 := scan_back L more HALL.out
        rw [HN.out] at e2
        have HE1 := Lib.hid e1
        have HE2 := Lib.hid e2
        have hcz : (k : Int).toNat = k := rfl
        clear e1 e2 htk hbel hall
        go_wp2_with fail
        refine (HS1.out _ HBEL.out).mono ?_
        rintro e w2 ⟨v2, rfl, hat2, hb2⟩
        have HB2 := Lib.hid (HBEL.out.trans (hb2.mono HBEL.out.size))
        rw [HE1.out, hcz, HE2.out, tx_back] at hat2
        rw [HE1.out, hcz, HE2.out]
        have HA2 := Lib.hid hat2
        clear hb2 hat2
        go_wp2_with fail
        refine (equal_any v2 _ L w2 HA2.out (HAT.out.kept HB2.out) (by rw [HN.out]; exact hl)).mono ?_
        rintro e w3 ⟨rfl, hb3⟩
        have HB3 := Lib.hid (HB2.out.trans (hb3.mono HB2.out.size))
        clear hb3
        go_wp2_with fail
        refine (HW.out _ HB3.out).mono ?_
        rintro e w4 ⟨rfl, hb4⟩
        have HB4 := Lib.hid (HB3.out.trans (hb4.mono HB3.out.size))
        clear hb4
        go_wp2
        go_ret
        exact ⟨rfl, HB4.out⟩
end Go.Proofs.YtfemebdiailacaaDoor.Frame
