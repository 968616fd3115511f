/- frame: both Scans. -/
import Derived.Test.YtfemebdiailacaaDoorFrE
import Derived.WalkMore
import Derived.Deep.Cut
namespace Go.Proofs.YtfemebdiailacaaDoor.Frame
open Go.RowKit Go.Proofs.YtfemebdiailacaaDoor.Gr

/-- Where a scan stands: what was taken, and from where on it goes on. -/
structure At (l : List UInt8) (m : Nat) (T : List (List UInt8)) (z : Nat) : Prop where
  le : z ≤ l.length
  many : T.length ≤ m
  room : 9 * T.length ≤ z
  rest : scanL m l = (T ++ (scanL (m - T.length) (l.drop z)).1, z + (scanL (m - T.length) (l.drop z)).2)
theorem At.zero (l : List UInt8) (m : Nat) : At l m [] 0 := ⟨Nat.zero_le _, Nat.zero_le _, Nat.zero_le _, by simp⟩
theorem At.full {l : List UInt8} {m : Nat} {T : List (List UInt8)} {z : Nat} (h : At l m T z) (hf : m ≤ T.length) : scanL m l = (T, z) := by
  have := h.rest
  rw [show m - T.length = 0 by omega] at this
  simpa [scanL] using this
theorem At.stop {l : List UInt8} {m : Nat} {T : List (List UInt8)} {z : Nat} (h : At l m T z) (hs : (takeL (l.drop z)).2.2 ≠ 0) : scanL m l = (T, z) := by
  have := h.rest
  rw [scanL_none _ hs] at this
  simpa using this
theorem At.next {l : List UInt8} {m : Nat} {T : List (List UInt8)} {z : Nat} (h : At l m T z) (hlt : T.length < m) (hs : (takeL (l.drop z)).2.2 = 0) :
    At l m (T ++ [(takeL (l.drop z)).1]) (z + (takeL (l.drop z)).2.1) := by
  have hsz := takeL_size (l.drop z)
  have h9 := (hsz.2 hs).1
  rw [List.length_drop] at hsz
  have hle := h.le
  have hroom := h.room
  refine ⟨by omega, by rw [List.length_append, List.length_singleton]; omega, by rw [List.length_append, List.length_singleton]; omega, ?_⟩
  rw [h.rest, show m - T.length = (m - (T ++ [(takeL (l.drop z)).1]).length) + 1 by rw [List.length_append, List.length_singleton]; omega, scanL, if_pos hs, List.drop_drop]
  simp [Nat.add_assoc]

abbrev tx (T : List (List UInt8)) : List ByteArray := T.map bs
theorem tx_len (T : List (List UInt8)) : (tx T).length = T.length := by simp
theorem drop_ext (s : ByteArray) (z : Nat) : (s.extract z s.size).data.toList = s.data.toList.drop z := by
  rw [ext_list, List.take_of_length_le]
  rw [List.length_drop, len_data]
  exact Nat.le_refl _

def ScanTo (w : World) (l : List UInt8) (m : Nat) (e : Ending) (w' : World) : Prop :=
  ∃ v, e = .returned (.tuple #[v, .int .i64 (scanL m l).2]) ∧ KT.At w' v (tx (scanL m l).1) ∧ Below w.heap.size w w'
theorem scan_end {w w' : World} {l : List UInt8} {m z B : Nat} {T : List (List UInt8)} {v : Value} (h : scanL m l = (T, z)) (hown : KT.Own B v (tx T) w') (hb : Below w.heap.size w w') : ScanTo w l m (.returned (.tuple #[v, .int .i64 z])) w' :=
  ⟨v, by rw [h], by rw [h]; exact hown.reads, hb⟩
theorem size_drop (s : ByteArray) (z : Nat) : (s.extract z s.size).size ≤ s.size := by rw [ByteArray.size_extract]; omega

set_option maxRecDepth 100000 in
set_option maxHeartbeats 1600000 in
theorem code_Scan (s : ByteArray) (most : Int) (w : World) (hs : s.size ≤ 1099511627) (ht : Tab w) :
    Calls Tryd.prog 12 #[.string s, .int .i64 most] w (ScanTo w s.data.toList most.toNat) := by
  obtain ⟨l, hl⟩ : ∃ l, s.data.toList = l := ⟨_, rfl⟩
  have HLN := Lib.hid (show l.length = s.size by rw [← hl]; exact len_data s)
  have HTK := Lib.hid (fun (z : Nat) (W : World) (hW : Below w.heap.size w W) => code_Take (s.extract z s.size) W (by have := size_drop s z; unfold maxLen; omega) (ht.kept hW))
  simp only [drop_ext, hl] at HTK
  rw [hl]
  clear ht hl
  go_enter Tryd.func12, Tryd.ntmps12
  go_wp2_with fail
  go_step3
  go_wp2_with fail
  go_step3
  go_wp2_with fail
  go_loopw [4, 5] (fun tv zv wr => ∃ (T : List (List UInt8)) (z : Nat), At l most.toNat T z ∧ zv = .int .i64 z ∧ KT.Own w.heap.size tv (tx T) wr ∧ Below w.heap.size w wr) (fun _ zv _ => s.size - (intOf zv).toNat)
  case atStart => exact ⟨[], 0, At.zero _ _, rfl, Kind.Own.nil _ _, Below.refl _ _⟩
  case round =>
    obtain ⟨T, z, hat, rfl, hown, hbel⟩ := hrel
    have hle := hat.le
    have hroom := hat.room
    rw [HLN.out] at hle
    obtain ⟨a, n, cap, rfl, hn⟩ : ∃ a n cap, u4 = .slice a n cap ∧ T.length = n := by
      obtain ⟨a, cap, h, _⟩ := hown.reads.form
      exact ⟨a, _, cap, h, by simp⟩
    have HNN := Lib.hid hn
    have HAT := Lib.hid hat
    have HOWN := Lib.hid hown
    have HBEL := Lib.hid hbel
    rw [hn] at hroom
    clear hat hown hbel hn
    by_cases hlt : (n : Int) < most
    · obtain ⟨t, q, er, htk⟩ : ∃ t q er, takeL (l.drop z) = (t, q, er) := ⟨_, _, _, rfl⟩
      have HTZ := Lib.hid (show Calls Tryd.prog 10 #[.string (s.extract z s.size)] wr fun e w' => e = .returned (.tuple #[.string (bs t), .int .i64 (q : Int), .int .i64 (er : Int)]) ∧ Below wr.heap.size wr w' by
        have h := HTK.out z _ HBEL.out
        rw [htk] at h
        exact h)
      have HTKE := Lib.hid htk
      have hzs : (z : Int) ≤ (s.size : Int) := by omega
      clear htk
      by_cases her : er = 0
      · subst her
        have hq9 := (takeL_size (l.drop z)).2
        have hqs := (takeL_size (l.drop z)).1
        rw [HTKE.out] at hq9 hqs
        have hq9 : 9 ≤ q := (hq9 rfl).1
        rw [List.length_drop, HLN.out] at hqs
        have hqs : q ≤ s.size - z := hqs
        have HNX := HAT.out.next (by have := HNN.out; omega) (by rw [HTKE.out])
        rw [HTKE.out] at HNX
        have HNX := Lib.hid HNX
        go_upto_region 5 with (go_at_call 10; refine HTZ.out.mono ?_; rintro e w1 ⟨rfl, hb1⟩)
        have hba : Below w1.heap.size w1 (w1.alloc (.cells #[.string (bs t)] 9)) := (Below.refl _ _).alloc (Nat.le_refl _) _
        have HBA := Lib.hid ((HBEL.out.trans (hb1.mono HBEL.out.size)).trans (hba.mono (Nat.le_trans HBEL.out.size hb1.size)))
        have HO := Lib.hid ((HOWN.out.kept hb1).kept hba)
        have HAB := Lib.hid (kt_one w1.heap.size 0 (bs t) (w1.alloc (.cells #[.string (bs t)] 9)) (by rw [World.cell?_alloc_mark]; rfl))
        have HRM := Lib.hid (show ((tx T).length + [bs t].length) * (KT.bytes + 1) ≤ 1099511627776 by
          have := HNN.out
          show ((tx T).length + 1) * 17 ≤ 1099511627776
          rw [tx_len]
          omega)
        have HSB := Lib.hid (show w.heap.size ≤ (w1.alloc (.cells #[.string (bs t)] 9)).heap.size from HBA.out.size)
        have hz2 : (z : Int) + (q : Int) ≤ (s.size : Int) := by omega
        clear hb1 hba
        go_wp2_with (refine wpList_append_at (K := KT) rfl (.tmp 24) (.tmp 26) 28 rfl Tryd.underlying28 w.heap.size rfl HO.out _ [bs t] rfl HAB.out HRM.out HSB.out ?_; intro v2 w2 hown2 hbb2)
        go_roundw
        case rel => exact ⟨T ++ [t], z + q, HNX.out, by go_num, by rw [tx, List.map_append]; exact hown2, HBA.out.trans hbb2⟩
        case measure => simp [intOf]; omega
      · have her' : ¬ (er : Int) = 0 := by omega
        have HST := Lib.hid (HAT.out.stop (by rw [HTKE.out]; exact her))
        go_wp2_with (go_at_call 10; refine HTZ.out.mono ?_; rintro e w1 ⟨rfl, hb1⟩)
        rw [Exit.noGoto_ret]
        go_ret2
        exact scan_end HST.out (HOWN.out.kept hb1) (HBEL.out.trans (hb1.mono HBEL.out.size))
    · have HST := Lib.hid (HAT.out.full (by have := HNN.out; omega))
      go_wp2
      go_ret2
      exact scan_end HST.out HOWN.out HBEL.out

set_option maxRecDepth 100000 in
set_option maxHeartbeats 1600000 in
theorem ref_Scan (s : ByteArray) (most : Int) (w : World) (hs : s.size ≤ 1099511627) :
    Calls Tryd.prog 19 #[.string s, .int .i64 most] w (ScanTo w s.data.toList most.toNat) := by
  obtain ⟨l, hl⟩ : ∃ l, s.data.toList = l := ⟨_, rfl⟩
  have HLN := Lib.hid (show l.length = s.size by rw [← hl]; exact len_data s)
  have HTK := Lib.hid (fun (z : Nat) (W : World) => ref_Take (s.extract z s.size) W (by have := size_drop s z; unfold maxLen; omega))
  simp only [drop_ext, hl] at HTK
  rw [hl]
  clear hl
  go_enter Tryd.func19, Tryd.ntmps19
  go_wp2_with fail
  go_loopw [6, 7] (fun tv zv wr => ∃ (T : List (List UInt8)) (z : Nat), At l most.toNat T z ∧ zv = .int .i64 z ∧ KT.Own w.heap.size tv (tx T) wr ∧ Below w.heap.size w wr) (fun _ zv _ => s.size - (intOf zv).toNat)
  case atStart => exact ⟨[], 0, At.zero _ _, rfl, Kind.Own.nil _ _, Below.refl _ _⟩
  case round =>
    obtain ⟨T, z, hat, rfl, hown, hbel⟩ := hrel
    have hle := hat.le
    have hroom := hat.room
    rw [HLN.out] at hle
    obtain ⟨a, n, cap, rfl, hn⟩ : ∃ a n cap, u6 = .slice a n cap ∧ T.length = n := by
      obtain ⟨a, cap, h, _⟩ := hown.reads.form
      exact ⟨a, _, cap, h, by simp⟩
    have HNN := Lib.hid hn
    have HAT := Lib.hid hat
    have HOWN := Lib.hid hown
    have HBEL := Lib.hid hbel
    rw [hn] at hroom
    clear hat hown hbel hn
    by_cases hlt : (n : Int) < most
    · obtain ⟨t, q, er, htk⟩ : ∃ t q er, takeL (l.drop z) = (t, q, er) := ⟨_, _, _, rfl⟩
      have HTZ := Lib.hid (show Calls Tryd.prog 18 #[.string (s.extract z s.size)] wr fun e w' => e = .returned (.tuple #[.string (bs t), .int .i64 (q : Int), .int .i64 (er : Int)]) ∧ Below wr.heap.size wr w' by
        have h := HTK.out z wr
        rw [htk] at h
        exact h)
      have HTKE := Lib.hid htk
      have hzs : (z : Int) ≤ (s.size : Int) := by omega
      clear htk
      by_cases her : er = 0
      · subst her
        have hq9 := (takeL_size (l.drop z)).2
        have hqs := (takeL_size (l.drop z)).1
        rw [HTKE.out] at hq9 hqs
        have hq9 : 9 ≤ q := (hq9 rfl).1
        rw [List.length_drop, HLN.out] at hqs
        have hqs : q ≤ s.size - z := hqs
        have HNX := HAT.out.next (by have := HNN.out; omega) (by rw [HTKE.out])
        rw [HTKE.out] at HNX
        have HNX := Lib.hid HNX
        go_upto_region 6 with (go_at_call 18; refine HTZ.out.mono ?_; rintro e w1 ⟨rfl, hb1⟩)
        have hba : Below w1.heap.size w1 (w1.alloc (.cells #[.string (bs t)] 9)) := (Below.refl _ _).alloc (Nat.le_refl _) _
        have HBA := Lib.hid ((HBEL.out.trans (hb1.mono HBEL.out.size)).trans (hba.mono (Nat.le_trans HBEL.out.size hb1.size)))
        have HO := Lib.hid ((HOWN.out.kept hb1).kept hba)
        have HAB := Lib.hid (kt_one w1.heap.size 0 (bs t) (w1.alloc (.cells #[.string (bs t)] 9)) (by rw [World.cell?_alloc_mark]; rfl))
        have HRM := Lib.hid (show ((tx T).length + [bs t].length) * (KT.bytes + 1) ≤ 1099511627776 by
          have := HNN.out
          show ((tx T).length + 1) * 17 ≤ 1099511627776
          rw [tx_len]
          omega)
        have HSB := Lib.hid (show w.heap.size ≤ (w1.alloc (.cells #[.string (bs t)] 9)).heap.size from HBA.out.size)
        have hz2 : (z : Int) + (q : Int) ≤ (s.size : Int) := by omega
        clear hb1 hba
        go_wp2_with (refine wpList_append_at (K := KT) rfl (.tmp 25) (.tmp 27) 28 rfl Tryd.underlying28 w.heap.size rfl HO.out _ [bs t] rfl HAB.out HRM.out HSB.out ?_; intro v2 w2 hown2 hbb2)
        go_roundw
        case rel => exact ⟨T ++ [t], z + q, HNX.out, by go_num, by rw [tx, List.map_append]; exact hown2, HBA.out.trans hbb2⟩
        case measure => simp [intOf]; omega
      · have her' : ¬ (er : Int) = 0 := by omega
        have HST := Lib.hid (HAT.out.stop (by rw [HTKE.out]; exact her))
        go_wp2_with (go_at_call 18; refine HTZ.out.mono ?_; rintro e w1 ⟨rfl, hb1⟩)
        go_ret2
        exact scan_end HST.out (HOWN.out.kept hb1) (HBEL.out.trans (hb1.mono HBEL.out.size))
    · have HST := Lib.hid (HAT.out.full (by have := HNN.out; omega))
      go_wp2
      go_ret2
      exact scan_end HST.out HOWN.out HBEL.out
end Go.Proofs.YtfemebdiailacaaDoor.Frame
