/- The code's own: Read. -/
import Derived.Test.YtnfoegiogldidaaShaSum
namespace Go.Proofs.Ytnfoegiogldidaa.Sha
open Go.RowKit

def hexS : List UInt8 := [48, 49, 50, 51, 52, 53, 54, 55, 56, 57, 97, 98, 99, 100, 101, 102]
/-- A digit's value; of what is no digit -1. -/
def valD (c : UInt8) : Int := Lib.indexByte hexS c
theorem valD_all : ∀ n : Fin 256, -1 ≤ valD (UInt8.ofNat n.val) ∧ valD (UInt8.ofNat n.val) ≤ 15 ∧ (0 ≤ valD (UInt8.ofNat n.val) → hexD (valD (UInt8.ofNat n.val)).toNat = UInt8.ofNat n.val) ∧
    ((0 ≤ valD (UInt8.ofNat n.val)) ↔ ((48 ≤ n.val ∧ n.val ≤ 57) ∨ (97 ≤ n.val ∧ n.val ≤ 102))) := by decide +kernel
theorem valD_of (c : UInt8) : -1 ≤ valD c ∧ valD c ≤ 15 ∧ (0 ≤ valD c → hexD (valD c).toNat = c) ∧ ((0 ≤ valD c) ↔ ((48 ≤ c.toNat ∧ c.toNat ≤ 57) ∨ (97 ≤ c.toNat ∧ c.toNat ≤ 102))) := by
  have h := valD_all ⟨c.toNat, c.toNat_lt⟩
  simpa using h
theorem valD_hexD : ∀ n : Fin 16, valD (hexD n.val) = n.val := by decide +kernel

theorem idx_any (c : UInt8) (w : World) : Calls Try.prog 25 #[.string ⟨#[48, 49, 50, 51, 52, 53, 54, 55, 56, 57, 97, 98, 99, 100, 101, 102]⟩, .int .u8 (c.toNat : Int)] w
    fun e w' => e = .returned (.int .i64 (valD c)) ∧ w = w' := by
  refine (Try.strings_IndexByte ⟨#[48, 49, 50, 51, 52, 53, 54, 55, 56, 57, 97, 98, 99, 100, 101, 102]⟩ (c.toNat : Int) w).mono ?_
  rintro e w' ⟨rfl, rfl⟩
  refine ⟨?_, rfl⟩
  rw [show ((c.toNat : Int)).toNat.toUInt8 = c by simp]
  rfl

/-- What digits tell: bytes; a last one that stands alone is a byte of its own. -/
def unhex : List UInt8 → List UInt8
  | a :: b :: r => UInt8.ofNat ((valD a).toNat * 16 + (valD b).toNat) :: unhex r
  | [a] => [UInt8.ofNat (valD a).toNat]
  | [] => []
theorem unhex_even (n : Nat) : ∀ (l : List UInt8) (c : UInt8), l.length = 2 * n → unhex (l ++ [c]) = unhex l ++ [UInt8.ofNat (valD c).toNat] ∧ (unhex l).length = n := by
  induction n with
  | zero =>
    intro l c h
    obtain rfl : l = [] := List.eq_nil_of_length_eq_zero (by omega)
    exact ⟨rfl, rfl⟩
  | succ n ih =>
    intro l c h
    match l, h with
    | a :: b :: r, h =>
      have h' := ih r c (by simp at h; omega)
      simp only [List.cons_append, unhex, h'.1, List.length_cons, h'.2, and_self]
theorem unhex_odd (n : Nat) (l : List UInt8) (a c : UInt8) (h : l.length = 2 * n) : unhex (l ++ [a] ++ [c]) = unhex l ++ [UInt8.ofNat ((valD a).toNat * 16 + (valD c).toNat)] := by
  induction n generalizing l with
  | zero =>
    obtain rfl : l = [] := List.eq_nil_of_length_eq_zero (by omega)
    rfl
  | succ n ih =>
    match l, h with
    | x :: y :: r, h =>
      have h' := ih r (by simp at h; omega)
      simp only [List.append_assoc, List.cons_append, List.nil_append] at h' ⊢
      simp only [unhex, h', List.cons_append]

def isHex (c : UInt8) : Bool := decide (0 ≤ valD c)
/-- What Read tells: a hash and an error. -/
def readF (l : List UInt8) : List UInt8 × Nat := if l.length = 64 ∧ l.all isHex = true then (unhex l, 0) else (List.replicate 32 0, 2)
theorem readF_long (l : List UInt8) (h : l.length ≠ 64) : readF l = (List.replicate 32 0, 2) := by
  unfold readF
  rw [if_neg (fun k => h k.1)]
theorem readF_not (l : List UInt8) (i : Nat) (c : UInt8) (h : l[i]? = some c) (hd : valD c < 0) : readF l = (List.replicate 32 0, 2) := by
  unfold readF
  rw [if_neg]
  rintro ⟨_, k⟩
  have := List.all_eq_true.1 k c (List.mem_of_getElem? h)
  simp [isHex] at this
  omega

theorem or_nibble (x d : Nat) (hx : x < 16) (hd : d < 16) : bits .or .u8 ((x : Int) * 16) (d : Int) = ((x * 16 + d : Nat) : Int) := by
  have h := u8_or_nat (x * 16) d (by omega) (by omega)
  rw [nat_join 4 (x * 16) d (by omega) (by omega)] at h
  rw [← h, Int.natCast_mul]
  rfl

theorem results_cell_tmp {P : Program} {fn : Func} {p t : Tmp} {ty : TypeId} (h : fn.results = #[.cell p ty, .tmp t]) (tmps : Array Value) (w : World) (g : Nat) (e : TypeId) (cs : Array Value) (fr : Nat × Nat) (d : TypeDesc) (v : Value)
    (hp : tmps.getD p undef = .pointer (some ⟨g, 0, none⟩)) (hv : tmps.getD t undef = v) (hg : w.heap[g]? = some (.cells cs e fr))
    (hu : P.underlying ty = some d) (hd : (match d with | .struct _ | .array _ _ => true | _ => false) = true) (hi : (P.info? ty).map (·.size) = some cs.size) :
    (results fn tmps).run P w = .ok (.tuple #[.agg cs, v]) w := by
  have hp' : tmps[p]?.getD undef = .pointer (some ⟨g, 0, none⟩) := by simpa using hp
  have hv' : tmps[t]?.getD undef = v := by simpa using hv
  simp [results, h, hp', hv', asAddr, run_loadVar_row w g e ty cs fr d hg hu hd hi]

def zeroB : Array Value := (valsB (List.replicate 32 0)).toArray
theorem zeroB_one : zeroB.all (·.oneCell') = true := by simp only [zeroB, valsB, List.all_toArray, List.all_map]; decide
theorem zeroB_info : (Try.prog.info? 23).map (·.size) = some zeroB.size := info_hash

set_option maxRecDepth 100000 in
set_option maxHeartbeats 1600000 in
theorem read_long (s : ByteArray) (hs : s.size ≠ 64) (w : World) :
    Calls Try.prog 10 #[.string s] w fun e w' => e = .returned (.tuple #[.agg zeroB, .int .i64 2]) ∧ Below w.heap.size w w' := by
  have h1 : ((s.size : Int) == 64) = false := by simp; omega
  have h2 : ((s.size : Int) != 64) = true := by simp; omega
  go_enter Try.func10, Try.ntmps10
  go_wp2_with (first | (refine wpList_build_as rfl 23 _ rfl zeroB (by kernel_rfl) ?_) | (refine wpList_store_row rfl 23 (.tmp 2) (.tmp 10) rfl w.heap.size zeroB rfl rfl 23 _ (heap_alloc_new _ _) zeroB_info rfl zeroB_one ?_; rw [World.setRow_alloc_new]))
  refine bodyPost_ret (results_cell_tmp (p := 2) (t := 3) (ty := 23) Try.results10 _ _ w.heap.size 23 zeroB (0, 0) _ _ rfl rfl (heap_alloc_new _ _) Try.underlying23 rfl zeroB_info) rfl ⟨rfl, (Below.refl _ _).alloc (Nat.le_refl _) _⟩

theorem valD_hex (c : UInt8) : ∃ d : Int, valD c = d ∧ -1 ≤ d ∧ d ≤ 15 := ⟨_, rfl, (valD_of c).1, (valD_of c).2.1⟩

theorem row8_reset (xs : List UInt8) (n : Nat) (x : UInt8) (z : UInt8) : (row8 (xs ++ [x]) n).setIfInBounds xs.length (.int .u8 (z.toNat : Int)) = row8 (xs ++ [z]) n := by
  apply Array.toList_inj.1
  rw [Array.toList_setIfInBounds]
  simp only [row8, valsB, List.length_append, List.length_cons, List.length_nil, List.map_append, List.append_assoc, List.map_cons, List.map_nil, List.cons_append, List.nil_append]
  rw [List.set_append_right _ _ (by simp)]
  simp

theorem cell_of_digit (l : List UInt8) (c : UInt8) (k : Nat) (hl : l.length = k) (hk : k < 64) (hhex : l.all isHex = true) (hc : 0 ≤ valD c) :
    ∃ x : Nat, (row8 (unhex l) 32)[k / 2]? = some (.int .u8 x) ∧ x < 16 ∧ (row8 (unhex l) 32).setIfInBounds (k / 2) (.int .u8 ((x : Int) * 16 + ((valD c).toNat : Int))) = row8 (unhex (l ++ [c])) 32 := by
  have hb := (valD_of c).2.1
  obtain ⟨m, hm⟩ : ∃ m, k / 2 = m := ⟨_, rfl⟩
  rw [hm]
  have hr : k % 2 = 0 ∨ k % 2 = 1 := by omega
  rcases hr with hr | hr
  · have he := unhex_even m l c (by omega)
    refine ⟨0, ?_, by omega, ?_⟩
    · simp only [row8, List.getElem?_toArray]
      rw [List.getElem?_append_right (by simp [valsB, he.2])]
      simp only [valsB, List.length_map, he.2, Nat.sub_self, List.getElem?_replicate]
      rw [if_pos (by omega)]
      rfl
    · rw [he.1, ← row8_set (unhex l) 32 m _ he.2 (by omega)]
      congr 2
      rw [UInt8.toNat_ofNat', Nat.mod_eq_of_lt (by omega)]
      omega
  · obtain ⟨l', a, rfl⟩ : ∃ l' a, l = l' ++ [a] := by
      refine ⟨l.dropLast, l.getLast (by intro h; rw [h] at hl; simp at hl; omega), ?_⟩
      exact (List.dropLast_concat_getLast _).symm
    have hl' : l'.length = 2 * m := by simp at hl; omega
    have he := unhex_even m l' a hl'
    have ho := unhex_odd m l' a c hl'
    have ha : 0 ≤ valD a := by
      have := List.all_eq_true.1 hhex a (by simp)
      simpa [isHex] using this
    have hab := (valD_of a).2.1
    refine ⟨(valD a).toNat, ?_, by omega, ?_⟩
    · rw [he.1]
      simp only [row8, List.getElem?_toArray]
      rw [List.getElem?_append_left (by simp [valsB, he.2])]
      simp only [valsB, List.map_append, List.map_cons, List.map_nil]
      rw [List.getElem?_append_right (by simp [he.2])]
      simp only [List.length_map, he.2, Nat.sub_self, List.getElem?_cons_zero, UInt8.toNat_ofNat']
      rw [Nat.mod_eq_of_lt (by omega)]
    · have e : (((valD a).toNat : Nat) : Int) * 16 + ((valD c).toNat : Int) = ((UInt8.ofNat ((valD a).toNat * 16 + (valD c).toNat)).toNat : Int) := by
        rw [UInt8.toNat_ofNat', Nat.mod_eq_of_lt (by omega)]
        omega
      have hset := row8_reset (unhex l') 32 (UInt8.ofNat (valD a).toNat) (UInt8.ofNat ((valD a).toNat * 16 + (valD c).toNat))
      rw [he.2] at hset
      rw [he.1, ho, e, hset]

set_option maxRecDepth 100000 in
set_option maxHeartbeats 1600000 in
theorem read_sized (s : ByteArray) (hs : s.size = 64) (w : World) :
    Calls Try.prog 10 #[.string s] w fun e w' => e = .returned (.tuple #[.agg (valsB (readF s.data.toList).1).toArray, .int .i64 (readF s.data.toList).2]) ∧ Below w.heap.size w w' := by
  have hl : s.data.toList.length = 64 := by rw [Array.length_toList]; exact hs
  have HL := Lib.hid hl
  clear hl
  go_enter Try.func10, Try.ntmps10
  go_upto_region 4 with (fail)
  rw [show #[Value.int .u8 0, .int .u8 0, .int .u8 0, .int .u8 0, .int .u8 0, .int .u8 0, .int .u8 0, .int .u8 0, .int .u8 0, .int .u8 0, .int .u8 0, .int .u8 0, .int .u8 0, .int .u8 0, .int .u8 0, .int .u8 0,
    .int .u8 0, .int .u8 0, .int .u8 0, .int .u8 0, .int .u8 0, .int .u8 0, .int .u8 0, .int .u8 0, .int .u8 0, .int .u8 0, .int .u8 0, .int .u8 0, .int .u8 0, .int .u8 0, .int .u8 0, .int .u8 0] = zeroB from rfl]
  go_wp2_with fail
  go_loopw [11] (fun i wr => ∃ k : Nat, k ≤ 64 ∧ i = .int .i64 k ∧ wr = (w.alloc (.cells zeroB 23)).alloc (.cells (row8 (unhex (s.data.toList.take k)) 32) 23) ∧ (s.data.toList.take k).all isHex = true) (fun i _ => 64 - (intOf i).toNat)
  case atStart => exact ⟨0, by omega, rfl, rfl, rfl⟩
  case round =>
    obtain ⟨k, hk, rfl, rfl, hhex⟩ := hrel
    by_cases hlt : k < 64
    · obtain ⟨c, hc⟩ : ∃ c, s.data.toList[k]? = some c := ⟨s.data.toList[k]'(by rw [HL.out]; exact hlt), List.getElem?_eq_getElem _⟩
      have hck : s[k] = c := by
        obtain ⟨_, h⟩ := List.getElem?_eq_some_iff.1 hc
        rw [Array.getElem_toList] at h
        exact h
      have HI := Lib.hid (fun w => idx_any c w)
      obtain ⟨d, hd, hd0, hd1⟩ := valD_hex c
      rw [hd] at HI
      have HD := Lib.hid hd
      have HC := Lib.hid hc
      have HCK := Lib.hid hck
      have hk0 : (0 : Int) ≤ (k : Int) := by omega
      have hk64 : (k : Int) < 64 := by omega
      clear hd hc hck
      by_cases hneg : d < 0
      · have HRF := Lib.hid (readF_not s.data.toList k c HC.out (by rw [HD.out]; exact hneg))
        go_upto_region 8 with (rw [HCK.out]; refine (HI.out _).mono ?_; rintro e w' ⟨rfl, rfl⟩)
        go_wp2_with (first | (refine wpList_build_as rfl 23 _ rfl zeroB (by kernel_rfl) ?_) | (refine wpList_store_row rfl 23 (.tmp 2) (.tmp 20) rfl w.heap.size zeroB rfl rfl 23 _ (heap_alloc2_old _ _ _) zeroB_info rfl zeroB_one ?_))
        refine bodyPost_ret (results_cell_tmp (p := 2) (t := 3) (ty := 23) Try.results10 _ _ w.heap.size 23 zeroB (0, 0) _ _ rfl rfl (setRow_heap _ _ _ _ _ _ (heap_alloc2_old _ _ _)) Try.underlying23 rfl zeroB_info) rfl ⟨by rw [HRF.out]; rfl, below_setRow (((Below.refl _ _).alloc (Nat.le_refl _) _).alloc (by simp) _) (Nat.le_refl _) _⟩
      · have HTK := Lib.hid (show s.data.toList.take (k + 1) = s.data.toList.take k ++ [c] by rw [List.take_add_one, HC.out]; rfl)
        have hl := HL.out
        have hcell : ∃ x : Nat, (row8 (unhex (s.data.toList.take k)) 32)[k / 2]? = some (.int .u8 x) ∧ x < 16 ∧ (row8 (unhex (s.data.toList.take k)) 32).setIfInBounds (k / 2) (.int .u8 ((x : Int) * 16 + (d.toNat : Int))) = row8 (unhex (s.data.toList.take (k + 1))) 32 := by
          rw [HTK.out]
          have htl : (s.data.toList.take k).length = k := by rw [List.length_take, hl]; omega
          rw [← HD.out]
          exact cell_of_digit (s.data.toList.take k) c k htl hlt hhex (by rw [HD.out]; omega)
        obtain ⟨x, hx, hx16, hset⟩ := hcell
        have HS := Lib.hid hset
        obtain ⟨R, hR⟩ : ∃ R, row8 (unhex (s.data.toList.take k)) 32 = R := ⟨_, rfl⟩
        rw [hR] at hx HS
        rw [hR]
        obtain ⟨n, hn⟩ : ∃ n : Nat, d.toNat = n := ⟨_, rfl⟩
        obtain rfl : d = (n : Int) := by omega
        rw [hn] at HS
        have ho := or_nibble x n hx16 (by omega)
        obtain ⟨j, hj⟩ : ∃ j, k / 2 = j := ⟨_, rfl⟩
        have hq : (k : Int) / 2 = (j : Int) := by omega
        have hj0 : (0 : Int) ≤ (j : Int) := by omega
        have hj32 : (j : Int) < 32 := by omega
        rw [hj] at hx HS
        have hn16 : n < 16 := by omega
        have HH := Lib.hid (show (s.data.toList.take (k + 1)).all isHex = true by
          rw [HTK.out, List.all_append, hhex]
          simp [isHex, HD.out])
        clear hset hR hn hj hl hhex
        go_upto_region 8 with (rw [HCK.out]; refine (HI.out _).mono ?_; rintro e w' ⟨rfl, rfl⟩)
        go_wp2
        go_roundw
        case rel => exact ⟨k + 1, by omega, by go_num, by rw [← HS.out], HH.out⟩
        case measure => simp [intOf]; omega
    · have hkk : k = 64 := by omega
      subst hkk
      rw [List.take_of_length_le (Nat.le_of_eq HL.out)] at hhex
      rw [List.take_of_length_le (Nat.le_of_eq HL.out)]
      have HRF := Lib.hid (show readF s.data.toList = (unhex s.data.toList, 0) by
        unfold readF
        rw [if_pos ⟨HL.out, hhex⟩])
      have hul : (unhex s.data.toList).length = 32 := (unhex_even 32 s.data.toList 0 HL.out).2
      rw [row8_full _ 32 hul]
      have hsz : (valsB (unhex s.data.toList)).toArray.size = 32 := by rw [valsB_size, hul]
      have hone : (valsB (unhex s.data.toList)).toArray.all (·.oneCell') = true := by simp [valsB, Value.oneCell']
      obtain ⟨C, hC⟩ : ∃ C, (valsB (unhex s.data.toList)).toArray = C := ⟨_, rfl⟩
      have HCC := Lib.hid hC
      rw [hC] at hsz hone
      rw [hC]
      have HINF := Lib.hid (show (Try.prog.info? 23).map (·.size) = some C.size by rw [hsz]; exact info_hash)
      have hzs : zeroB.size = C.size := by rw [hsz]; rfl
      clear hC hul hhex
      go_wp2_with (first | (refine wpList_load_row rfl 23 (.tmp 4) rfl (w.heap.size + 1) rfl 23 C (0, 0) _ (heap_alloc2_new _ _ _) Try.underlying23 rfl HINF.out ?_) | (refine wpList_store_row rfl 23 (.tmp 2) (.tmp 33) rfl w.heap.size C rfl rfl 23 _ (heap_alloc2_old _ _ _) HINF.out hzs hone ?_))
      refine bodyPost_ret (results_cell_tmp (p := 2) (t := 3) (ty := 23) Try.results10 _ _ w.heap.size 23 C (0, 0) _ _ rfl rfl (setRow_heap _ _ _ _ _ _ (heap_alloc2_old _ _ _)) Try.underlying23 rfl HINF.out) rfl ⟨by rw [HRF.out, ← HCC.out]; rfl, below_setRow (((Below.refl _ _).alloc (Nat.le_refl _) _).alloc (by simp) _) (Nat.le_refl _) _⟩

theorem code_read (s : ByteArray) (w : World) :
    Calls Try.prog 10 #[.string s] w fun e w' => e = .returned (.tuple #[.agg (valsB (readF s.data.toList).1).toArray, .int .i64 (readF s.data.toList).2]) ∧ Below w.heap.size w w' := by
  by_cases hs : s.size = 64
  · exact read_sized s hs w
  · refine (read_long s hs w).mono ?_
    rintro e w' ⟨rfl, hb⟩
    refine ⟨?_, hb⟩
    rw [readF_long _ (by rw [Array.length_toList]; exact hs)]
    rfl

end Go.Proofs.Ytnfoegiogldidaa.Sha
