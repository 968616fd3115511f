/- origin: plain mathematics: origins, their bytes; both readers; whether one may be. -/
import Derived.Test.YtdgaoebjbhomdaaDoorDeM
import Derived.Test.YtdgaoebjbhomdaaDoorRsM
namespace Go.Proofs.YtdgaoebjbhomdaaDoor.Og
open Go.Proofs.YtdgaoebjbhomdaaDoor.Digit Go.Proofs.YtdgaoebjbhomdaaDoor.Deed Go.Proofs.YtdgaoebjbhomdaaDoor.Rise

structure SeatD where
  pool : H32
  key : H32
  pledge : UInt64
  cost : UInt64
  margin : UInt64
structure TrustD where
  key : H32
  pool : H32
deriving instance DecidableEq for SeatD, TrustD
instance : Inhabited OutD := ⟨⟨h0, h0, 0⟩⟩
instance : Inhabited SeatD := ⟨⟨h0, h0, 0, 0, 0⟩⟩
instance : Inhabited TrustD := ⟨⟨h0, h0⟩⟩
/-- An origin: its fifteen numbers, the nonce, the lists. -/
structure OriginD where
  n : List UInt64
  no : H32
  coins : List OutD
  seats : List SeatD
  trusts : List TrustD
def orig0 : OriginD := ⟨List.replicate 15 0, h0, [], [], []⟩

/-! ### Bytes -/
def seatL (x : SeatD) : List UInt8 := x.pool.1 ++ (x.key.1 ++ (nL x.pledge ++ (nL x.cost ++ nL x.margin)))
def trustL (x : TrustD) : List UInt8 := x.key.1 ++ x.pool.1
def origL (o : OriginD) : List UInt8 := o.n.flatMap nL ++ (o.no.1 ++ (listL outL o.coins ++ (listL seatL o.seats ++ listL trustL o.trusts)))

/-! ### Reading -/
/-- So many, one behind the other. -/
def rowR {α : Type} (f : Rd → α × Rd) : Nat → Rd → List α × Rd
  | 0, r => ([], r)
  | n + 1, r => ((f r).1 :: (rowR f n (f r).2).1, (rowR f n (f r).2).2)
theorem rowR_len {α : Type} (f : Rd → α × Rd) : ∀ (n : Nat) (r : Rd), (rowR f n r).1.length = n
  | 0, _ => rfl
  | n + 1, r => by rw [rowR, List.length_cons, rowR_len f n]
theorem rowR_there {α : Type} {f : Rd → α × Rd} {p : α → List UInt8} {o : α → Prop} (hf : Deed.Good f p o) : ∀ (l : List α) (rest : List UInt8), (∀ x ∈ l, o x) → rowR f l.length (l.flatMap p ++ rest, true) = (l, rest, true)
  | [], _, _ => rfl
  | x :: l, rest, h => by
    rw [List.length_cons, rowR, List.flatMap_cons, List.append_assoc, hf.there _ _ (h x (by simp)), rowR_there hf l rest (fun y hy => h y (by simp [hy]))]
theorem rowR_back {α : Type} {f : Rd → α × Rd} {p : α → List UInt8} {o : α → Prop} (hf : Deed.Good f p o) : ∀ (n : Nat) (l : List UInt8) (b : Bool) (xs : List α) (rest : List UInt8), rowR f n (l, b) = (xs, rest, true) → b = true ∧ l = xs.flatMap p ++ rest ∧ xs.length = n ∧ ∀ x ∈ xs, o x
  | 0, l, b, xs, rest, h => by
    rw [rowR] at h
    simp only [Prod.mk.injEq] at h
    obtain ⟨rfl, rfl, rfl⟩ := h
    exact ⟨rfl, by simp, rfl, by simp⟩
  | n + 1, l, b, xs, rest, h => by
    rw [rowR] at h
    simp only [Prod.mk.injEq] at h
    obtain ⟨h1, h2⟩ := h
    obtain ⟨k1, k2, k3, k4⟩ := rowR_back hf n (f (l, b)).2.1 (f (l, b)).2.2 (rowR f n (f (l, b)).2).1 rest (by rw [← h2])
    obtain ⟨j1, j2, j3⟩ := hf.back l b (f (l, b)).1 (f (l, b)).2.1 (by rw [← k1])
    subst h1
    refine ⟨j1, ?_, by rw [List.length_cons, k3], fun x hx => ?_⟩
    · rw [List.flatMap_cons, List.append_assoc, ← k2]
      exact j2
    · rcases List.mem_cons.1 hx with rfl | hx
      · exact j3
      · exact k4 x hx
theorem good_row {α : Type} {f : Rd → α × Rd} {p : α → List UInt8} (hf : Deed.Good f p (fun _ => True)) (n : Nat) : Deed.Good (rowR f n) (fun l => l.flatMap p) (fun l => l.length = n) where
  there l rest h := by subst h; exact rowR_there hf l rest (fun _ _ => trivial)
  back l b xs rest h := by
    obtain ⟨h1, h2, h3, _⟩ := rowR_back hf n l b xs rest h
    exact ⟨h1, h2, h3⟩
def seatR (fh : Rd → H32 × Rd) (fn : Rd → UInt64 × Rd) : Rd → SeatD × Rd := mapR (fun x => ⟨x.1, x.2.1, x.2.2.1, x.2.2.2.1, x.2.2.2.2⟩) (andR fh (andR fh (andR fn (andR fn fn))))
def coinR (fh : Rd → H32 × Rd) (fn : Rd → UInt64 × Rd) : Rd → OutD × Rd := mapR (fun x => ⟨x.1, x.2.1, x.2.2⟩) (andR fh (andR fh fn))
def trustR (fh : Rd → H32 × Rd) : Rd → TrustD × Rd := mapR (fun x => ⟨x.1, x.2⟩) (andR fh fh)
section
variable {fh : Rd → H32 × Rd} {fn : Rd → UInt64 × Rd} (hh : Deed.Good fh (fun x => x.1) (fun _ => True)) (hn : Deed.Good fn nL (fun _ => True))
include hh
theorem good_trust : Deed.Good (trustR fh) trustL (fun _ => True) := ((hh.and hh).map (fun x => (⟨x.1, x.2⟩ : TrustD)) (fun y => (y.key, y.pool)) (fun _ => rfl) (fun _ => rfl)).same (fun _ => rfl) (fun _ => by simp)
include hn
theorem good_seat : Deed.Good (seatR fh fn) seatL (fun _ => True) := ((hh.and (hh.and (hn.and (hn.and hn)))).map (fun x => (⟨x.1, x.2.1, x.2.2.1, x.2.2.2.1, x.2.2.2.2⟩ : SeatD)) (fun y => (y.pool, y.key, y.pledge, y.cost, y.margin)) (fun _ => rfl) (fun _ => rfl)).same (fun _ => rfl) (fun _ => by simp)
theorem good_coin : Deed.Good (coinR fh fn) outL (fun _ => True) := ((hh.and (hh.and hn)).map (fun x => (⟨x.1, x.2.1, x.2.2⟩ : OutD)) (fun y => (y.to_, y.st, y.am)) (fun _ => rfl) (fun _ => rfl)).same (fun _ => rfl) (fun _ => by simp)
end
/-- An origin, read. -/
def origR (fh : Rd → H32 × Rd) (fn : Rd → UInt64 × Rd) (fc : Rd → List OutD × Rd) (fs : Rd → List SeatD × Rd) (ft : Rd → List TrustD × Rd) : Rd → OriginD × Rd :=
  mapR (fun x => ⟨x.1, x.2.1, x.2.2.1, x.2.2.2.1, x.2.2.2.2⟩) (andR (rowR fn 15) (andR fh (andR fc (andR fs ft))))
def lens (o : OriginD) : Prop := o.n.length = 15 ∧ o.coins.length ≤ 32 ∧ o.seats.length ≤ 16 ∧ o.trusts.length ≤ 32
theorem good_orig {fh : Rd → H32 × Rd} {fn : Rd → UInt64 × Rd} {fc : Rd → List OutD × Rd} {fs : Rd → List SeatD × Rd} {ft : Rd → List TrustD × Rd} (hh : Deed.Good fh (fun x => x.1) (fun _ => True)) (hn : Deed.Good fn nL (fun _ => True))
    (hc : Deed.Good fc (listL outL) (fun l => l.length ≤ 32)) (hs : Deed.Good fs (listL seatL) (fun l => l.length ≤ 16)) (ht : Deed.Good ft (listL trustL) (fun l => l.length ≤ 32)) : Deed.Good (origR fh fn fc fs ft) origL lens :=
  (((good_row hn 15).and (hh.and (hc.and (hs.and ht)))).map (fun x => (⟨x.1, x.2.1, x.2.2.1, x.2.2.2.1, x.2.2.2.2⟩ : OriginD)) (fun o => (o.n, o.no, o.coins, o.seats, o.trusts)) (fun _ => rfl) (fun _ => rfl)).same (fun _ => rfl) (fun o => by simp [lens])

/-- The document's reader. -/
def refO : Rd → OriginD × Rd := origR hashR numR (manyR 32 (coinR hashR numR)) (manyR 16 (seatR hashR numR)) (manyR 32 (trustR hashR))
theorem many_of {α : Type} {f : Rd → α × Rd} {p : α → List UInt8} (hf : Deed.Good f p (fun _ => True)) (m : Nat) (hm : m < 2 ^ 64) : Deed.Good (manyR m f) (listL p) (fun l => l.length ≤ m) := (hf.many m hm).same (fun _ => rfl) (fun _ => by simp)
theorem good_ref : Deed.Good refO origL lens := good_orig good_hash good_num (many_of (good_coin good_hash good_num) 32 (by decide)) (many_of (good_seat good_hash good_num) 16 (by decide)) (many_of (good_trust good_hash) 32 (by decide))

/-- The code's reader: once it has failed nothing is left. -/
def bad : Rd := ([], false)
def numC (r : Rd) : UInt64 × Rd := if (takeL r.1).2.2 = 0 then (UInt64.ofNat (takeL r.1).1, r.1.drop (takeL r.1).2.1, r.2) else (0, bad)
def hashC (r : Rd) : H32 × Rd := if h : r.1.length < 32 then (h0, bad) else (⟨r.1.take 32, by rw [List.length_take]; omega⟩, r.1.drop 32, r.2)
def manyC {α : Type} (most : Nat) (f : Rd → α × Rd) (r : Rd) : List α × Rd := if most < (numC r).1.toNat then ([], bad) else rowR f (numC r).1.toNat (numC r).2
theorem good_numC : Deed.Good numC nL (fun _ => True) where
  there n rest _ := by
    have h := good_num.there n rest trivial
    unfold numR at h
    unfold numC
    by_cases e : (takeL (nL n ++ rest)).2.2 = 0
    · rw [if_pos e] at h ⊢; exact h
    · rw [if_neg e] at h; simp at h
  back l b n rest h := by
    refine good_num.back l b n rest ?_
    unfold numC at h
    unfold numR
    by_cases e : (takeL l).2.2 = 0
    · rw [if_pos e] at h ⊢; exact h
    · rw [if_neg e] at h; simp [bad] at h
theorem good_hashC : Deed.Good hashC (fun x => x.1) (fun _ => True) where
  there n rest _ := by
    have h := good_hash.there n rest trivial
    unfold hashR at h
    unfold hashC
    by_cases e : (n.1 ++ rest).length < 32
    · rw [dif_pos e] at h; simp at h
    · rw [dif_neg e] at h ⊢; exact h
  back l b n rest h := by
    refine good_hash.back l b n rest ?_
    unfold hashC at h
    unfold hashR
    by_cases e : l.length < 32
    · rw [dif_pos e] at h; simp [bad] at h
    · rw [dif_neg e] at h ⊢; exact h
theorem good_manyC {α : Type} {f : Rd → α × Rd} {p : α → List UInt8} (hf : Deed.Good f p (fun _ => True)) (m : Nat) (hm : m < 2 ^ 64) : Deed.Good (manyC m f) (listL p) (fun l => l.length ≤ m) where
  there l rest h := by
    have h1 := good_numC.there (UInt64.ofNat l.length) (l.flatMap p ++ rest) trivial
    have h2 : (UInt64.ofNat l.length).toNat = l.length := by rw [UInt64.toNat_ofNat', Nat.mod_eq_of_lt (by omega)]
    unfold nL at h1
    rw [h2] at h1
    unfold manyC listL
    rw [List.append_assoc, h1, h2, if_neg (by omega), rowR_there hf l rest (fun _ _ => trivial)]
  back l b xs rest h := by
    unfold manyC at h
    by_cases e : m < (numC (l, b)).1.toNat
    · rw [if_pos e] at h; simp [bad] at h
    · rw [if_neg e] at h
      obtain ⟨k1, k2, k3, _⟩ := rowR_back hf _ (numC (l, b)).2.1 (numC (l, b)).2.2 xs rest h
      obtain ⟨j1, j2, _⟩ := good_numC.back l b (numC (l, b)).1 (numC (l, b)).2.1 (by rw [← k1])
      refine ⟨j1, ?_, by omega⟩
      unfold listL
      rw [List.append_assoc, ← k2, k3]
      exact j2
def codeO : Rd → OriginD × Rd := origR hashC numC (manyC 32 (coinR hashC numC)) (manyC 16 (seatR hashC numC)) (manyC 32 (trustR hashC))
theorem good_code : Deed.Good codeO origL lens := good_orig good_hashC good_numC (good_manyC (good_coin good_hashC good_numC) 32 (by decide)) (good_manyC (good_seat good_hashC good_numC) 16 (by decide)) (good_manyC (good_trust good_hashC) 32 (by decide))

/-! ### What may be -/
def allN (n : Nat) (p : Nat → Bool) : Bool := (List.range n).all p
theorem allN_iff {n : Nat} {p : Nat → Bool} : allN n p = true ↔ ∀ i, i < n → p i = true := by simp [allN, List.all_eq_true]
theorem allN_no {n : Nat} {p : Nat → Bool} (i : Nat) (hi : i < n) (h : p i = false) : allN n p = false := by
  rw [← Bool.not_eq_true, allN_iff]
  intro h2
  rw [h2 i hi] at h
  cases h
def inS (n a b : Nat) : Bool := decide (a ≤ n) && decide (n ≤ b)
def loP : List Nat := [0, 0, 0, 0, 0, 0, 1, 1]
def hiP : List Nat := [1099511627775, 1048575, 1099511627775, 1099511627775, 1000, 1000, 1000, 32768]
def parE (p n : Nat) : Nat := if 8 ≤ p then 5 else if inS n (loP.getD p 0) (hiP.getD p 0) then 0 else 2
def OriginD.num (o : OriginD) (i : Nat) : Nat := (o.n.getD i 0).toNat
def numsB (o : OriginD) : Bool := inS (o.num 0) 1 4096 && (inS (o.num 1) 1 1048576 && (inS (o.num 2) 1 1048576 && (inS (o.num 4) 1 65536 && inS (o.num 3) 1 (o.num 4))))
def parI (o : OriginD) (i : Nat) : Bool := decide (parE i (o.num (5 + i)) = 0)
def cntB (o : OriginD) : Bool := decide (o.coins.length ≤ 32) && (decide (o.seats.length ≤ 16) && decide (o.trusts.length ≤ 32))
def coinI (l : List OutD) (i : Nat) : Bool := decide (1 ≤ (l.getD i default).am.toNat)
def seatB (x : SeatD) : Bool := decide (x.pledge.toNat ≤ 9223372036854775807) && (decide (x.cost.toNat ≤ 9223372036854775807) && decide (x.margin.toNat ≤ 1000))
/-- Ahead of a thing stands a lesser one. -/
def upI {α : Type} [Inhabited α] (key : α → List UInt8) (l : List α) (i : Nat) : Bool := decide (i = 0) || Op.bytesLess (key (l.getD (i - 1) default)) (key (l.getD i default))
def seatI (l : List SeatD) (i : Nat) : Bool := seatB (l.getD i default)
def hasP (S : List SeatD) (p : H32) : Bool := S.any fun s => decide (s.pool = p)
def trustI (S : List SeatD) (l : List TrustD) (i : Nat) : Bool := decide ((l.getD i default).pool = h0) || hasP S (l.getD i default).pool
abbrev poolK (x : SeatD) : List UInt8 := x.pool.1
abbrev keyK (x : TrustD) : List UInt8 := x.key.1
def seatsB (l : List SeatD) : Bool := allN l.length (seatI l) && allN l.length (upI poolK l)
def trustsB (l : List TrustD) (S : List SeatD) : Bool := allN l.length (trustI S l) && allN l.length (upI keyK l)
def sumO (l : List OutD) : Nat := (l.map fun x => x.am.toNat).sum
def sumN (o : OriginD) : Nat := o.num 13 + (o.num 14 + sumO o.coins)
def totB (o : OriginD) : Bool := decide (sumN o ≤ 9223372036854775807)
def mayO (o : OriginD) : Bool := cntB o && (numsB o && (allN 8 (parI o) && (allN o.coins.length (coinI o.coins) && (seatsB o.seats && (trustsB o.trusts o.seats && totB o)))))
theorem may_lens {o : OriginD} (h : mayO o = true) (hn : o.n.length = 15) : lens o := by
  have hc : cntB o = true := (Bool.and_eq_true_iff.1 h).1
  unfold cntB at hc
  simp only [Bool.and_eq_true, decide_eq_true_eq] at hc
  exact ⟨hn, hc.1, hc.2.1, hc.2.2⟩
/-- What bytes are an origin's that may be. -/
def takeO (l : List UInt8) : Option OriginD := if (refO (l, true)).2 = ([], true) ∧ mayO (refO (l, true)).1 = true then some (refO (l, true)).1 else none
theorem takeO_some {l : List UInt8} {o : OriginD} (h : takeO l = some o) : mayO o = true ∧ l = origL o ∧ lens o := by
  unfold takeO at h
  have hg := good_ref.back l true (refO (l, true)).1 []
  generalize refO (l, true) = R at h hg
  by_cases hc : R.2 = ([], true) ∧ mayO R.1 = true
  · rw [if_pos hc] at h
    have h := Option.some.inj h
    obtain ⟨h1, h2⟩ := hc
    obtain ⟨_, h3, h4⟩ := hg (by rw [← h1])
    rw [h] at h2 h3 h4
    exact ⟨h2, by rw [h3, List.append_nil], h4⟩
  · rw [if_neg hc] at h
    cases h
theorem takeO_put {o : OriginD} (h : mayO o = true) (hn : o.n.length = 15) : takeO (origL o) = some o := by
  have h1 := good_ref.there o [] (may_lens h hn)
  rw [List.append_nil] at h1
  unfold takeO
  rw [h1]
  simp [h]
/-- Both readers take the same. -/
theorem takeO_code (l : List UInt8) : takeO l = if (codeO (l, true)).2 = ([], true) ∧ mayO (codeO (l, true)).1 = true then some (codeO (l, true)).1 else none := by
  have hcode : ∀ x, codeO (l, true) = (x, [], true) ↔ refO (l, true) = (x, [], true) := fun x => by
    constructor
    · intro h
      obtain ⟨_, h3, h4⟩ := good_code.back l true x [] h
      rw [h3]
      exact good_ref.there x [] h4
    · intro h
      obtain ⟨_, h3, h4⟩ := good_ref.back l true x [] h
      rw [h3]
      exact good_code.there x [] h4
  unfold takeO
  by_cases h : (refO (l, true)).2 = ([], true)
  · have h1 : refO (l, true) = ((refO (l, true)).1, [], true) := by rw [← h]
    have h2 := (hcode _).2 h1
    rw [h2, ← h1]
  · rw [if_neg (fun hc => h hc.1), if_neg (fun hc => h (by
      have h1 : codeO (l, true) = ((codeO (l, true)).1, [], true) := by rw [← hc.1]
      rw [(hcode _).1 h1]))]
/-- The bytes tell the origin. -/
theorem origL_inj {a b : OriginD} (ha : lens a) (hb : lens b) (h : origL a = origL b) : a = b := by
  have h1 := good_ref.there a [] ha
  have h2 := good_ref.there b [] hb
  rw [h, h2] at h1
  exact (congrArg (·.1) h1).symm
theorem ups {α : Type} [Inhabited α] (key : α → List UInt8) (l : List α) : allN l.length (upI key l) = allN (l.length - 1) (fun i => Op.bytesLess (key (l.getD i default)) (key (l.getD (i + 1) default))) := by
  rw [Bool.eq_iff_iff, allN_iff, allN_iff]
  constructor
  · intro h i hi
    have h1 := h (i + 1) (by omega)
    unfold upI at h1
    simpa using h1
  · intro h i hi
    unfold upI
    rcases i with _ | i
    · simp
    · have h1 := h i (by omega)
      rw [Nat.add_sub_cancel, h1, Bool.or_true]
end Go.Proofs.YtdgaoebjbhomdaaDoor.Og
