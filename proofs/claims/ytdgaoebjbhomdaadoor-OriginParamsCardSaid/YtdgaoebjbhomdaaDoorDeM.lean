/- deed: plain mathematics: deeds, their bytes; reading them. -/
import Derived.Test.YtdgaoebjbhomdaaDoorDigitMath
namespace Go.Proofs.YtdgaoebjbhomdaaDoor.Deed
open Go.Proofs.YtdgaoebjbhomdaaDoor.Digit

/-- A hash's bytes. -/
abbrev H32 := { l : List UInt8 // l.length = 32 }
def h0 : H32 := ⟨List.replicate 32 0, by simp⟩
structure InD where
  tx : H32
  ix : UInt64
structure OutD where
  to_ : H32
  st : H32
  am : UInt64
structure CertD where
  kind : UInt8
  key : H32
  pool : H32
  a : UInt64
  b : UInt64
  c : UInt64
structure PayD where
  key : H32
  am : UInt64
structure WitD where
  key : H32
  sig : ByteArray
structure DeedD where
  ins : List InD
  outs : List OutD
  fee : UInt64
  from_ : UInt64
  until_ : UInt64
  certs : List CertD
  pays : List PayD
  wits : List WitD
def deed0 : DeedD := ⟨[], [], 0, 0, 0, [], [], []⟩
theorem InD.ext' {x y : InD} : x = y ↔ x.tx = y.tx ∧ x.ix = y.ix := by
  cases x; cases y; simp
theorem OutD.ext' {x y : OutD} : x = y ↔ x.to_ = y.to_ ∧ x.st = y.st ∧ x.am = y.am := by
  cases x; cases y; simp
theorem CertD.ext' {x y : CertD} : x = y ↔ x.kind = y.kind ∧ x.key = y.key ∧ x.pool = y.pool ∧ x.a = y.a ∧ x.b = y.b ∧ x.c = y.c := by
  cases x; cases y; simp
theorem PayD.ext' {x y : PayD} : x = y ↔ x.key = y.key ∧ x.am = y.am := by
  cases x; cases y; simp
theorem WitD.ext' {x y : WitD} : x = y ↔ x.key = y.key ∧ x.sig = y.sig := by
  cases x; cases y; simp
theorem DeedD.ext' {x y : DeedD} : x = y ↔ x.ins = y.ins ∧ x.outs = y.outs ∧ x.fee = y.fee ∧ x.from_ = y.from_ ∧ x.until_ = y.until_ ∧ x.certs = y.certs ∧ x.pays = y.pays ∧ x.wits = y.wits := by
  cases x; cases y; simp

/-- A number's bytes. -/
def nL (n : UInt64) : List UInt8 := putL n.toNat
def inL (x : InD) : List UInt8 := x.tx.1 ++ nL x.ix
def outL (x : OutD) : List UInt8 := x.to_.1 ++ (x.st.1 ++ nL x.am)
def certL (x : CertD) : List UInt8 := x.kind :: (x.key.1 ++ (x.pool.1 ++ (nL x.a ++ (nL x.b ++ nL x.c))))
def payL (x : PayD) : List UInt8 := x.key.1 ++ nL x.am
def witL (x : WitD) : List UInt8 := x.key.1 ++ x.sig.data.toList
/-- A list's bytes: how many, and each. -/
def listL {α : Type} (f : α → List UInt8) (l : List α) : List UInt8 := putL l.length ++ l.flatMap f
def bodyL (t : DeedD) : List UInt8 := listL inL t.ins ++ (listL outL t.outs ++ (nL t.fee ++ (nL t.from_ ++ (nL t.until_ ++ (listL certL t.certs ++ listL payL t.pays)))))
def allL (t : DeedD) : List UInt8 := bodyL t ++ listL witL t.wits

/-! ### Reading -/
/-- What is left to read, and whether all is well. -/
abbrev Rd := List UInt8 × Bool
/-- What is put is read, and what is read was put. -/
structure Good {α : Type} (f : Rd → α × Rd) (put : α → List UInt8) (ok : α → Prop) : Prop where
  there : ∀ x rest, ok x → f (put x ++ rest, true) = (x, rest, true)
  back : ∀ l b x rest, f (l, b) = (x, rest, true) → b = true ∧ l = put x ++ rest ∧ ok x
def numR (r : Rd) : UInt64 × Rd := if (takeL r.1).2.2 = 0 then (UInt64.ofNat (takeL r.1).1, r.1.drop (takeL r.1).2.1, r.2) else (0, r.1, false)
theorem good_num : Good numR nL (fun _ => True) where
  there n rest _ := by
    have h := takeL_put n.toNat (by have := n.toNat_lt; omega) rest
    unfold numR nL
    simp only [h, if_true]
    rw [List.drop_left', UInt64.ofNat_toNat]
    rfl
  back l b n rest h := by
    unfold numR at h
    simp only [] at h
    by_cases e : (takeL l).2.2 = 0
    · rw [if_pos e] at h
      simp only [Prod.mk.injEq] at h
      obtain ⟨rfl, rfl, rfl⟩ := h
      obtain ⟨h1, _, _, h4, h5⟩ := takeL_one l (takeL l).1 (takeL l).2.1 (by rw [← e])
      refine ⟨rfl, ?_, trivial⟩
      unfold nL
      rw [UInt64.toNat_ofNat', Nat.mod_eq_of_lt (by omega), h1, List.take_append_drop]
    · rw [if_neg e] at h
      simp at h
/-- So many bytes. -/
def hashR (r : Rd) : H32 × Rd := if h : r.1.length < 32 then (h0, r.1, false) else (⟨r.1.take 32, by rw [List.length_take]; omega⟩, r.1.drop 32, r.2)
theorem good_hash : Good hashR (fun x => x.1) (fun _ => True) where
  there x rest _ := by
    unfold hashR
    obtain ⟨l, hx⟩ := x
    rw [dif_neg (by simp only [List.length_append]; omega)]
    simp only [Prod.mk.injEq, and_true]
    exact ⟨Subtype.ext (List.take_left' hx), List.drop_left' hx⟩
  back l b x rest h := by
    unfold hashR at h
    split at h
    · simp at h
    · simp only [Prod.mk.injEq] at h
      obtain ⟨rfl, rfl, rfl⟩ := h
      exact ⟨rfl, (List.take_append_drop 32 l).symm, trivial⟩
def byteR (r : Rd) : UInt8 × Rd := match r.1 with
  | [] => (0, [], false)
  | c :: l => (c, l, r.2)
theorem good_byte : Good byteR (fun x => [x]) (fun _ => True) where
  there x rest _ := rfl
  back l b x rest h := by
    unfold byteR at h
    cases l with
    | nil => simp at h
    | cons c l =>
      simp only [Prod.mk.injEq] at h
      obtain ⟨rfl, rfl, rfl⟩ := h
      exact ⟨rfl, rfl, trivial⟩
def sigR (r : Rd) : ByteArray × Rd := if r.1.length < 1024 then (⟨(List.replicate 1024 0).toArray⟩, r.1, false) else (⟨(r.1.take 1024).toArray⟩, r.1.drop 1024, r.2)
theorem good_sig : Good sigR (fun x => x.data.toList) (fun x => x.size = 1024) where
  there x rest hx := by
    have hl : x.data.toList.length = 1024 := by rw [Array.length_toList]; exact hx
    unfold sigR
    rw [if_neg (by simp only [List.length_append]; omega)]
    simp only [Prod.mk.injEq, and_true]
    rw [← hl, List.take_left' rfl, List.drop_left' rfl]
    exact ⟨rfl, rfl⟩
  back l b x rest h := by
    unfold sigR at h
    by_cases e : l.length < 1024
    · rw [if_pos e] at h
      exact absurd (congrArg (fun y => y.2.2) h) (by intro h; cases h)
    · rw [if_neg e] at h
      simp only [Prod.mk.injEq] at h
      obtain ⟨rfl, rfl, rfl⟩ := h
      refine ⟨rfl, ?_, ?_⟩
      · show l = ((l.take 1024).toArray).toList ++ l.drop 1024
        rw [List.toList_toArray, List.take_append_drop]
      · show ((l.take 1024).toArray).size = 1024
        rw [List.size_toArray, List.length_take]
        omega
/-- One behind the other. -/
def andR {α β : Type} (f : Rd → α × Rd) (g : Rd → β × Rd) (r : Rd) : (α × β) × Rd := (((f r).1, (g (f r).2).1), (g (f r).2).2)
theorem Good.and {α β : Type} {f : Rd → α × Rd} {g : Rd → β × Rd} {p : α → List UInt8} {q : β → List UInt8} {o : α → Prop} {k : β → Prop} (hf : Good f p o) (hg : Good g q k) : Good (andR f g) (fun x => p x.1 ++ q x.2) (fun x => o x.1 ∧ k x.2) where
  there x rest h := by
    unfold andR
    rw [List.append_assoc, hf.there _ _ h.1]
    simp only []
    rw [hg.there _ _ h.2]
  back l b x rest h := by
    unfold andR at h
    simp only [Prod.mk.injEq] at h
    obtain ⟨h1, h2⟩ := h
    have h3 := hg.back (f (l, b)).2.1 (f (l, b)).2.2 x.2 rest (by rw [← h2, ← h1])
    have h4 := hf.back l b x.1 (f (l, b)).2.1 (by rw [← h3.1, ← h1])
    exact ⟨h4.1, by rw [List.append_assoc, ← h3.2.1]; exact h4.2.1, h4.2.2, h3.2.2⟩
/-- Told otherwise. -/
def mapR {α β : Type} (m : α → β) (f : Rd → α × Rd) (r : Rd) : β × Rd := (m (f r).1, (f r).2)
theorem Good.map {α β : Type} {f : Rd → α × Rd} {p : α → List UInt8} {o : α → Prop} (hf : Good f p o) (m : α → β) (u : β → α) (hu : ∀ y, m (u y) = y) (hm : ∀ x, u (m x) = x) : Good (mapR m f) (fun y => p (u y)) (fun y => o (u y)) where
  there y rest h := by
    unfold mapR
    rw [hf.there _ _ h, hu]
  back l b y rest h := by
    unfold mapR at h
    simp only [Prod.mk.injEq] at h
    obtain ⟨h1, h2⟩ := h
    have h3 := hf.back l b (f (l, b)).1 rest (by rw [← h2])
    rw [← h1, hm]
    exact h3
theorem Good.same {α : Type} {f : Rd → α × Rd} {p q : α → List UInt8} {o k : α → Prop} (hf : Good f p o) (hp : ∀ x, q x = p x) (hk : ∀ x, k x ↔ o x) : Good f q k where
  there x rest h := by rw [hp, hf.there _ _ ((hk x).1 h)]
  back l b x rest h := by
    obtain ⟨h1, h2, h3⟩ := hf.back l b x rest h
    exact ⟨h1, by rw [hp]; exact h2, (hk x).2 h3⟩
def countR (most : Nat) (r : Rd) : Nat × Rd := if most < (numR r).1.toNat then (0, (numR r).2.1, false) else ((numR r).1.toNat, (numR r).2)
theorem good_count (most : Nat) (hm : most < 2 ^ 64) : Good (countR most) putL (fun n => n ≤ most) where
  there n rest h := by
    have h1 := good_num.there (UInt64.ofNat n) rest trivial
    unfold nL at h1
    rw [UInt64.toNat_ofNat', Nat.mod_eq_of_lt (by omega)] at h1
    unfold countR
    rw [h1, UInt64.toNat_ofNat', Nat.mod_eq_of_lt (by omega), if_neg (by omega)]
  back l b n rest h := by
    unfold countR at h
    by_cases e : most < (numR (l, b)).1.toNat
    · rw [if_pos e] at h
      simp at h
    · rw [if_neg e] at h
      simp only [Prod.mk.injEq] at h
      obtain ⟨h1, h2⟩ := h
      obtain ⟨h3, h4, _⟩ := good_num.back l b (numR (l, b)).1 rest (by rw [← h2])
      unfold nL at h4
      rw [h1] at h4
      exact ⟨h3, h4, by omega⟩
def listR {α : Type} (f : Rd → α × Rd) : Nat → Rd → List α × Rd
  | 0, r => ([], r)
  | n + 1, r => if r.2 = true then ((f r).1 :: (listR f n (f r).2).1, (listR f n (f r).2).2) else ([], r)
theorem listR_there {α : Type} {f : Rd → α × Rd} {p : α → List UInt8} {o : α → Prop} (hf : Good f p o) : ∀ (l : List α) (rest : List UInt8), (∀ x ∈ l, o x) → listR f l.length (l.flatMap p ++ rest, true) = (l, rest, true)
  | [], _, _ => rfl
  | x :: l, rest, h => by
    rw [List.length_cons, listR, if_pos rfl, List.flatMap_cons, List.append_assoc, hf.there _ _ (h x (by simp)), listR_there hf l rest (fun y hy => h y (by simp [hy]))]
theorem listR_back {α : Type} {f : Rd → α × Rd} {p : α → List UInt8} {o : α → Prop} (hf : Good f p o) : ∀ (n : Nat) (l : List UInt8) (b : Bool) (xs : List α) (rest : List UInt8), listR f n (l, b) = (xs, rest, true) → b = true ∧ l = xs.flatMap p ++ rest ∧ xs.length = n ∧ ∀ x ∈ xs, o x
  | 0, l, b, xs, rest, h => by
    rw [listR] at h
    simp only [Prod.mk.injEq] at h
    obtain ⟨rfl, rfl, rfl⟩ := h
    exact ⟨rfl, by simp, rfl, by simp⟩
  | n + 1, l, b, xs, rest, h => by
    rw [listR] at h
    by_cases e : b = true
    · rw [if_pos e] at h
      simp only [Prod.mk.injEq] at h
      obtain ⟨h1, h2⟩ := h
      obtain ⟨k1, k2, k3, k4⟩ := listR_back hf n (f (l, b)).2.1 (f (l, b)).2.2 (listR f n (f (l, b)).2).1 rest (by rw [← h2])
      obtain ⟨j1, j2, j3⟩ := hf.back l b (f (l, b)).1 (f (l, b)).2.1 (by rw [← k1])
      subst h1
      refine ⟨j1, ?_, by rw [List.length_cons, k3], fun x hx => ?_⟩
      · rw [List.flatMap_cons, List.append_assoc, ← k2]
        exact j2
      · rcases List.mem_cons.1 hx with rfl | hx
        · exact j3
        · exact k4 x hx
    · rw [if_neg e] at h
      simp only [Prod.mk.injEq] at h
      exact absurd h.2.2 e
/-- A list: how many, and each. -/
def manyR {α : Type} (most : Nat) (f : Rd → α × Rd) (r : Rd) : List α × Rd := listR f (countR most r).1 (countR most r).2
theorem Good.many {α : Type} {f : Rd → α × Rd} {p : α → List UInt8} {o : α → Prop} (hf : Good f p o) (most : Nat) (hm : most < 2 ^ 64) : Good (manyR most f) (listL p) (fun l => l.length ≤ most ∧ ∀ x ∈ l, o x) where
  there l rest h := by
    unfold manyR listL
    rw [List.append_assoc, (good_count most hm).there _ _ h.1, listR_there hf l rest h.2]
  back l b xs rest h := by
    unfold manyR at h
    obtain ⟨k1, k2, k3, k4⟩ := listR_back hf _ (countR most (l, b)).2.1 (countR most (l, b)).2.2 xs rest h
    obtain ⟨j1, j2, j3⟩ := (good_count most hm).back l b (countR most (l, b)).1 (countR most (l, b)).2.1 (by rw [← k1])
    refine ⟨j1, ?_, by omega, k4⟩
    unfold listL
    rw [List.append_assoc, ← k2, k3]
    exact j2
def inR : Rd → InD × Rd := mapR (fun x => ⟨x.1, x.2⟩) (andR hashR numR)
def outR : Rd → OutD × Rd := mapR (fun x => ⟨x.1, x.2.1, x.2.2⟩) (andR hashR (andR hashR numR))
def certR : Rd → CertD × Rd := mapR (fun x => ⟨x.1, x.2.1, x.2.2.1, x.2.2.2.1, x.2.2.2.2.1, x.2.2.2.2.2⟩) (andR byteR (andR hashR (andR hashR (andR numR (andR numR numR)))))
def payR : Rd → PayD × Rd := mapR (fun x => ⟨x.1, x.2⟩) (andR hashR numR)
def witR : Rd → WitD × Rd := mapR (fun x => ⟨x.1, x.2⟩) (andR hashR sigR)
theorem good_in : Good inR inL (fun _ => True) := ((good_hash.and good_num).map (fun x => (⟨x.1, x.2⟩ : InD)) (fun y => (y.tx, y.ix)) (fun _ => rfl) (fun _ => rfl)).same (fun _ => rfl) (fun _ => by simp)
theorem good_out : Good outR outL (fun _ => True) := ((good_hash.and (good_hash.and good_num)).map (fun x => (⟨x.1, x.2.1, x.2.2⟩ : OutD)) (fun y => (y.to_, y.st, y.am)) (fun _ => rfl) (fun _ => rfl)).same (fun _ => rfl) (fun _ => by simp)
theorem good_cert : Good certR certL (fun _ => True) := ((good_byte.and (good_hash.and (good_hash.and (good_num.and (good_num.and good_num))))).map (fun x => (⟨x.1, x.2.1, x.2.2.1, x.2.2.2.1, x.2.2.2.2.1, x.2.2.2.2.2⟩ : CertD)) (fun y => (y.kind, y.key, y.pool, y.a, y.b, y.c)) (fun _ => rfl) (fun _ => rfl)).same (fun _ => rfl) (fun _ => by simp)
theorem good_pay : Good payR payL (fun _ => True) := ((good_hash.and good_num).map (fun x => (⟨x.1, x.2⟩ : PayD)) (fun y => (y.key, y.am)) (fun _ => rfl) (fun _ => rfl)).same (fun _ => rfl) (fun _ => by simp)
theorem good_wit : Good witR witL (fun x => x.sig.size = 1024) := ((good_hash.and good_sig).map (fun x => (⟨x.1, x.2⟩ : WitD)) (fun y => (y.key, y.sig)) (fun _ => rfl) (fun _ => rfl)).same (fun _ => rfl) (fun _ => by simp)
/-- A deed, part by part. -/
abbrev Parts := List InD × List OutD × UInt64 × UInt64 × UInt64 × List CertD × List PayD
def partsD (t : DeedD) : Parts := (t.ins, t.outs, t.fee, t.from_, t.until_, t.certs, t.pays)
def ofParts (p : Parts) (w : List WitD) : DeedD := ⟨p.1, p.2.1, p.2.2.1, p.2.2.2.1, p.2.2.2.2.1, p.2.2.2.2.2.1, p.2.2.2.2.2.2, w⟩
def bodyR : Rd → Parts × Rd := andR (manyR 8 inR) (andR (manyR 8 outR) (andR numR (andR numR (andR numR (andR (manyR 4 certR) (manyR 4 payR))))))
theorem good_body : Good bodyR (fun p => bodyL (ofParts p [])) (fun p => (p.1.length ≤ 8 ∧ ∀ x ∈ p.1, True) ∧ (p.2.1.length ≤ 8 ∧ ∀ x ∈ p.2.1, True) ∧ True ∧ True ∧ True ∧ (p.2.2.2.2.2.1.length ≤ 4 ∧ ∀ x ∈ p.2.2.2.2.2.1, True) ∧ (p.2.2.2.2.2.2.length ≤ 4 ∧ ∀ x ∈ p.2.2.2.2.2.2, True)) :=
  (good_in.many 8 (by decide)).and ((good_out.many 8 (by decide)).and (good_num.and (good_num.and (good_num.and ((good_cert.many 4 (by decide)).and (good_pay.many 4 (by decide)))))))
def deedR (r : Rd) : DeedD × Rd := mapR (fun x => ofParts x.1 x.2) (andR bodyR (manyR 8 witR)) r
theorem good_deed : Good deedR allL (fun t => (t.ins.length ≤ 8 ∧ t.outs.length ≤ 8 ∧ t.certs.length ≤ 4 ∧ t.pays.length ≤ 4) ∧ t.wits.length ≤ 8 ∧ ∀ x ∈ t.wits, x.sig.size = 1024) :=
  ((good_body.and (good_wit.many 8 (by decide))).map (fun x => ofParts x.1 x.2) (fun t => (partsD t, t.wits)) (fun _ => rfl) (fun _ => rfl)).same (fun _ => rfl) (fun _ => by simp [partsD])
/-- So many bytes. -/
def textR (n : Nat) (r : Rd) : List UInt8 × Rd := if r.1.length < n then (List.replicate n 0, r.1, false) else (r.1.take n, r.1.drop n, r.2)
theorem textR_le (n : Nat) (r : Rd) : (textR n r).2.1.length ≤ r.1.length := by
  unfold textR
  split
  · exact Nat.le_refl _
  · simp
theorem textR_len (n : Nat) (r : Rd) : (textR n r).1.length = n := by
  unfold textR
  split
  · simp
  · simp only [List.length_take]
    omega
theorem hashR_text (r : Rd) : (hashR r).1.1 = (textR 32 r).1 ∧ (hashR r).2 = (textR 32 r).2 := by
  unfold hashR textR
  by_cases h : r.1.length < 32
  · rw [dif_pos h, if_pos h]
    exact ⟨rfl, rfl⟩
  · rw [dif_neg h, if_neg h]
    exact ⟨rfl, rfl⟩
end Go.Proofs.YtdgaoebjbhomdaaDoor.Deed
