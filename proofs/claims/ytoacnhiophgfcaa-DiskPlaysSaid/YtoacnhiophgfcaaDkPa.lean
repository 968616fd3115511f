/- disk: both disks side by side. -/
import Derived.Test.YtoacnhiophgfcaaDkCb
import Derived.Test.YtoacnhiophgfcaaDkT
namespace Go.Proofs.Ytoacnhiophgfcaa.Dk
open Go.RowKit Go.Proofs.Ytoacnhiophgfcaa.Gr
def DTy (t : TypeId) : Prop := t = 58 ∨ t = 61
theorem dty_ref (t : TypeId) (h : RefTy t) : ¬ DTy t := by rcases h with rfl | rfl | rfl <;> (intro h; rcases h with h | h <;> exact absurd h (by decide))
theorem own_kp2 {α : Type} {K : Kind Try.prog α} {B C : Nat} {T : TypeId → Prop} {w w' : World} {lv : Value} {L : List α} (h : K.Own C lv L w) (hk : Kp B T w w') (hT : ¬ T K.T) : K.Own C lv L w' := by
  rcases h.2 with ⟨rfl, e⟩ | ⟨b, cp, cur, rfl, hb, hc, r⟩
  · exact ⟨h.1, Or.inl ⟨rfl, e⟩⟩
  · exact ⟨h.1, Or.inr ⟨b, cp, cur, rfl, hb, hk.block b _ hc (Or.inr fun cs t fz e => by cases e; exact hT), r⟩⟩
section
variable {B n m g r : Nat} {w w' : World} {lv lv' : Value} {S T R : St}
theorem Mine.kp {F : TypeId → Prop} (h : Mine B n w g lv S) (hk : Kp B F w w') (h1 : ¬ F 58) (h2 : ¬ F 61) : Mine B n w' g lv S :=
  ⟨⟨hk.block g _ h.at_.heap (Or.inr fun cs t fz e => by cases e; exact h1), h.at_.now, h.at_.sure, own_kp2 h.at_.own hk h2⟩, h.good, h.gB, h.own⟩
theorem RefAt.kp {F : TypeId → Prop} (h : RefAt B w r S) (hk : Kp B F w w') (hF : ∀ t, RefTy t → ¬ F t) : RefAt B w' r S := by
  obtain ⟨na, nc, sa, sc, lv, goes, h1, h2⟩ := h
  exact ⟨na, nc, sa, sc, lv, goes, h1.kp hk hF, h2⟩
theorem Left.kp (h : Left w g lv T w' lv') (hd : Mine B n w g lv S) : Kp B DTy w w' :=
  ⟨h.frm.os, h.frm.tape, h.frm.output, h.frm.size, fun k o hk hc => by
    rw [h.frm.block k (Array.getElem?_eq_some_iff.1 hk).1 (fun hf => ?_)]
    · exact hk
    · have hb := hd.fb k hf
      rcases hc with hc | hc
      · omega
      · rcases hf with hf | hf
        · rw [hf, hd.at_.heap] at hk
          exact hc _ _ _ (Option.some.inj hk).symm (Or.inl rfl)
        · obtain ⟨cs, h2⟩ := own_type hd.at_.own k hf
          rw [h2] at hk
          exact hc _ _ _ (Option.some.inj hk).symm (Or.inr rfl)⟩
/-- What a call of the code's leaves of both. -/
def DPost (B n : Nat) (w : World) (g r : Nat) (v : Value) (T R : St) (e : Ending) (w' : World) : Prop := e = .returned v ∧ Kp B DTy w w' ∧ RefAt B w' r R ∧ ∃ lv, Mine B n w' g lv T
theorem dpost (h : Mine B n w g lv S) (hr : RefAt B w r R) (hT : GoodN m T) (hB : B ≤ w.heap.size) (hl : Left w g lv T w' lv') : Kp B DTy w w' ∧ RefAt B w' r R ∧ ∃ lv, Mine B m w' g lv T :=
  ⟨hl.kp h, hr.kp (hl.kp h) dty_ref, lv', (h.next hl hT hB).1⟩
theorem Mine.appendD (h : Mine B n w g lv S) (hr : RefAt B w r R) (hn : n ≤ 1000000) (hB : B ≤ w.heap.size) (f : Int) (s : ByteArray) : Calls Try.prog 10 #[.pointer (some ⟨g, 0, none⟩), .int .i64 f, .string s] w (DPost B (n + 1) w g r (.int .i64 (appendS S f s).1) (appendS S f s).2 R) :=
  (code_Append g lv S f s w h.at_ (h.good.good (by omega)).toFits).mono fun _ _ ⟨he, _, hl⟩ => ⟨he, dpost h hr (h.good.append f s) hB hl⟩
theorem Mine.cutD (h : Mine B n w g lv S) (hr : RefAt B w r R) (hn : n ≤ 1000000) (hB : B ≤ w.heap.size) (f m : Int) : Calls Try.prog 18 #[.pointer (some ⟨g, 0, none⟩), .int .i64 f, .int .i64 m] w (DPost B (n + 1) w g r (.int .i64 (cutterS S f m).1) (cutterS S f m).2 R) :=
  (code_Cut g lv S f m w h.at_ (h.good.good (by omega)).toFits).mono fun _ _ ⟨he, _, hl⟩ => ⟨he, dpost h hr (h.good.cut f m) hB hl⟩
theorem Mine.syncD (h : Mine B n w g lv S) (hr : RefAt B w r R) (hn : n ≤ 1000000) (hB : B ≤ w.heap.size) (f : Int) : Calls Try.prog 15 #[.pointer (some ⟨g, 0, none⟩), .int .i64 f] w (DPost B (n + 1) w g r (.int .i64 (syncerS S f).1) (syncerS S f).2 R) :=
  (code_Sync g lv S f w h.at_ (h.good.good (by omega)).toFits).mono fun _ _ ⟨he, _, hl⟩ => ⟨he, dpost h hr (h.good.sync f) hB hl⟩
theorem Mine.powerD (h : Mine B n w g lv S) (hr : RefAt B w r R) (hB : B ≤ w.heap.size) (m : Int) : Calls Try.prog 19 #[.pointer (some ⟨g, 0, none⟩), .int .i64 m] w (DPost B (n + 1) w g r (.int .i64 (powerS S m).1) (powerS S m).2 R) :=
  (code_Power g lv S m w h.at_).mono fun _ _ ⟨he, hl⟩ => ⟨he, dpost h hr ((h.good.power m).mono (by omega)) hB hl⟩
theorem Mine.crashD (h : Mine B n w g lv S) (hr : RefAt B w r R) (hn : n ≤ 1000000) (hB : B ≤ w.heap.size) (kv : Value) (keep : List Int) (hK : KI.At w kv keep) : Calls Try.prog 16 #[.pointer (some ⟨g, 0, none⟩), kv] w (DPost B (n + 1) w g r (.int .i64 0) (crashS S keep) R) :=
  (code_Crash g lv S kv keep w h.at_ (h.good.good (by omega)) hK).mono fun _ _ ⟨he, hl⟩ => ⟨he, dpost h hr ((h.good.crash keep).mono (by omega)) hB hl⟩
theorem RefAt.append (h : RefAt B w r S) (hS : GoodN n S) (hn : n ≤ 1000000) (hB : B ≤ w.heap.size) (f : Int) (s : ByteArray) (hs : s.size ≤ 16777216) : Calls Try.prog 38 #[.pointer (some ⟨r, 0, none⟩), .int .i64 f, .string s] w (RPost B w r (.int .i64 (appendS S f s).1) (appendS S f s).2) := by
  obtain ⟨na, nc, sa, sc, lv, goes, h1, h2⟩ := h
  exact ref_Append w h1 h2 (by have := hS.ops; omega) (by have := hS.loose; omega) hS.now hB f s hs
theorem RefAt.cut (h : RefAt B w r S) (hS : GoodN n S) (hn : n ≤ 1000000) (hB : B ≤ w.heap.size) (f m : Int) : Calls Try.prog 39 #[.pointer (some ⟨r, 0, none⟩), .int .i64 f, .int .i64 m] w (RPost B w r (.int .i64 (cutterS S f m).1) (cutterS S f m).2) := by
  obtain ⟨na, nc, sa, sc, lv, goes, h1, h2⟩ := h
  exact ref_Cut w h1 h2 (by have := hS.ops; omega) (by have := hS.loose; omega) hS.now hB f m
theorem RefAt.sync (h : RefAt B w r S) (hS : GoodN n S) (hn : n ≤ 1000000) (hB : B ≤ w.heap.size) (f : Int) : Calls Try.prog 40 #[.pointer (some ⟨r, 0, none⟩), .int .i64 f] w (RPost B w r (.int .i64 (syncerS S f).1) (syncerS S f).2) := by
  obtain ⟨na, nc, sa, sc, lv, goes, h1, h2⟩ := h
  exact ref_Sync w h1 h2 (by have := hS.ops; omega) (by have := hS.loose; omega) hB f
theorem RefAt.power (h : RefAt B w r S) (hS : GoodN n S) (hn : n ≤ 1000000) (m : Int) : Calls Try.prog 42 #[.pointer (some ⟨r, 0, none⟩), .int .i64 m] w (RPost B w r (.int .i64 (powerS S m).1) (powerS S m).2) := by
  obtain ⟨na, nc, sa, sc, lv, goes, h1, h2⟩ := h
  exact ref_Power w h1 h2 (by have := hS.ops; omega) m
theorem RefAt.read (h : RefAt B w r S) (hS : GoodN n S) (f a m : Int) : Calls Try.prog 41 #[.pointer (some ⟨r, 0, none⟩), .int .i64 f, .int .i64 a, .int .i64 m] w fun e w' => e = .returned (.tuple #[.string (readV S f a m).1, .int .i64 (readV S f a m).2]) ∧ w = w' := by
  obtain ⟨na, nc, sa, sc, lv, goes, h1, h2⟩ := h
  exact ref_Read w h1 f a m hS.now
theorem RefAt.size (h : RefAt B w r S) (f : Int) : Calls Try.prog 25 #[.pointer (some ⟨r, 0, none⟩), .int .i64 f] w fun e w' => e = .returned (.int .i64 (sizeF S f)) ∧ w = w' := by
  obtain ⟨na, nc, sa, sc, lv, goes, h1, h2⟩ := h
  exact ref_Size w f h1
theorem RefAt.crash (h : RefAt B w r S) (hS : GoodN n S) (hn : n ≤ 1000000) (hB : B ≤ w.heap.size) (kv : Value) (keep : List Int) (hK : ∀ w', Below B w w' → KI.At w' kv keep) (hkl : keep.length ≤ 1000000000) (hkw : ∀ z ∈ keep, (Lit.int .i64 z).wf = true) : Calls Try.prog 43 #[.pointer (some ⟨r, 0, none⟩), kv] w (RPost B w r (.tuple #[]) (crashS S keep)) := by
  obtain ⟨na, nc, sa, sc, lv, goes, h1, h2⟩ := h
  exact ref_Crash w h1 hS hn hB kv keep hK hkl hkw
end
/-- What a script's call makes of the plain state. -/
def opP (S : St) (x : OpT) (keep : List Int) : St := if x.kind = 0 then (appendS S x.file x.s).2 else if x.kind = 1 then (cutterS S x.file x.n).2 else if x.kind = 2 then (syncerS S x.file).2 else if x.kind = 4 then (powerS S x.n).2 else if x.kind = 5 then crashS S keep else S
theorem GoodN.opP {n : Nat} {S : St} (h : GoodN n S) (x : OpT) (keep : List Int) : GoodN (n + 1) (opP S x keep) := by
  unfold Dk.opP
  split
  · exact h.append _ _
  · split
    · exact h.cut _ _
    · split
      · exact h.sync _
      · split
        · exact (h.power _).mono (by omega)
        · split
          · exact (h.crash _).mono (by omega)
          · exact h.mono (by omega)
def AnyTy (t : TypeId) : Prop := DTy t ∨ RefTy t
theorem Kp.mono {B : Nat} {T T' : TypeId → Prop} {a b : World} (h : Kp B T a b) (hT : ∀ t, T t → T' t) : Kp B T' a b :=
  ⟨h.os, h.tape, h.output, h.size, fun k o hk hc => h.block k o hk (hc.imp id fun f cs t fz e ht => f cs t fz e (hT t ht))⟩
theorem Kp.anyD {B : Nat} {a b : World} (h : Kp B DTy a b) : Kp B AnyTy a b := h.mono fun _ => Or.inl
theorem Kp.anyR {B : Nat} {a b : World} (h : Kp B RefTy a b) : Kp B AnyTy a b := h.mono fun _ => Or.inr
/-- What a script's call leaves of both. -/
def DoesPost (B n : Nat) (w : World) (r : Nat) (T : St) (e : Ending) (w' : World) : Prop := ∃ g lv, e = .returned (.tuple #[.pointer (some ⟨g, 0, none⟩), .bool true]) ∧ Mine B n w' g lv T ∧ RefAt B w' r T ∧ Kp B AnyTy w w'
end Go.Proofs.Ytoacnhiophgfcaa.Dk
