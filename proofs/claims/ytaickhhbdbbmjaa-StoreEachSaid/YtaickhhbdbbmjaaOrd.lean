/-
  Program-free: orders of ints, of rows, of pairs of orders; things and their order.
-/
import Derived.Test.YtaickhhbdbbmjaaParts
import Derived.Lib.Bytealg
import Derived.Lib.Small
namespace Go.Proofs.Ytaickhhbdbbmjaa.ord
open nums

/-- one order: -1, 0, 1 -/
structure Tot {α : Type} (f : α → α → Int) : Prop where
  bd : ∀ x y, f x y = -1 ∨ f x y = 0 ∨ f x y = 1
  anti : ∀ x y, f x y = -f y x
  zero : ∀ x y, f x y = 0 ↔ x = y
  trans : ∀ x y z, f x y ≤ 0 → f y z ≤ 0 → f x z ≤ 0
def cmpI (x y : Int) : Int := if x < y then -1 else if x > y then 1 else 0
theorem cmpI_lib : Lib.compareInt = cmpI := rfl
theorem cmpI_tot : Tot cmpI := by
  refine ⟨fun x y => ?_, fun x y => ?_, fun x y => ?_, fun x y z => ?_⟩ <;> unfold cmpI <;> (repeat' split) <;> omega
def cmpN (x y : Nat) : Int := cmpI x y
theorem cmpN_tot : Tot cmpN := by
  refine ⟨fun x y => cmpI_tot.bd _ _, fun x y => cmpI_tot.anti _ _, fun x y => ?_, fun x y z => cmpI_tot.trans _ _ _⟩
  unfold cmpN
  rw [cmpI_tot.zero]
  omega
def cmpC (x y : UInt8) : Int := if x < y then -1 else if y < x then 1 else 0
theorem cmpC_eq (x y : UInt8) : cmpC x y = cmpN x.toNat y.toNat := by
  unfold cmpC cmpN cmpI
  have h1 : x < y ↔ (x.toNat : Int) < (y.toNat : Int) := by rw [UInt8.lt_iff_toNat_lt]; omega
  have h2 : y < x ↔ (x.toNat : Int) > (y.toNat : Int) := by rw [UInt8.lt_iff_toNat_lt]; omega
  simp only [h1, h2]
theorem cmpC_tot : Tot cmpC := by
  refine ⟨fun x y => ?_, fun x y => ?_, fun x y => ?_, fun x y z => ?_⟩
  · rw [cmpC_eq]; exact cmpN_tot.bd _ _
  · rw [cmpC_eq, cmpC_eq]; exact cmpN_tot.anti _ _
  · rw [cmpC_eq, cmpN_tot.zero, UInt8.toNat_inj]
  · rw [cmpC_eq, cmpC_eq, cmpC_eq]; exact cmpN_tot.trans _ _ _

/-- the first that isn't 0 -/
def thn (a b : Int) : Int := if a = 0 then b else a
theorem pair_tot {α β : Type} {f : α → α → Int} {g : β → β → Int} (hf : Tot f) (hg : Tot g) : Tot fun (x y : α × β) => thn (f x.1 y.1) (g x.2 y.2) := by
  refine ⟨fun x y => ?_, fun x y => ?_, fun x y => ?_, fun x y z => ?_⟩
  · have := hf.bd x.1 y.1; have := hg.bd x.2 y.2; unfold thn; split <;> omega
  · have h1 := hf.anti x.1 y.1; have h2 := hg.anti x.2 y.2; unfold thn; (repeat' split) <;> omega
  · have h1 := hf.zero x.1 y.1
    have h2 := hg.zero x.2 y.2
    obtain ⟨x1, x2⟩ := x
    obtain ⟨y1, y2⟩ := y
    simp only [Prod.mk.injEq] at *
    rw [← h1, ← h2]
    unfold thn
    split <;> omega
  · have h1 := hf.trans x.1 y.1 z.1
    have h2 := hg.trans x.2 y.2 z.2
    have a1 := hf.anti x.1 y.1
    have a2 := hf.anti y.1 z.1
    have a3 := hf.anti x.1 z.1
    have t1 := hf.trans z.1 x.1 y.1
    have t2 := hf.trans y.1 z.1 x.1
    unfold thn
    (repeat' split) <;> omega
theorem Tot.comap {α β : Type} {f : β → β → Int} (h : Tot f) (m : α → β) (hm : ∀ x y, m x = m y → x = y) : Tot fun x y => f (m x) (m y) :=
  ⟨fun _ _ => h.bd _ _, fun _ _ => h.anti _ _, fun x y => ⟨fun e => hm x y ((h.zero _ _).1 e), fun e => (h.zero _ _).2 (by rw [e])⟩, fun _ _ _ => h.trans _ _ _⟩

/-- row by row -/
def cmpL {α : Type} (f : α → α → Int) : List α → List α → Int
  | [], [] => 0
  | [], _ :: _ => -1
  | _ :: _, [] => 1
  | a :: r1, b :: r2 => thn (f a b) (cmpL f r1 r2)
theorem cmpL_tot {α : Type} {f : α → α → Int} (h : Tot f) : Tot (cmpL f) := by
  refine ⟨fun x => ?_, fun x => ?_, fun x => ?_, fun x => ?_⟩
  · induction x with
    | nil => intro y; cases y <;> simp [cmpL]
    | cons a r1 ih =>
      intro y
      cases y with
      | nil => simp [cmpL]
      | cons b r2 => have := h.bd a b; have := ih r2; simp only [cmpL, thn]; split <;> omega
  · induction x with
    | nil => intro y; cases y <;> simp [cmpL]
    | cons a r1 ih =>
      intro y
      cases y with
      | nil => simp [cmpL]
      | cons b r2 => have := h.anti a b; have := ih r2; simp only [cmpL, thn]; (repeat' split) <;> omega
  · induction x with
    | nil => intro y; cases y <;> simp [cmpL]
    | cons a r1 ih =>
      intro y
      cases y with
      | nil => simp [cmpL]
      | cons b r2 =>
        have h1 := h.zero a b
        have h2 := ih r2
        simp only [cmpL, thn, List.cons.injEq]
        rw [← h1, ← h2]
        split <;> omega
  · induction x with
    | nil => intro y z; cases y <;> cases z <;> simp [cmpL]
    | cons a r1 ih =>
      intro y z
      cases y with
      | nil => simp [cmpL]
      | cons b r2 =>
        cases z with
        | nil => simp [cmpL]
        | cons c r3 =>
          have h1 := h.trans a b c
          have h2 := ih r2 r3
          have a1 := h.anti a b
          have a2 := h.anti b c
          have a3 := h.anti a c
          have t1 := h.trans c a b
          have t2 := h.trans b c a
          simp only [cmpL, thn]
          (repeat' split) <;> omega
theorem cmpL_lib : ∀ a b : List UInt8, Lib.compareBytes a b = cmpL cmpC a b
  | [], [] => rfl
  | [], _ :: _ => rfl
  | _ :: _, [] => rfl
  | a :: r1, b :: r2 => by
    simp only [Lib.compareBytes, cmpL, thn, cmpC, cmpL_lib r1 r2]
    (repeat' split) <;> simp_all
theorem less_lib : ∀ a b : List UInt8, Op.bytesLess a b = decide (cmpL cmpC a b < 0)
  | [], [] => rfl
  | [], _ :: _ => by simp [Op.bytesLess, cmpL]
  | _ :: _, [] => by simp [Op.bytesLess, cmpL]
  | a :: r1, b :: r2 => by
    have ih := less_lib r1 r2
    simp only [Op.bytesLess, cmpL, thn, cmpC, ih]
    by_cases h1 : a < b
    · simp [h1]
    · by_cases h2 : b < a
      · have : (a == b) = false := by
          rw [beq_eq_false_iff_ne]
          intro e; subst e; exact UInt8.lt_irrefl a h2
        simp [h1, h2, this]
      · have : a = b := UInt8.le_antisymm (UInt8.not_lt.1 h2) (UInt8.not_lt.1 h1)
        subst this
        simp [UInt8.lt_irrefl]

/-- rows that are the same so far -/
theorem cmpL_drop {α : Type} {f : α → α → Int} (h : Tot f) (l m : List α) (k : Nat) (hk : k ≤ l.length) (hm : k ≤ m.length) (he : l.take k = m.take k) : cmpL f l m = cmpL f (l.drop k) (m.drop k) := by
  induction k generalizing l m with
  | zero => simp
  | succ k ih =>
    cases l with
    | nil => simp at hk
    | cons a r1 =>
      cases m with
      | nil => simp at hm
      | cons b r2 =>
        simp only [List.take_succ_cons, List.cons.injEq] at he
        obtain ⟨rfl, he⟩ := he
        simp only [List.drop_succ_cons, cmpL, thn]
        rw [(h.zero a a).2 rfl, if_pos rfl]
        exact ih r1 r2 (by simpa using hk) (by simpa using hm) he
theorem cmpL_at {α : Type} {f : α → α → Int} (h : Tot f) (l m : List α) (k : Nat) (hk : k < l.length) (hm : k < m.length) (he : l.take k = m.take k) (hne : f l[k] m[k] ≠ 0) : cmpL f l m = f l[k] m[k] := by
  rw [cmpL_drop h l m k (by omega) (by omega) he, List.drop_eq_getElem_cons hk, List.drop_eq_getElem_cons hm]
  simp only [cmpL, thn]
  rw [if_neg hne]

/-! ### things -/
structure Thing where
  tag : Int
  vec : List Int
  str : ByteArray
def zeroO : Thing := ⟨0, [], ⟨#[]⟩⟩
/-- what a Go thing can hold -/
def Okay (x : Thing) : Prop := (-9223372036854775808 ≤ x.tag ∧ x.tag ≤ 9223372036854775807) ∧ ∀ n ∈ x.vec, -2147483648 ≤ n ∧ n ≤ 2147483647
def cmpO (x y : Thing) : Int := thn (cmpI x.tag y.tag) (thn (cmpN x.vec.length y.vec.length) (thn (cmpL cmpI x.vec y.vec) (cmpL cmpC (tl x.str) (tl y.str))))
theorem tl_inj {a b : ByteArray} (h : tl a = tl b) : a = b := by
  cases a; cases b
  simp only [tl, Array.toList_inj] at h
  rw [h]
theorem cmpO_tot : Tot cmpO := by
  have h1 := pair_tot cmpI_tot (pair_tot cmpN_tot (pair_tot (cmpL_tot cmpI_tot) (cmpL_tot cmpC_tot)))
  have h2 := h1.comap (fun x : Thing => (x.tag, x.vec.length, x.vec, tl x.str)) (fun x y e => by
    obtain ⟨a, b, c⟩ := x
    obtain ⟨a', b', c'⟩ := y
    simp only [Prod.mk.injEq] at e
    obtain ⟨rfl, _, rfl, e⟩ := e
    rw [tl_inj e])
  exact h2
def lessO (x y : Thing) : Bool := decide (cmpO x y < 0)
def sameO (x y : Thing) : Bool := decide (cmpO x y = 0)
theorem sameO_eq (x y : Thing) : sameO x y = (!lessO x y && !lessO y x) := by
  have := cmpO_tot.anti x y
  unfold sameO lessO
  by_cases h : cmpO x y = 0
  · rw [decide_eq_true h, decide_eq_false (by omega), decide_eq_false (by omega)]; rfl
  · rw [decide_eq_false h]
    rcases cmpO_tot.bd x y with h1 | h1 | h1
    · rw [decide_eq_true (by omega : cmpO x y < 0)]; rfl
    · omega
    · rw [decide_eq_true (by omega : cmpO y x < 0)]; simp
theorem sameO_rfl (x : Thing) : sameO x x = true := by unfold sameO; rw [decide_eq_true ((cmpO_tot.zero x x).2 rfl)]

/-! ### of a metric and a size -/
def tagOf (m : Int) : Int := if m = 1 then 1 else if m = 2 then 2 else if m = 3 then 2 else 0
def rightO (x : Thing) (m s : Int) : Bool :=
  if s < 0 ∨ 65536 < s then false
  else if m = 1 then decide (x.tag = 1) && decide ((x.vec.length : Int) = s) && decide (x.str.size = 0)
  else if m = 2 then decide (x.tag = 2) && decide ((x.str.size : Int) = s) && decide (x.vec.length = 0)
  else decide (m = 3) && decide (x.tag = 2) && decide ((x.str.size : Int) ≤ s) && decide (x.vec.length = 0)
def lenO (x : Thing) : Int × Bool :=
  if x.tag = 2 then (if x.vec.length = 0 then ((x.str.size : Int), true) else (0, false))
  else if x.tag = 1 then (if x.str.size = 0 then ((x.vec.length : Int), true) else (0, false)) else (0, false)
end Go.Proofs.Ytaickhhbdbbmjaa.ord
