/-
  A tree of nodes in memory; the contracts of a node's len, weight, side, count.
-/
import Derived.Test.YtaickhhbdbbmjaaDirM
import Derived.Test.YtaickhhbdbbmjaaRowK
import Derived.Test.YtaickhhbdbbmjaaQuiet
import Derived.Deep.RegionHeld3
import Derived.Deep.LoopGhost
import Derived.Deep.Cut
import Derived.Deep.CutRange
import Derived.BigRegion
import Derived.BigQuiet
import Derived.WalkSpells
import Derived.Lib.Hide
namespace Go.Proofs.Ytaickhhbdbbmjaa.direct
open Go.RowKit law bytes only flat
set_option linter.unusedVariables false

/-- where a tree's top node lies -/
def pa : T → Option Addr
  | .nil => none
  | .node b _ _ _ _ => some ⟨b, 0, none⟩
def pt (t : T) : Value := .pointer (pa t)
/-- a node's cells -/
def nd (k s z : Int) (l r : T) : Array Value := #[.int .u64 k, .int .i64 s, .int .i64 z, pt l, pt r]
/-- a tree as it lies in memory -/
def Tr (w : World) : T → Prop
  | .nil => True
  | .node b l k s r => Blk w b 78 (nd k s ((l.n + r.n + 1 : Nat) : Int) l r) ∧ Tr w l ∧ Tr w r
/-- a node that isn't counted yet, and its kids -/
def Nd (w : World) (b : Nat) (l : T) (k s : Int) (r : T) : Prop := (∃ z, Blk w b 78 (nd k s z l r)) ∧ Tr w l ∧ Tr w r ∧ (T.node b l k s r).bs.Nodup
section
variable {w w' : World} {S : Nat → Prop} {B b : Nat} {l r t : T} {k s z : Int}
theorem Tr.lt : ∀ {t : T}, Tr w t → ∀ i ∈ t.bs, i < w.heap.size
  | .nil, _, i, hi => by simp [T.bs] at hi
  | .node b l k s r, ⟨h1, h2, h3⟩, i, hi => by
    simp only [T.bs, List.mem_cons, List.mem_append] at hi
    rcases hi with rfl | hi | hi
    · exact h1.lt
    · exact Tr.lt h2 i hi
    · exact Tr.lt h3 i hi
theorem Tr.only (o : Only S w w') : ∀ {t : T}, Tr w t → (∀ i ∈ t.bs, ¬ S i) → Tr w' t
  | .nil, _, _ => trivial
  | .node b l k s r, ⟨h1, h2, h3⟩, hS => ⟨Blk.only h1 o (hS b (by simp [T.bs])), Tr.only o h2 fun i hi => hS i (by simp [T.bs, hi]), Tr.only o h3 fun i hi => hS i (by simp [T.bs, hi])⟩
theorem Tr.below (o : Below B w w') (hB : w.heap.size ≤ B) : ∀ {t : T}, Tr w t → Tr w' t
  | .nil, _ => trivial
  | .node b l k s r, ⟨h1, h2, h3⟩ => ⟨h1.below o (Nat.lt_of_lt_of_le h1.lt hB), Tr.below o hB h2, Tr.below o hB h3⟩
theorem blk_node (h : Blk w b 78 (nd k s z l r)) : w.cell? ⟨b, 0, none⟩ = some (.int .u64 k) ∧ w.cell? ⟨b, 1, none⟩ = some (.int .i64 s) ∧ w.cell? ⟨b, 2, none⟩ = some (.int .i64 z) ∧ w.cell? ⟨b, 3, none⟩ = some (pt l) ∧ w.cell? ⟨b, 4, none⟩ = some (pt r) :=
  ⟨h.cell 0, h.cell 1, h.cell 2, h.cell 3, h.cell 4⟩
theorem Tr.nd (h : Tr w (.node b l k s r)) : Blk w b 78 (nd k s ((l.n + r.n + 1 : Nat) : Int) l r) := h.1
end
theorem len_any {w : World} {t : T} (h : Tr w t) : Calls Try.prog 43 #[pt t] w fun e w' => e = .returned (.int .i64 t.n) ∧ w = w' := by
  cases t with
  | nil =>
    show Calls Try.prog 43 #[.pointer none] w fun e w' => e = .returned (.int .i64 0) ∧ w = w'
    clear h
    go_enter Try.func43, Try.ntmps43
    go_wp2_with (fail)
    go_ret
    exact ⟨rfl, rfl⟩
  | node b l k s r =>
    show Calls Try.prog 43 #[.pointer (some ⟨b, 0, none⟩)] w fun e w' => e = .returned (.int .i64 ((l.n + r.n + 1 : Nat) : Int)) ∧ w = w'
    obtain ⟨-, -, c2, -, -⟩ := blk_node h.nd
    generalize ((l.n + r.n + 1 : Nat) : Int) = z at c2 ⊢
    clear h
    go_enter Try.func43, Try.ntmps43
    go_wp2_with (fail)
    go_ret
    exact ⟨rfl, rfl⟩
theorem weight_any {w : World} {t : T} (h : Tr w t) (hn : t.n ≤ 1152921504606846976) : Calls Try.prog 51 #[pt t] w fun e w' => e = .returned (.int .i64 ((t.n + 1 : Nat) : Int)) ∧ w = w' := by
  have HL := Lib.hid (len_any h)
  generalize pt t = p at HL ⊢
  obtain ⟨m, hm⟩ : ∃ m, t.n + 1 = m := ⟨_, rfl⟩
  have i0 : IntKind.i64.wrap ((t.n : Int) + 1) = (m : Int) := by rw [IntKind.wrap_i64]; omega
  rw [hm]
  clear h hn hm
  go_enter Try.func51, Try.ntmps51
  go_wp2_with (go_at_call 43; (with_reducible refine HL.out.mono ?_); rintro e w' ⟨rfl, rfl⟩)
  go_ret
  exact ⟨rfl, rfl⟩
theorem side_any {w : World} {b : Nat} {k : Int} (c0 : w.cell? ⟨b, 0, none⟩ = some (.int .u64 k)) (id : Int) :
    Calls Try.prog 45 #[.pointer (some ⟨b, 0, none⟩), .int .u64 id] w fun e w' => e = .returned (.int .i64 (if id < k then 0 else 1)) ∧ w = w' := by
  by_cases h : id < k
  · rw [if_pos h]
    have hd : decide (id < k) = true := decide_eq_true h
    clear h
    go_enter Try.func45, Try.ntmps45
    go_wp2_with (fail)
    go_ret
    exact ⟨rfl, rfl⟩
  · rw [if_neg h]
    have hd : decide (id < k) = false := decide_eq_false h
    clear h
    go_enter Try.func45, Try.ntmps45
    go_wp2_with (fail)
    go_ret
    exact ⟨rfl, rfl⟩
set_option maxRecDepth 100000 in
set_option maxHeartbeats 3200000 in
theorem count_any {w : World} {b : Nat} {l r : T} {k s z : Int} (hb : Blk w b 78 (nd k s z l r)) (hl : Tr w l) (hr : Tr w r) (hn : l.n + r.n + 1 ≤ 1152921504606846976) :
    Calls Try.prog 50 #[.pointer (some ⟨b, 0, none⟩)] w fun e w' => e = .returned (.tuple #[]) ∧ Only (· = b) w w' ∧ Blk w' b 78 (nd k s ((l.n + r.n + 1 : Nat) : Int) l r) := by
  obtain ⟨p3, e3⟩ : ∃ v, pt l = v := ⟨_, rfl⟩
  obtain ⟨p4, e4⟩ : ∃ v, pt r = v := ⟨_, rfl⟩
  obtain ⟨a1, ha1⟩ : ∃ v, l.n = v := ⟨_, rfl⟩
  obtain ⟨a2, ha2⟩ : ∃ v, r.n = v := ⟨_, rfl⟩
  obtain ⟨m1, hm1⟩ : ∃ v, a1 + a2 = v := ⟨_, rfl⟩
  obtain ⟨m, hm⟩ : ∃ v, m1 + 1 = v := ⟨_, rfl⟩
  have HL : Hid (∀ W, Below w.heap.size w W → Calls Try.prog 43 #[p3] W fun e w' => e = .returned (.int .i64 a1) ∧ W = w') := Lib.hid fun W hW => by
    rw [← e3, ← ha1]; exact len_any (hl.below hW (Nat.le_refl _))
  have HR : Hid (∀ W, Below w.heap.size w W → Calls Try.prog 43 #[p4] W fun e w' => e = .returned (.int .i64 a2) ∧ W = w') := Lib.hid fun W hW => by
    rw [← e4, ← ha2]; exact len_any (hr.below hW (Nat.le_refl _))
  have HE : Hid (Only (· = b) w (w.setCell ⟨b, 2, none⟩ (.int .i64 m)).drew ∧ Blk (w.setCell ⟨b, 2, none⟩ (.int .i64 m)).drew b 78 (nd k s ((l.n + r.n + 1 : Nat) : Int) l r)) := Lib.hid (by
    refine ⟨((Only.refl (· = b) w).setCell (p := ⟨b, 2, none⟩) (.inl rfl) _).drew, ?_⟩
    rw [ha1, ha2, hm1, hm]
    exact (hb.set_ 2 _).drewN 1)
  have hc : w.cell? ⟨b, 3, none⟩ = some p3 ∧ w.cell? ⟨b, 4, none⟩ = some p4 ∧ w.cell? ⟨b, 2, none⟩ = some (.int .i64 z) ∧ w.frozen? ⟨b, 2, none⟩ = false := by
    rw [← e3, ← e4]
    exact ⟨hb.cell 3, hb.cell 4, hb.cell 2, hb.frozen 2⟩
  have HK : Hid ((w.setCell ⟨b, 2, none⟩ (.int .i64 m)).drew.cell? ⟨b, 3, none⟩ = some p3 ∧ (w.setCell ⟨b, 2, none⟩ (.int .i64 m)).drew.cell? ⟨b, 4, none⟩ = some p4) := Lib.hid (by
    have h := hb.set_ 2 (.int .i64 m)
    rw [← e3, ← e4]
    exact ⟨h.cell 3, h.cell 4⟩)
  have i1 : IntKind.i64.wrap ((a1 : Int) + (a2 : Int)) = (m1 : Int) := by rw [IntKind.wrap_i64]; omega
  have i2 : IntKind.i64.wrap ((m1 : Int) + 1) = (m : Int) := by rw [IntKind.wrap_i64]; omega
  obtain ⟨c3, c4, c2, f2⟩ := hc
  clear hb hl hr e3 e4 ha1 ha2 hm1 hm hn
  go_enter Try.func50, Try.ntmps50
  go_region_held3 (fun W => W.cell? ⟨b, 3, none⟩ = some p3 ∧ W.cell? ⟨b, 4, none⟩ = some p4)
    (first | exact ⟨c3, c4⟩ | exact HK.out)
    (first
      | (go_at_call 43; (with_reducible refine (HL.out _ (by repeat' (first | (with_reducible exact Below.refl _ _) | (with_reducible assumption) | (with_reducible refine Below.drew ?_) | (with_reducible refine below_drewN' ?_ _)))).mono ?_); rintro e w5 ⟨rfl, rfl⟩)
      | (go_at_call 43; (with_reducible refine (HR.out _ (by repeat' (first | (with_reducible exact Below.refl _ _) | (with_reducible assumption) | (with_reducible refine Below.drew ?_) | (with_reducible refine below_drewN' ?_ _)))).mono ?_); rintro e w5 ⟨rfl, rfl⟩))
  go_end0
  exact ⟨rfl, HE.out⟩
end Go.Proofs.Ytaickhhbdbbmjaa.direct
