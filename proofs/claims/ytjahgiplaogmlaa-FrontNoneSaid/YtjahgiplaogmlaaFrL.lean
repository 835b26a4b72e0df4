/-
  The contract of front.New (any number of entries to begin with); what lives.
-/
import Derived.Test.YtjahgiplaogmlaaFrX
namespace Go.Proofs.Ytjahgiplaogmlaa.fro
open Go.RowKit law bytes only flat heapM Go.Sort Go.Shelf
set_option linter.unusedVariables false

/-- New's memory ahead of a round -/
def NeS (wb hb : Nat) (F : Value) (w : World) (l : List Ent) (k : Nat) (wr : World) : Prop :=
  ∃ T' d', Wk wr w.heap.size wb hb T' F d' 0 ∧ d'.toList.Perm (l.take k) ∧ Below w.heap.size w wr
/-- what a round asks, and what it leaves -/
def Nrd (wb hb : Nat) (F : Value) (w : World) (A : Option Addr) (l : List Ent) (k : Nat) (hk : k < l.length) (wr : World) : Prop :=
  ∃ b q y, l[k] = y ∧ A = some ⟨b, q, none⟩ ∧
    (wr.cell? ⟨b, q + k * 3, none⟩ = some (.int .i64 y.1) ∧ wr.cell? ⟨b, q + k * 3 + 1, none⟩ = some (.int .i64 y.2.1) ∧ wr.cell? ⟨b, q + k * 3 + 2, none⟩ = some (.int .u64 y.2.2)) ∧
    ∀ V, V = wr.alloc (.cells #[.int .i64 y.1, .int .i64 y.2.1, .int .u64 y.2.2] 44) →
      (∀ W, Below V.heap.size V W → W.cell? ⟨wb, 1, none⟩ = some (.pointer (some ⟨hb, 0, none⟩)) ∧ W.cell? ⟨wr.heap.size, 0, none⟩ = some (.int .i64 y.1) ∧ W.cell? ⟨wr.heap.size, 1, none⟩ = some (.int .i64 y.2.1) ∧ W.cell? ⟨wr.heap.size, 2, none⟩ = some (.int .u64 y.2.2)) ∧
      ∀ W, Below V.heap.size V W → Calls Try.prog 21 #[.pointer (some ⟨hb, 0, none⟩), .agg #[.int .i64 y.1, .int .i64 y.2.1, .int .u64 y.2.2]] W fun e w' => e = .returned (.tuple #[]) ∧ NeS wb hb F w l (k + 1) w' ∧
        (w'.cell? ⟨wb, 1, none⟩ = some (.pointer (some ⟨hb, 0, none⟩)) ∧ w'.cell? ⟨wr.heap.size, 0, none⟩ = some (.int .i64 y.1) ∧ w'.cell? ⟨wr.heap.size, 1, none⟩ = some (.int .i64 y.2.1) ∧ w'.cell? ⟨wr.heap.size, 2, none⟩ = some (.int .u64 y.2.2))
section
variable {wb hb k : Nat} {F : Value} {w wr : World} {A : Option Addr} {l : List Ent}
theorem NeS.round (h : NeS wb hb F w l k wr) (hk : k < l.length) (hA : Sl w w.heap.size A (l.flatMap ec)) (hsz : l.length ≤ 1099511627776) : Nrd wb hb F w A l k hk wr := by
  obtain ⟨T', d', h1, h2, h3⟩ := h
  obtain ⟨b, q, rfl, hb1, c0, c1, c2⟩ := Sl.ent (hA.below h3) hk
  refine ⟨b, q, l[k], rfl, rfl, ⟨c0, c1, c2⟩, ?_⟩
  obtain ⟨y, hy⟩ : ∃ y, l[k] = y := ⟨_, rfl⟩
  rw [hy]
  have hbs := h1.base_le
  intro V hV
  have e2 : Blk V wr.heap.size 44 #[.int .i64 y.1, .int .i64 y.2.1, .int .u64 y.2.2] := by rw [hV]; exact Blk.new wr _ _
  have hbV : Below wr.heap.size wr V := by rw [hV]; exact (Below.refl _ _).alloc (Nat.le_refl _) _
  have h1V := h1.below hbV
  refine ⟨fun W hW => ⟨(h1V.below hW).blk.cell 1, (e2.below hW e2.lt).cell 0, (e2.below hW e2.lt).cell 1, (e2.below hW e2.lt).cell 2⟩, fun W hW => ?_⟩
  have hWr : Below wr.heap.size wr W := hbV.trans (hW.mono hbV.size)
  have hd : d'.size ≤ l.length := by
    have := h2.length_eq
    simp at this
    omega
  refine (push_wk (h1V.below hW) y (by omega)).mono ?_
  rintro e w' ⟨rfl, d2, ⟨T2, k1, k2, k3⟩, k4⟩
  have hoT : Only T' W w' := k2.mono fun i e => e.elim .inl False.elim
  have hcn : ¬ T' wr.heap.size := fun e => by have := (h1.low _ e).2; omega
  have e3 := Blk.only (e2.below hW e2.lt) hoT hcn
  refine ⟨rfl, ⟨T2, d2, k1, ?_, (h3.trans (hWr.mono hbs)).trans (hoT.below (Nat.le_trans hbs hWr.size) fun i e => (h1.low i e).1)⟩, k1.blk.cell 1, e3.cell 0, e3.cell 1, e3.cell 2⟩
  refine k4.trans ((List.Perm.cons _ h2).trans ?_)
  rw [List.take_succ_eq_append_getElem hk, hy]
  exact List.perm_append_comm (l₁ := [y])
set_option maxRecDepth 100000 in
set_option maxHeartbeats 1600000 in
theorem new_any (F : Value) (hF : F = .nilFunc ∨ ∃ f a b, F = .func f a b) (A : Option Addr) (l : List Ent) (c : Nat) (w : World) (hA : Sl w w.heap.size A (l.flatMap ec)) (hsz : l.length ≤ 1099511627776) :
    Calls Try.prog 14 #[F, .slice A l.length c] w fun e w' => ∃ wb hb T d, e = .returned (.pointer (some ⟨wb, 0, none⟩)) ∧ Wk w' w.heap.size wb hb T F d 0 ∧ d.toList.Perm l ∧ Below w.heap.size w w' := by
  have HN := Lib.hid (new_ent 20 w.heap.size w (Nat.le_refl _))
  have HS : Hid (∀ w1, Below w.heap.size w w1 → EHp w1 w.heap.size w.heap.size (.slice none 0 0) 20 #[] → NeS w1.heap.size w.heap.size F w l 0 (w1.alloc (.cells #[F, .pointer (some ⟨w.heap.size, 0, none⟩), .int .i64 0] 53))) := Lib.hid fun w1 h1 h2 => by
    have hb1 : Below w1.heap.size w1 (w1.alloc (.cells #[F, .pointer (some ⟨w.heap.size, 0, none⟩), .int .i64 0] 53)) := (Below.refl _ _).alloc (Nat.le_refl _) _
    have hl := h2.lt
    refine ⟨fun i => i = w1.heap.size ∨ Mine w.heap.size (.slice none 0 0) i, #[], ⟨_, Blk.new _ _ _, h2.below hb1 (Nat.le_refl _), fun i _ hi => by simp at hi, Nat.le_refl _, h1.size, by omega, (fun e => by cases e), fun i => Iff.rfl⟩, List.Perm.refl _, h1.trans (hb1.mono h1.size)⟩
  have HR : Hid (∀ wb hb k wr, NeS wb hb F w l k wr → ∀ hk : k < l.length, Nrd wb hb F w A l k hk wr) := Lib.hid fun wb hb k wr hh hk => hh.round hk hA hsz
  have HE : Hid (∀ wb hb wr, NeS wb hb F w l l.length wr → ∃ wb' hb T d, Value.pointer (some ⟨wb, 0, none⟩) = .pointer (some ⟨wb', 0, none⟩) ∧ Wk wr w.heap.size wb' hb T F d 0 ∧ d.toList.Perm l ∧ Below w.heap.size w wr) := Lib.hid fun wb hb wr ⟨T, d, h1, h2, h3⟩ => ⟨wb, hb, T, d, rfl, h1, by rw [List.take_length] at h2; exact h2, h3⟩
  clear hA
  obtain ⟨Q, hQ⟩ : ∃ Q : Nat → Nat → World → Prop, Q = fun wb k wr => NeS wb w.heap.size F w l k wr := ⟨_, rfl⟩
  have HQ : Hid (∀ wb k wr, NeS wb w.heap.size F w l k wr ↔ Q wb k wr) := Lib.hid fun wb k wr => by rw [hQ]
  clear hQ
  rcases hF with rfl | ⟨f, a, b, rfl⟩
  · go_enter Try.func14, Try.ntmps14
    go_wp2_with (fail)
    refine HN.out.mono ?_
    rintro e w1 ⟨rfl, hb1, he1⟩
    have HS0 := Lib.hid (HS.out w1 hb1 he1)
    clear hb1 he1 HN HS
    go_wp2_with (fail)
    generalize w1.heap.size = wb at *
    go_loopg [14] l.length (fun gk s14 wr => ∃ k : Nat, gk = l.length - k ∧ s14 = .int .i64 k ∧ k ≤ l.length ∧ Q wb k wr)
    case atStart => exact ⟨0, rfl, rfl, Nat.zero_le _, (HQ.out _ _ _).1 HS0.out⟩
    case round =>
      clear HS0
      obtain ⟨k, rfl, rfl, hk, hq⟩ := hrel
      have hh := (HQ.out _ _ _).2 hq
      clear hq
      rcases Nat.lt_or_ge k l.length with hlt | hge
      · obtain ⟨b, q, y, -, rfl, ⟨c0, c1, c2⟩, hV⟩ := HR.out _ _ _ _ hh hlt
        obtain ⟨V, hVV⟩ : ∃ V, V = wr.alloc (.cells #[.int .i64 y.1, .int .i64 y.2.1, .int .u64 y.2.2] 44) := ⟨_, rfl⟩
        obtain ⟨hS, hC⟩ := hV V hVV
        have i1 : (k : Int) < (l.length : Int) := by omega
        have i2 : IntKind.i64.wrap ((k : Int) + 1) = ((k + 1 : Nat) : Int) := by rw [IntKind.wrap_i64]; omega
        have HSS := Lib.hid hS
        have HC := Lib.hid hC
        have HVV := Lib.hid hVV
        clear hS hC hVV hV hh HR HE
        go_wp2_with (fail)
        rw [← HVV.out]
        obtain ⟨q0, q1, q2, q3⟩ := HSS.out V (Below.refl _ _)
        clear HVV c0 c1 c2
        obtain ⟨z, hz⟩ : ∃ z, z = wr.heap.size := ⟨_, rfl⟩
        rw [← hz] at HSS HC q1 q2 q3 ⊢
        clear hz
        go_region_held3 (fun W => W.cell? ⟨wb, 1, none⟩ = some (.pointer (some ⟨w.heap.size, 0, none⟩)) ∧ W.cell? ⟨z, 0, none⟩ = some (.int .i64 y.1) ∧ W.cell? ⟨z, 1, none⟩ = some (.int .i64 y.2.1) ∧ W.cell? ⟨z, 2, none⟩ = some (.int .u64 y.2.2)) ((first | (with_reducible assumption) | (refine HSS.out _ ?_; repeat' (first | (with_reducible exact Below.refl _ _) | (with_reducible assumption) | (with_reducible refine Below.drew ?_) | (with_reducible refine below_drewN' ?_ _)))))
          (first
            | (go_at_call 21; (with_reducible refine (HC.out _ (by repeat' (first | (with_reducible exact Below.refl _ _) | (with_reducible assumption) | (with_reducible refine Below.drew ?_) | (with_reducible refine below_drewN' ?_ _)))).mono ?_); rintro e w4 ⟨rfl, hn4, hs4⟩))
        clear q0 q1 q2 q3 hs4 HSS HC
        go_wp2_with (fail)
        go_roundg (l.length - (k + 1))
        case measure => omega
        case rel => exact ⟨k + 1, rfl, by go_num, by omega, (HQ.out _ _ _).1 hn4⟩
      · obtain rfl : k = l.length := by omega
        obtain ⟨wb', hb, T, d, e1, e2⟩ := HE.out _ _ _ hh
        have HF := Lib.hid (And.intro e1 e2)
        clear hh HR HE e1 e2
        go_wp2_with (fail)
        go_ret
        exact ⟨wb', hb, T, d, by rw [← HF.out.1]; rfl, HF.out.2⟩
  · go_enter Try.func14, Try.ntmps14
    go_wp2_with (fail)
    refine HN.out.mono ?_
    rintro e w1 ⟨rfl, hb1, he1⟩
    have HS0 := Lib.hid (HS.out w1 hb1 he1)
    clear hb1 he1 HN HS
    go_wp2_with (fail)
    generalize w1.heap.size = wb at *
    go_loopg [14] l.length (fun gk s14 wr => ∃ k : Nat, gk = l.length - k ∧ s14 = .int .i64 k ∧ k ≤ l.length ∧ Q wb k wr)
    case atStart => exact ⟨0, rfl, rfl, Nat.zero_le _, (HQ.out _ _ _).1 HS0.out⟩
    case round =>
      clear HS0
      obtain ⟨k, rfl, rfl, hk, hq⟩ := hrel
      have hh := (HQ.out _ _ _).2 hq
      clear hq
      rcases Nat.lt_or_ge k l.length with hlt | hge
      · obtain ⟨b, q, y, -, rfl, ⟨c0, c1, c2⟩, hV⟩ := HR.out _ _ _ _ hh hlt
        obtain ⟨V, hVV⟩ : ∃ V, V = wr.alloc (.cells #[.int .i64 y.1, .int .i64 y.2.1, .int .u64 y.2.2] 44) := ⟨_, rfl⟩
        obtain ⟨hS, hC⟩ := hV V hVV
        have i1 : (k : Int) < (l.length : Int) := by omega
        have i2 : IntKind.i64.wrap ((k : Int) + 1) = ((k + 1 : Nat) : Int) := by rw [IntKind.wrap_i64]; omega
        have HSS := Lib.hid hS
        have HC := Lib.hid hC
        have HVV := Lib.hid hVV
        clear hS hC hVV hV hh HR HE
        go_wp2_with (fail)
        rw [← HVV.out]
        obtain ⟨q0, q1, q2, q3⟩ := HSS.out V (Below.refl _ _)
        clear HVV c0 c1 c2
        obtain ⟨z, hz⟩ : ∃ z, z = wr.heap.size := ⟨_, rfl⟩
        rw [← hz] at HSS HC q1 q2 q3 ⊢
        clear hz
        go_region_held3 (fun W => W.cell? ⟨wb, 1, none⟩ = some (.pointer (some ⟨w.heap.size, 0, none⟩)) ∧ W.cell? ⟨z, 0, none⟩ = some (.int .i64 y.1) ∧ W.cell? ⟨z, 1, none⟩ = some (.int .i64 y.2.1) ∧ W.cell? ⟨z, 2, none⟩ = some (.int .u64 y.2.2)) ((first | (with_reducible assumption) | (refine HSS.out _ ?_; repeat' (first | (with_reducible exact Below.refl _ _) | (with_reducible assumption) | (with_reducible refine Below.drew ?_) | (with_reducible refine below_drewN' ?_ _)))))
          (first
            | (go_at_call 21; (with_reducible refine (HC.out _ (by repeat' (first | (with_reducible exact Below.refl _ _) | (with_reducible assumption) | (with_reducible refine Below.drew ?_) | (with_reducible refine below_drewN' ?_ _)))).mono ?_); rintro e w4 ⟨rfl, hn4, hs4⟩))
        clear q0 q1 q2 q3 hs4 HSS HC
        go_wp2_with (fail)
        go_roundg (l.length - (k + 1))
        case measure => omega
        case rel => exact ⟨k + 1, rfl, by go_num, by omega, (HQ.out _ _ _).1 hn4⟩
      · obtain rfl : k = l.length := by omega
        obtain ⟨wb', hb, T, d, e1, e2⟩ := HE.out _ _ _ hh
        have HF := Lib.hid (And.intro e1 e2)
        clear hh HR HE e1 e2
        go_wp2_with (fail)
        go_ret
        exact ⟨wb', hb, T, d, by rw [← HF.out.1]; rfl, HF.out.2⟩
end
/-! ### what lives -/
theorem Run.none {σ : Type} {beh : σ → Int → List Ent} {nxt : σ → Int → σ} {s s1 : σ} {l l1 : List Ent} {k : Nat} (h : Run beh nxt s l k s1 l1) (h0 : ∀ x ∈ l, nd x = false) : k = 0 ∧ l1 = l := by
  induction h with
  | refl => exact ⟨rfl, rfl⟩
  | @step k s1 l1 x rest l2 h hf hx hp hq ih =>
    obtain ⟨-, rfl⟩ := ih
    rw [h0 x (hp.symm.subset (List.mem_cons_self ..))] at hx
    cases hx
/-- a walk whose function is never asked -/
theorem op_none (F : Value) (base : Nat) : Op (σ := Unit) F base (fun _ => False) (fun _ _ => True) (fun _ => False) (fun _ _ => []) (fun _ _ => ()) (fun _ => 1) where
  low i e := e.elim
  keep _ _ _ _ _ := trivial
  next _ _ e := e.elim
  less _ _ e := e.elim
  pos _ := by omega
  tells _ e := e.elim
def seven : Ent := (3, -1, 7)
def two : Ent := (3, -1, 2)
/-- what Next tells of these -/
theorem lives_next {w w1 : World} {wb hb : Nat} {T : Nat → Prop} {F : Value} {d : Array Ent} {e : Ending} (hp : d.toList.Perm [seven, two]) {base : Nat} (h : Within (σ := Unit) F base wb hb T (fun _ => False) (fun _ _ => True) (fun _ _ => []) (fun _ _ => ()) () d 0 w maxI e w1) :
    e = .returned (.tuple #[.agg #[.int .u64 2, .int .i64 3], .bool true]) ∧ ∃ d' T', Wk w1 base wb hb T' F d' 0 ∧ lowT d' = 3 := by
  obtain ⟨k, s1, l1, h1, -, h3⟩ := h
  have hm : ∀ x ∈ d.toList, x = seven ∨ x = two := fun x hx => by simpa using hp.subset hx
  obtain ⟨rfl, rfl⟩ := h1.none fun x hx => by
    rcases hm x hx with rfl | rfl
    · decide
    · decide
  rcases h3 with ⟨x, rest, a1, a2, a3, a4, rfl, d', a6, T', a7, -⟩ | ⟨a1, -⟩
  · rcases hm x (a4.symm.subset (List.mem_cons_self ..)) with rfl | rfl
    · exact ((a1 two (hp.symm.subset (by simp))) (.inr ⟨rfl, .inr (.inr ⟨by decide, by decide, by decide⟩)⟩)).elim
    · refine ⟨rfl, d', T', a7, ?_⟩
      have p1 := (a4.symm.trans hp).trans (List.Perm.swap two seven [])
      have p2 := a6.trans ((List.perm_cons two).1 p1)
      have e1 : d'.toList = [seven] := List.perm_singleton.1 p2
      have e2 : d' = #[seven] := by rw [← Array.toArray_toList (xs := d'), e1]
      rw [e2]
      rfl
  · have := a1 two (hp.symm.subset (by simp))
    exact (by unfold two maxI at this; omega : False).elim
end Go.Proofs.Ytjahgiplaogmlaa.fro
