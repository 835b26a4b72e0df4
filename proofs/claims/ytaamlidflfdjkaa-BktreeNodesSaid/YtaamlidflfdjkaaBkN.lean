/-
  The contracts of New, has, Insert, Bulk; how many are gone, and there.
-/
import Derived.Test.YtaamlidflfdjkaaBkH
import Derived.Test.YtaamlidflfdjkaaIts
import Derived.Test.YtaamlidflfdjkaaIdV
namespace Go.Proofs.Ytaamlidflfdjkaa.bk
open Go.RowKit Go.WideShapes law bytes only flat nums ord obj metric tab
open aro (Kept)
open store (iE iE_len itemAt)
open told (own_types blk_types)
open Go.Maps Go.ChangeAt
set_option linter.unusedVariables false
set_option maxRecDepth 100000

theorem run_makeMap0 {P : Program} (t k e : TypeId) (w : World) (h : P.underlying t = some (.map k e)) : (Instr.makeMap t none).run P w = .ok (.map (some w.heap.size)) (w.alloc (.map #[] 0)) := by
  simp [Instr.makeMap]
def live (L : List Bn) (id : Int) : Bool := (lv L id).isSome
/-- nodes behind things that are put in -/
def puts (n : Int) (L : List Bn) (l : List (Int × Thing)) : List Bn := l.foldl (fun L q => L ++ [node n L q.1 q.2]) L
theorem puts_snoc (n : Int) (L : List Bn) (l : List (Int × Thing)) (q : Int × Thing) : puts n L (l ++ [q]) = puts n L l ++ [node n (puts n L l) q.1 q.2] := by
  unfold puts
  rw [List.foldl_append]
  rfl
theorem puts_cons (n : Int) (L : List Bn) (q : Int × Thing) (l : List (Int × Thing)) : puts n L (q :: l) = puts n (L ++ [node n L q.1 q.2]) l := rfl
theorem puts_len (n : Int) (L : List Bn) (l : List (Int × Thing)) : (puts n L l).length = L.length + l.length := by
  induction l generalizing L with
  | nil => rfl
  | cons q l ih => rw [puts_cons, ih]; simp; omega
theorem live_snoc (L : List Bn) (b : Bn) (hg : b.gone = false) (id : Int) : live (L ++ [b]) id = (live L id || decide (b.id = id)) := by
  unfold live
  rw [lv_snoc]
  cases lv L id with
  | some i => simp
  | none =>
    by_cases h : b.id = id
    · simp [h, hg]
    · simp [h]
theorem live_puts (n : Int) (L : List Bn) (l : List (Int × Thing)) (id : Int) : live (puts n L l) id = (live L id || (l.map (·.1)).contains id) := by
  induction l generalizing L with
  | nil => simp [puts]
  | cons q l ih =>
    rw [puts_cons, ih, live_snoc _ _ rfl, Bool.or_assoc]
    congr 1
    show (decide (q.1 = id) || _) = _
    rw [List.map_cons, List.contains_cons]
    congr 1
    by_cases h : q.1 = id
    · simp [h]
    · have : ¬ id = q.1 := fun e => h e.symm
      simp [h, this]
theorem live_none {L : List Bn} {id : Int} (h : live L id = false) : lv L id = none := by
  unfold live at h
  cases hq : lv L id with
  | none => rfl
  | some i => rw [hq] at h; cases h
section
variable {w w' w1 W W' : World} {base tb g hb pb mh mp B i : Nat} {n k : Int} {T S : Nat → Prop} {vN v4 : Value} {N : List Nd} {DH DP D1 : DataW Unit} {d : Nd} {t t' : TypeId} {A : Option Addr} {xs : List Value} {id : Int} {x : At} {gone : Bool} {par edge : Int}
theorem new_bk (g : Nat) (n k : Int) (w : World) (hm : Mt w g n k) :
    Calls Try.prog 6 #[.pointer (some ⟨g, 0, none⟩)] w fun e w' => ∃ tb T, e = .returned (.pointer (some ⟨tb, 0, none⟩)) ∧ Bx w' w.heap.size tb g n k T [] ∧ Below w.heap.size w w' := by
  have hg := hm.lt
  obtain ⟨w1, hw1⟩ : ∃ w1, w1 = w.alloc (.map #[] 0) := ⟨_, rfl⟩
  have hz1 : w1.heap.size = w.heap.size + 1 := by rw [hw1]; simp
  have HE : Hid (Bx ((w1.alloc (.map #[] 0)).alloc (.cells #[.pointer (some ⟨g, 0, none⟩), .slice none 0 0, .map (some w.heap.size), .map (some (w.heap.size + 1))] 72)) w.heap.size (w.heap.size + 1 + 1) g n k (fun i => w.heap.size ≤ i ∧ i < w.heap.size + 3) [] ∧ Below w.heap.size w ((w1.alloc (.map #[] 0)).alloc (.cells #[.pointer (some ⟨g, 0, none⟩), .slice none 0 0, .map (some w.heap.size), .map (some (w.heap.size + 1))] 72))) := Lib.hid (by
    have hb : Below w.heap.size w ((w1.alloc (.map #[] 0)).alloc (.cells #[.pointer (some ⟨g, 0, none⟩), .slice none 0 0, .map (some w.heap.size), .map (some (w.heap.size + 1))] 72)) := by
      rw [hw1]
      exact (((Below.refl _ _).alloc (Nat.le_refl _) _).alloc (by simp) _).alloc (by simp; omega) _
    have hblk := Blk.new (w1.alloc (.map #[] 0)) 72 #[.pointer (some ⟨g, 0, none⟩), .slice none 0 0, .map (some w.heap.size), .map (some (w.heap.size + 1))]
    rw [show (w1.alloc (.map #[] 0)).heap.size = w.heap.size + 1 + 1 by simp [hz1]] at hblk
    have m2 : (w1.alloc (.map #[] 0)).ownsMap Try.prog 33 (plainElem (H := Unit) Try.prog 3) (w.heap.size + 1) 0 (.map []) := by
      have := World.ownsMap_made w1 Try.prog 33 (plainElem (H := Unit) Try.prog 3)
      rw [hz1] at this
      exact this
    have m1 : w1.ownsMap Try.prog 97 (plainElem (H := Unit) Try.prog 3) w.heap.size 0 (.map []) := by
      rw [hw1]
      exact World.ownsMap_made w Try.prog 97 (plainElem (H := Unit) Try.prog 3)
    refine ⟨⟨w.heap.size, w.heap.size + 1, 0, 0, .slice none 0 0, .map [], .map [], ⟨hblk, hm.below hb hg, hg, World.ownsRow_nil _ _ _ _, (m1.alloc _).alloc _, m2.alloc _, by omega, fun d hd => by simp at hd, List.Pairwise.nil, fun i e => ⟨e.1, by simp [hz1]; omega⟩, ⟨by omega, by omega⟩, ⟨by omega, by omega⟩, ⟨by omega, by omega⟩, fun i e => (by cases e)⟩,
      ⟨Hk.nil, Pm.nil, Tree.nil n, Ul.nil, fun i d h => by simp at h⟩, by simp, by simp⟩, hb⟩)
  have hmm := run_makeMap0 (P := Try.prog) 68 97 3 w Try.underlying68
  have hmm2 := run_makeMap0 (P := Try.prog) 69 33 3 w1 Try.underlying69
  rw [← hw1] at hmm
  rw [hz1] at hmm2
  have HZ := Lib.hid hz1
  clear hm hw1 hz1
  go_enter Try.func6, Try.ntmps6
  have hz1 : (w1.alloc (.map #[] 0)).heap.size = w.heap.size + 1 + 1 := by simp [HZ.out]
  go_wp2_with (fail)
  go_ret
  exact ⟨w.heap.size + 1 + 1, _, rfl, HE.out.1, HE.out.2⟩
theorem has_any (h : Bx w base tb g n k T N) (id : Int) (hw : (Lit.int .u64 id).wf = true) :
    Calls Try.prog 24 #[.pointer (some ⟨tb, 0, none⟩), .int .u64 id] w fun e w' => e = .returned (.bool (live (N.map bn) id)) ∧ Below w.heap.size w w' := by
  obtain ⟨hb, pb, mh, mp, vN, DH, DP, hm, hl, -, -⟩ := h
  obtain ⟨-, -, -, c3, -⟩ := hm.cells
  have h1 := hm.pm
  have hkey : keyOf Try.prog 33 (.int .u64 id) = some (.int .u64 id) := keyOf_int_mk Try.underlying33 hw
  have hh := (hl.pm.2.2 id).1
  obtain ⟨q, hq⟩ : ∃ q, live (N.map bn) id = q := ⟨_, rfl⟩
  rw [show (lv (N.map bn) id).isSome = live (N.map bn) id from rfl, hq] at hh
  rw [hq]
  have HH := Lib.hid hh
  clear hm hl hh hq
  go_enter Try.func24, Try.ntmps24
  go_wp2_with (at_lookup
               refine wpList_lookup_own_ok_int _ rfl _ _ 69 rfl 33 3 .i64 idx.mlaw Try.underlying69 Try.underlying3 (intZ _) pb mp DP rfl h1 _ _ rfl hkey ?_
               intro c hat hwc
               rw [show (Lit.int IntKind.u64 id) = ky id from rfl, HH.out])
  go_ret
  exact ⟨rfl, Below.refl _ _⟩
theorem has_enters : Enters Try.prog 24 := enters_of Try.func24 (by kernel_rfl) rfl
theorem has_V (h : Bx w base tb g n k T N) : idx.HasV (.func (.func 24) #[.pointer (some ⟨tb, 0, none⟩)] #[]) w.heap.size (fun W => Bx W base tb g n k T N ∧ w.heap.size ≤ W.heap.size) (fun id => live (N.map bn) id) where
  keep W W' hW hb := by
    refine ⟨hW.1.only (S := fun i => w.heap.size ≤ i) ⟨hb.os, hb.tape, hb.output, hb.size, fun i hi hs => hb.block i (by omega)⟩ fun i e => ?_, Nat.le_trans hW.2 hb.size⟩
    rcases e with e | e
    · have := h.mt.lt; omega
    · have := (h.low i e).2; omega
  tells := ⟨_, _, rfl, has_enters, fun W id hw hW hB => has_any hW.1 id hw⟩
/-- what Insert leaves -/
def Inserted (w : World) (base tb g : Nat) (n k : Int) (T : Nat → Prop) (L : List Bn) (id : Int) (x : Thing) (e : Ending) (w' : World) : Prop :=
  e = .returned (.int .i64 (if live L id then 4 else 0)) ∧ ∃ k' T' N', k ≤ k' ∧ k' ≤ k + (L.length : Int) ∧ Bx w' base tb g n k' T' N' ∧ N'.map bn = (if live L id then L else L ++ [node n L id x]) ∧ Only (fun i => i = g ∨ T i) w w' ∧ ∀ i, T' i → T i ∨ w.heap.size ≤ i
set_option maxHeartbeats 1600000 in
theorem insert_any (h : Bx w base tb g n k T N) (id : Int) (x : At) (a : Option Addr) (hxs : Sl w w.heap.size x.a (iv x.x.vec)) (hbf : Bf x.x) (hwf : (Lit.int .u64 id).wf = true) (hN : N.length < 1048576) (hk : 0 ≤ k ∧ k + (N.length : Int) < 9223372036854775807) :
    Calls Try.prog 8 #[.pointer (some ⟨tb, 0, none⟩), .agg #[.int .u64 id, .int .i64 x.x.tag, .slice x.a x.x.vec.length x.c, .string x.x.str], .pointer a] w (Inserted w base tb g n k T (N.map bn) id x.x) := by
  obtain ⟨V, hV⟩ : ∃ V, V = w.alloc (.cells #[.int .u64 id, .int .i64 x.x.tag, .slice x.a x.x.vec.length x.c, .string x.x.str] 38) := ⟨_, rfl⟩
  have hbV : Below w.heap.size w V := by rw [hV]; exact (Below.refl _ _).alloc (Nat.le_refl _) _
  have hkx : Blk V w.heap.size 38 #[.int .u64 id, .int .i64 x.x.tag, .slice x.a x.x.vec.length x.c, .string x.x.str] := by rw [hV]; exact Blk.new w _ _
  have hX := h.below hbV
  have HH : Hid (Calls Try.prog 24 #[.pointer (some ⟨tb, 0, none⟩), .int .u64 id] V fun e w' => e = .returned (.bool (live (N.map bn) id)) ∧ Below V.heap.size V w') := Lib.hid (has_any hX id hwf)
  have HP : Hid (∀ w1, Below V.heap.size V w1 → (w1.cell? ⟨w.heap.size, 0, none⟩ = some (.int .u64 id) ∧ w1.cell? ⟨w.heap.size, 1, none⟩ = some (.int .i64 x.x.tag) ∧ w1.cell? ⟨w.heap.size, 2, none⟩ = some (.slice x.a x.x.vec.length x.c) ∧ w1.cell? ⟨w.heap.size, 3, none⟩ = some (.string x.x.str)) ∧
      (live (N.map bn) id = true → Inserted w base tb g n k T (N.map bn) id x.x (.returned (.int .i64 4)) w1) ∧
      (live (N.map bn) id = false → Calls Try.prog 25 #[.pointer (some ⟨tb, 0, none⟩), .agg #[.int .u64 id, .int .i64 x.x.tag, .slice x.a x.x.vec.length x.c, .string x.x.str]] w1 fun e w' => e = .returned (.tuple #[]) ∧ Hid (Inserted w base tb g n k T (N.map bn) id x.x (.returned (.int .i64 0)) w'))) := Lib.hid fun w1 hb1 => by
    have x1 := hkx.below hb1 hkx.lt
    obtain ⟨q0, q1, q2, q3, -⟩ := cells4' x1
    have hb2 : Below w.heap.size w w1 := hbV.trans (hb1.mono (by have := hbV.size; omega))
    refine ⟨⟨q0, q1, q2, q3⟩, fun hl => ⟨by rw [hl]; rfl, k, T, N, Int.le_refl _, by omega, h.below hb2, by rw [hl]; rfl, Only.of_below hb2 (Nat.le_refl _) _, fun i e => .inl e⟩, fun hl => ?_⟩
    refine (put_any (h.below hb2) id x ((hxs.below hb2).more hb2.size) hbf hwf (live_none hl) hN hk).mono fun e w' hP => ⟨hP.1, Lib.hid ?_⟩
    obtain ⟨-, k', T', N', h1, h2, h3, h4, h5, h6, -⟩ := Hung.of (T := T) hb2 hP fun i e => .inl e
    exact ⟨by rw [hl]; rfl, k', T', N', h1, h2, h3, by rw [hl]; exact h4, h5, h6⟩
  obtain ⟨c0, c1, c2, c3, -⟩ := cells4' hkx
  have HV := Lib.hid hV
  clear h hX hxs hbf hwf hN hk hkx hbV hV
  cases hl : live (N.map bn) id with
  | true =>
    rw [hl] at HH
    have HP2 : Hid (∀ w1, Below V.heap.size V w1 → Inserted w base tb g n k T (N.map bn) id x.x (.returned (.int .i64 4)) w1) := Lib.hid fun w1 hb => (HP.out w1 hb).2.1 hl
    clear hl HP
    go_enter Try.func8, Try.ntmps8
    go_wp2_with (fail)
    rw [← HV.out]
    refine HH.out.mono ?_
    rintro e w1 ⟨rfl, hb⟩
    have HE := Lib.hid (HP2.out w1 hb)
    clear HP2 hb HH
    go_wp2_with (fail)
    go_ret
    exact HE.out
  | false =>
    rw [hl] at HH
    have HP2 : Hid (∀ w1, Below V.heap.size V w1 → _ ∧ _) := Lib.hid fun w1 hb => And.intro (HP.out w1 hb).1 ((HP.out w1 hb).2.2 hl)
    clear hl HP
    go_enter Try.func8, Try.ntmps8
    go_wp2_with (fail)
    rw [← HV.out]
    refine HH.out.mono ?_
    rintro e w1 ⟨rfl, hb⟩
    obtain ⟨⟨q0, q1, q2, q3⟩, hp⟩ := HP2.out w1 hb
    have HPP := Lib.hid hp
    clear HP2 hb HH hp c0 c1 c2 c3
    go_wp2_with (fail)
    refine HPP.out.mono ?_
    rintro e w2 ⟨rfl, hx⟩
    go_wp2_with (fail)
    go_ret
    exact hx.out
end
end Go.Proofs.Ytaamlidflfdjkaa.bk
