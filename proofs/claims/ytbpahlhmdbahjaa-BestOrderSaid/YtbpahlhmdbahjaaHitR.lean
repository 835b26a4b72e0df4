/-
  The contracts of the document's Same (rows that read alike), Put and Sort of hits.
-/
import Derived.Test.YtbpahlhmdbahjaaHitC
import Derived.Laws.StructEq
namespace Go.Proofs.Ytbpahlhmdbahjaa.hit
open Go.RowKit law bytes only flat Go.Sort Go.Shelf
set_option linter.unusedVariables false

theorem hitE : ElemK Try.prog 30 2 16 := elemK_mk (z := .agg #[.int .u64 0, .int .i64 0]) (by kernel_rfl) rfl
/-- where a row's hits stand -/
theorem Sl.hit {w : World} {B : Nat} {A : Option Addr} {l : List Hit} (h : Sl w B A (hv l)) (h0 : 0 < l.length) : ∃ b o, A = some ⟨b, o, none⟩ ∧ b < B ∧
    ∀ k (hk : k < l.length), w.cell? ⟨b, o + k * 2, none⟩ = some (.int .u64 l[k].1) ∧ w.cell? ⟨b, o + k * 2 + 1, none⟩ = some (.int .i64 l[k].2) := by
  obtain ⟨b, o, rfl, hb, hc⟩ := Sl.place h (by rw [hv_length]; omega)
  refine ⟨b, o, rfl, hb, fun k hk => ?_⟩
  have g := fun j (hj : j < 2) => flat_get hc_len l k j hk hj
  have g0 := g 0 (by omega)
  have g1 := g 1 (by omega)
  have l0 : k * 2 + 0 < (hv l).length := by rw [hv_length]; omega
  have l1 : k * 2 + 1 < (hv l).length := by rw [hv_length]; omega
  have c0 := hc _ l0
  have c1 := hc _ l1
  have e0 : (hv l)[k * 2 + 0] = .int .u64 l[k].1 := Option.some.inj ((List.getElem?_eq_getElem l0).symm.trans (g0.trans rfl))
  have e1 : (hv l)[k * 2 + 1] = .int .i64 l[k].2 := Option.some.inj ((List.getElem?_eq_getElem l1).symm.trans (g1.trans rfl))
  rw [e0] at c0
  rw [e1] at c1
  exact ⟨c0, by rw [Nat.add_assoc]; exact c1⟩
/-- .. one of them -/
theorem Sl.hitAt {w : World} {B : Nat} {A : Option Addr} {l : List Hit} {k : Nat} (h : Sl w B A (hv l)) (hk : k < l.length) : ∃ b o, A = some ⟨b, o, none⟩ ∧ b < B ∧
    w.cell? ⟨b, o + k * 2, none⟩ = some (.int .u64 l[k].1) ∧ w.cell? ⟨b, o + k * 2 + 1, none⟩ = some (.int .i64 l[k].2) := by
  obtain ⟨b, o, rfl, hb, hc⟩ := Sl.hit h (by omega)
  exact ⟨b, o, rfl, hb, hc k hk⟩
set_option maxRecDepth 100000 in
set_option maxHeartbeats 1600000 in
/-- two rows that read alike are alike -/
theorem same_any (A A' : Option Addr) (xs : List Hit) (c c' B B' : Nat) (w : World) (hm : xs.length ≤ 281474976710656) (hs : Sl w B A (hv xs)) (hs' : Sl w B' A' (hv xs)) :
    Calls Try.prog 8 #[.slice A xs.length c, .slice A' xs.length c'] w fun e w' => e = .returned (.bool true) ∧ Below w.heap.size w w' := by
  have HS := Lib.hid hs
  have HS' := Lib.hid hs'
  clear hs hs'
  have d0 : ((xs.length : Int) != (xs.length : Int)) = false := by simp
  go_enter Try.func8, Try.ntmps8
  go_wp2_with (fail)
  go_loopg [5] xs.length (fun gk i wr => ∃ k : Nat, gk = xs.length - k ∧ k ≤ xs.length ∧ i = .int .i64 k ∧ Below w.heap.size w wr ∧ Sl wr B A (hv xs) ∧ Sl wr B' A' (hv xs))
  case atStart => exact ⟨0, rfl, Nat.zero_le _, rfl, Below.refl _ _, HS.out, HS'.out⟩
  case round =>
    clear HS HS'
    obtain ⟨k, rfl, hk, rfl, hb, hs, hs'⟩ := hrel
    by_cases hlt : k < xs.length
    · obtain ⟨b, o, rfl, hb1, hc0, hc1⟩ := Sl.hitAt hs hlt
      obtain ⟨b', o', rfl, hb2, hd0, hd1⟩ := Sl.hitAt hs' hlt
      obtain ⟨⟨x, y⟩, hx⟩ : ∃ x, xs[k] = x := ⟨_, rfl⟩
      rw [hx] at hc0 hc1 hd0 hd1
      dsimp only at hc0 hc1 hd0 hd1
      have i1 : (k : Int) < (xs.length : Int) := by omega
      have d1 : (x == x) = true := by simp
      have d2 : (y == y) = true := by simp
      have HB := Lib.hid (And.intro hb.drew (And.intro (hs.drewN 1) (hs'.drewN 1)))
      clear hs hs' hx hb
      go_wp2_with (fail)
      go_region
      go_wp2_with (fail)
      go_roundg (xs.length - (k + 1))
      case measure => omega
      case rel => exact ⟨k + 1, rfl, by omega, by go_num, HB.out.1, HB.out.2.1, HB.out.2.2⟩
    · have i1 : ¬ (k : Int) < (xs.length : Int) := by omega
      have HB := Lib.hid hb
      clear hs hs' hb
      go_wp2_with (fail)
      go_ret
      exact ⟨rfl, HB.out⟩
/-- what comes back reads as l; all that there was is as it was -/
def Rows (l : List Hit) (w : World) (e : Ending) (w' : World) : Prop :=
  ∃ A c, e = .returned (.slice A l.length c) ∧ l.length ≤ c ∧ Sl w' w'.heap.size A (hv l) ∧ Below w.heap.size w w'
/-- .. and is a row of the call's own -/
def Own (l : List Hit) (w : World) (e : Ending) (w' : World) : Prop :=
  ∃ A c, e = .returned (.slice A l.length c) ∧ w'.ownsRow w.heap.size 30 2 (.slice A l.length c) l.length (hv l) ∧ Below w.heap.size w w'
theorem Own.rows {l : List Hit} {w w' : World} {e : Ending} (h : Own l w e w') : Rows l w e w' := by
  obtain ⟨A, c, rfl, ho, hb⟩ := h
  obtain ⟨_, _, hv', hc⟩ := own_slice ho
  injection hv' with _ _ hv'
  exact ⟨A, c, rfl, by omega, Sl.of_ownK ho, hb⟩
theorem Own.mk {l m : List Hit} {w w' : World} {v : Value} {n : Nat} (h : w'.ownsRow w.heap.size 30 2 v n (hv m)) (he : m = l) (hb : Below w.heap.size w w') : Own l w (.returned v) w' := by
  subst he
  obtain ⟨A, c, rfl, hc⟩ := own_slice h
  have hn : n = m.length := by have := h.1; rw [hv_length] at this; omega
  subst hn
  exact ⟨A, c, rfl, h, hb⟩
theorem own_cap2 {w : World} {base n c : Nat} {e : TypeId} {A : Option Addr} {xs : List Value} (h : w.ownsRow base e 2 (.slice A n c) n xs) : n ≤ c := by
  obtain ⟨_, _, hv', hc⟩ := own_slice h
  injection hv' with _ _ hv'
  omega
theorem own_base {w : World} {base base' n k : Nat} {e : TypeId} {v : Value} {xs : List Value} (h : w.ownsRow base e k v n xs) (hb : base' ≤ base) : w.ownsRow base' e k v n xs :=
  ⟨h.1, h.2.imp id fun ⟨g, cap, cur, hv, hg, r⟩ => ⟨g, cap, cur, hv, Nat.le_trans hb hg, r⟩⟩
theorem hc_oneOf (x y : Int) : ∀ u ∈ [Value.int .u64 x, Value.int .i64 y], u.oneCell' = true := by simp [Value.oneCell']
theorem hv_snoc (out : List Hit) (x y : Int) : hv (out ++ [(x, y)]) = hv out ++ [.int .u64 x, .int .i64 y] := by simp [hv, hc]
set_option maxRecDepth 100000 in
set_option maxHeartbeats 6400000 in
theorem put_any (A : Option Addr) (c : Nat) (xs : List Hit) (n : Hit) (w : World) (hm : (xs.length + 1) * 16 ≤ 140737488355328) (hs : Sl w w.heap.size A (hv xs)) :
    Calls Try.prog 30 #[.slice A xs.length c, .agg #[.int .u64 n.1, .int .i64 n.2]] w (Own (put n xs) w) := by
  obtain ⟨n1, n2⟩ := n
  dsimp only
  have hlen : (put (n1, n2) xs).length = xs.length + 1 := put_length _ _
  obtain ⟨W0, hW0⟩ : ∃ W, W = w.alloc (.cells #[.int .u64 n1, .int .i64 n2] 30) := ⟨_, rfl⟩
  have hz0 : W0.heap.size = w.heap.size + 1 := by rw [hW0]; simp
  have hb0 : Below w.heap.size w W0 := by rw [hW0]; exact (Below.refl _ w).alloc (Nat.le_refl _) _
  have hbx : Blk W0 w.heap.size 30 #[.int .u64 n1, .int .i64 n2] := by rw [hW0]; exact Blk.new w _ _
  have HN : Hid (∀ W, Below (w.heap.size + 1) W0 W → W.cell? ⟨w.heap.size, 0, none⟩ = some (.int .u64 n1) ∧ W.cell? ⟨w.heap.size, 1, none⟩ = some (.int .i64 n2)) := Lib.hid fun W hW =>
    ⟨(hbx.below hW (by omega)).cell 0, (hbx.below hW (by omega)).cell 1⟩
  have HS : Hid (∀ W, Below (w.heap.size + 1) W0 W → Sl W (w.heap.size + 1) A (hv xs)) := Lib.hid fun W hW => ((hs.below hb0).more (Nat.le_succ _)).below hW
  have HE : Hid (∀ out A' m c' wr, out = put (n1, n2) xs → wr.ownsRow (w.heap.size + 1) 30 2 (.slice A' m c') m (hv out) → Below (w.heap.size + 1) W0 wr → Own (put (n1, n2) xs) w (.returned (.slice A' m c')) wr) := Lib.hid fun out A' m c' wr ho hr hb =>
    Own.mk (own_base hr (Nat.le_succ _)) ho (hb0.trans (hb.mono (Nat.le_succ _)))
  have HZ : Hid (W0.heap.size = w.heap.size + 1) := Lib.hid hz0
  clear hs hlen hb0 hbx hz0
  go_enter Try.func30, Try.ntmps30
  go_wp2_with (fail)
  rw [← hW0]
  clear hW0
  go_loopg [5, 6, 7] xs.length (fun gk s5 s6 s7 wr => ∃ (k m c' : Nat) (A' : Option Addr) (dn : Bool) (out : List Hit), gk = xs.length - k ∧ k ≤ xs.length ∧ s5 = .slice A' m c' ∧ s6 = .bool dn ∧ s7 = .int .i64 k ∧ m = out.length ∧ Put (n1, n2) xs k dn out ∧ wr.ownsRow (w.heap.size + 1) 30 2 (.slice A' m c') m (hv out) ∧ Below (w.heap.size + 1) W0 wr)
  case atStart => exact ⟨0, 0, 0, none, false, [], rfl, Nat.zero_le _, rfl, rfl, rfl, rfl, Put.start, World.ownsRow_nil _ _ _ _, Below.refl _ _⟩
  case round =>
    obtain ⟨k, m, c', A', dn, out, rfl, hk, rfl, rfl, rfl, hmo, hput, hown, hB⟩ := hrel
    have hle := hput.size hk
    have hsz : w.heap.size + 1 ≤ wr.heap.size := by have := hB.size; have := HZ.out; omega
    have hmk : m ≤ k + 1 := by omega
    have HMO := Lib.hid hmo
    have HPT := Lib.hid hput
    clear hmo hle hput
    by_cases hlt : k < xs.length
    · have i1 : (k : Int) < (xs.length : Int) := by omega
      obtain ⟨b, o, rfl, hb1, hc0, hc1⟩ := Sl.hitAt (HS.out wr hB) hlt
      obtain ⟨⟨x, y⟩, hx⟩ : ∃ x, xs[k] = x := ⟨_, rfl⟩
      rw [hx] at hc0 hc1
      dsimp only at hc0 hc1
      have HX := Lib.hid hx
      have HC : Hid (∀ W, Below (w.heap.size + 1) W0 W → W.cell? ⟨b, o + k * 2, none⟩ = some (.int .u64 x) ∧ W.cell? ⟨b, o + k * 2 + 1, none⟩ = some (.int .i64 y)) := Lib.hid fun W hW => by
        obtain ⟨b', o', e, _, h0, h1⟩ := Sl.hitAt (HS.out W hW) hlt
        injection e with e
        injection e with e1 e2
        subst e1 e2
        rw [hx] at h0 h1
        exact ⟨h0, h1⟩
      obtain ⟨hn0, hn1⟩ := HN.out wr hB
      clear hx
      have HSC : Hid (∀ W, Below wr.heap.size wr W → W.cell? ⟨w.heap.size, 0, none⟩ = some (.int .u64 n1) ∧ W.cell? ⟨w.heap.size, 1, none⟩ = some (.int .i64 n2) ∧ W.cell? ⟨b, o + k * 2, none⟩ = some (.int .u64 x) ∧ W.cell? ⟨b, o + k * 2 + 1, none⟩ = some (.int .i64 y)) := Lib.hid fun W hW =>
        have h2 := hB.trans (hW.mono hsz)
        ⟨(HN.out W h2).1, (HN.out W h2).2, (HC.out W h2).1, (HC.out W h2).2⟩
      cases dn with
      | true =>
        go_wp2_with (fail)
        go_quiet (fail)
        go_wp2_with (at_builtin
                     refine wpList_append_slk _ rfl (.tmp 28) (.tmp 33) _ rfl (w.heap.size + 1) 30 2 16 Try.underlying22 hitE (by omega) (.slice A' m c') m (hv out) rfl (World.ownsRow.alloc (w := wr.drewN nq) hown _) _ _ 1 1 [.int .u64 x, .int .i64 y] rfl (Sl.lit (wr.drewN nq) _ _) rfl (hc_oneOf _ _) (by omega) (by unfold maxLen; omega) (by simp; omega) ?_
                     intro v4 w4 hown4 hg4 hat4
                     obtain ⟨A4, c4, rfl, hc4⟩ := own_slice hown4)
        go_roundg (xs.length - (k + 1))
        case measure => omega
        case rel => exact ⟨k + 1, m + 1, c4, A4, true, out ++ [(x, y)], rfl, by omega, rfl, rfl, by go_num, by rw [List.length_append, ← HMO.out]; rfl, by rw [← HX.out]; exact HPT.out.pass hlt, by rw [hv_snoc]; exact hown4, below_appendK1 (below_drewN' hB nq) hsz _ (wr := wr.drewN nq) hown (Nat.le_refl _) hg4⟩
      | false =>
        have hm0 : m ≤ k := by have := HPT.out.size0 hk; have := HMO.out; omega
        have HL : Hid (∀ W, Below wr.heap.size wr W → Calls Try.prog 39 #[.agg #[.int .u64 n1, .int .i64 n2], .agg #[.int .u64 x, .int .i64 y]] W fun e w' => e = .returned (.bool (lt (n1, n2) (x, y))) ∧ Below wr.heap.size wr w') := Lib.hid fun W hW =>
          (less_any (n1, n2) (x, y) W).mono fun e w' ⟨he, hb⟩ => ⟨he, hW.trans (hb.mono hW.size)⟩
        have HOW : Hid (∀ W, Below wr.heap.size wr W → W.ownsRow (w.heap.size + 1) 30 2 (.slice A' m c') m (hv out) ∧ Below (w.heap.size + 1) W0 W ∧ w.heap.size + 1 ≤ W.heap.size) := Lib.hid fun W hW =>
          ⟨own_below hown hW (Nat.le_refl _), hB.trans (hW.mono hsz), Nat.le_trans hsz hW.size⟩
        clear hown hB hsz
        cases hlx : lt (n1, n2) (x, y) with
        | true =>
          rw [hlx] at HL
          have HLX := Lib.hid hlx
          clear hlx
          go_wp2_with (fail)
          go_region_held3 (fun W => W.cell? ⟨w.heap.size, 0, none⟩ = some (.int .u64 n1) ∧ W.cell? ⟨w.heap.size, 1, none⟩ = some (.int .i64 n2) ∧ W.cell? ⟨b, o + k * 2, none⟩ = some (.int .u64 x) ∧ W.cell? ⟨b, o + k * 2 + 1, none⟩ = some (.int .i64 y))
            ((refine HSC.out _ ?_; repeat' (first | (with_reducible assumption) | (with_reducible exact Below.refl _ _) | (with_reducible refine Below.drew ?_))))
            ((go_at_call 39; (refine (HL.out _ (by first | (with_reducible assumption) | (with_reducible exact Below.refl _ _) | (with_reducible exact Below.drew (Below.refl _ _)))).mono ?_); rintro e w2 ⟨rfl, hb2⟩))
          obtain ⟨ho2, hB2, hsz2⟩ := HOW.out w2 hb2
          obtain ⟨ca, cb, cc, cd⟩ := HSC.out w2 hb2
          go_wp2_with (first
            | (at_builtin
               refine wpList_append_slk _ rfl (.tmp 24) (.tmp 26) _ rfl (w.heap.size + 1) 30 2 16 Try.underlying22 hitE (by omega) (.slice A' m c') m (hv out) rfl (World.ownsRow.alloc (w := w2) ho2 _) _ _ 1 1 [.int .u64 n1, .int .i64 n2] rfl (Sl.lit w2 _ _) rfl (hc_oneOf _ _) (by omega) (by unfold maxLen; omega) (by simp; omega) ?_
               intro v3 w3 hown3 hg3 hat3
               obtain ⟨A3, c3, rfl, hc3⟩ := own_slice hown3
               have hB3 := below_appendK1 hB2 hsz2 _ ho2 (Nat.le_refl _) hg3
               have hsz3 : w.heap.size + 1 ≤ w3.heap.size := by have := hB3.size; have := HZ.out; omega
               obtain ⟨e0, e1⟩ := HC.out w3 hB3)
            | (at_builtin
               refine wpList_append_slk _ rfl (.tmp 28) (.tmp 33) _ rfl (w.heap.size + 1) 30 2 16 Try.underlying22 hitE (by omega) (.slice A3 (m + 1) c3) (m + 1) (hv out ++ [.int .u64 n1, .int .i64 n2]) rfl (World.ownsRow.alloc (w := w3) hown3 _) _ _ 1 1 [.int .u64 x, .int .i64 y] rfl (Sl.lit w3 _ _) rfl (hc_oneOf _ _) (by omega) (by unfold maxLen; omega) (by simp; omega) ?_
               intro v4 w4 hown4 hg4 hat4
               obtain ⟨A4, c4, rfl, hc4⟩ := own_slice hown4))
          go_roundg (xs.length - (k + 1))
          case measure => omega
          case rel => exact ⟨k + 1, m + 1 + 1, c4, A4, true, out ++ [(n1, n2)] ++ [(x, y)], rfl, by omega, rfl, rfl, by go_num, by rw [List.length_append, List.length_append, ← HMO.out]; rfl, by rw [← HX.out]; exact HPT.out.here hlt (by rw [HX.out]; exact HLX.out), by rw [hv_snoc, hv_snoc]; exact hown4, below_appendK1 hB3 hsz3 _ hown3 (Nat.le_refl _) hg4⟩
        | false =>
          rw [hlx] at HL
          have HLX := Lib.hid hlx
          clear hlx
          go_wp2_with (fail)
          go_region_held3 (fun W => W.cell? ⟨w.heap.size, 0, none⟩ = some (.int .u64 n1) ∧ W.cell? ⟨w.heap.size, 1, none⟩ = some (.int .i64 n2) ∧ W.cell? ⟨b, o + k * 2, none⟩ = some (.int .u64 x) ∧ W.cell? ⟨b, o + k * 2 + 1, none⟩ = some (.int .i64 y))
            ((refine HSC.out _ ?_; repeat' (first | (with_reducible assumption) | (with_reducible exact Below.refl _ _) | (with_reducible refine Below.drew ?_))))
            ((go_at_call 39; (refine (HL.out _ (by first | (with_reducible assumption) | (with_reducible exact Below.refl _ _) | (with_reducible exact Below.drew (Below.refl _ _)))).mono ?_); rintro e w2 ⟨rfl, hb2⟩))
          obtain ⟨ho2, hB2, hsz2⟩ := HOW.out w2 hb2
          obtain ⟨ca, cb, cc, cd⟩ := HSC.out w2 hb2
          go_wp2_with (at_builtin
                       refine wpList_append_slk _ rfl (.tmp 28) (.tmp 33) _ rfl (w.heap.size + 1) 30 2 16 Try.underlying22 hitE (by omega) (.slice A' m c') m (hv out) rfl (World.ownsRow.alloc (w := w2) ho2 _) _ _ 1 1 [.int .u64 x, .int .i64 y] rfl (Sl.lit w2 _ _) rfl (hc_oneOf _ _) (by omega) (by unfold maxLen; omega) (by simp; omega) ?_
                       intro v4 w4 hown4 hg4 hat4
                       obtain ⟨A4, c4, rfl, hc4⟩ := own_slice hown4)
          go_roundg (xs.length - (k + 1))
          case measure => omega
          case rel => exact ⟨k + 1, m + 1, c4, A4, false, out ++ [(x, y)], rfl, by omega, rfl, rfl, by go_num, by rw [List.length_append, ← HMO.out]; rfl, by rw [← HX.out]; exact HPT.out.on hlt (by rw [HX.out]; exact HLX.out), by rw [hv_snoc]; exact hown4, below_appendK1 hB2 hsz2 _ ho2 (Nat.le_refl _) hg4⟩
    · have i1 : ¬ (k : Int) < (xs.length : Int) := by omega
      cases dn with
      | true =>
        go_wp2_with (fail)
        go_ret
        exact HE.out out _ _ _ _ (HPT.out.done hlt) hown hB
      | false =>
        have hm0 : m ≤ k := by have := HPT.out.size0 hk; have := HMO.out; omega
        obtain ⟨hn0, hn1⟩ := HN.out wr hB
        go_wp2_with (at_builtin
                     refine wpList_append_slk _ rfl (.tmp 37) (.tmp 39) _ rfl (w.heap.size + 1) 30 2 16 Try.underlying22 hitE (by omega) (.slice A' m c') m (hv out) rfl (World.ownsRow.alloc (w := wr) hown _) _ _ 1 1 [.int .u64 n1, .int .i64 n2] rfl (Sl.lit wr _ _) rfl (hc_oneOf _ _) (by omega) (by unfold maxLen; omega) (by simp; omega) ?_
                     intro v4 w4 hown4 hg4 hat4
                     obtain ⟨A4, c4, rfl, hc4⟩ := own_slice hown4)
        go_ret
        exact HE.out (out ++ [(n1, n2)]) _ _ _ _ (HPT.out.last hlt) (by rw [hv_snoc]; exact hown4) (below_appendK1 hB hsz _ hown (Nat.le_refl _) hg4)
end Go.Proofs.Ytbpahlhmdbahjaa.hit
