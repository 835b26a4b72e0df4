/-
  The document's own rows of items: the contract of Put.
-/
import Derived.Test.YtaamlidflfdjkaaStS
namespace Go.Proofs.Ytaamlidflfdjkaa.store
open Go.RowKit law bytes only flat ord obj
open aro (Kept zK)
set_option linter.unusedVariables false

theorem putQ_yes {q : List (Int × Kept)} {id : Int} {k : Kept} (h : gq q id ≠ none) : putQ q id k = q := by
  unfold putQ
  rw [if_pos (by cases h2 : gq q id with | none => exact absurd h2 h | some v => rfl)]
theorem putQ_no {q : List (Int × Kept)} {id : Int} {k : Kept} (hr : RiseQ q) (hne : ∀ p ∈ q, p.1 ≠ id) : putQ q id k = if (pst (id, k) q).1 = true then (pst (id, k) q).2 else (pst (id, k) q).2 ++ [(id, k)] := by
  unfold putQ
  rw [gq_take_none hne]
  simp only [Option.isSome_none, Bool.false_eq_true, if_false]
  rcases pst_is (id, k) q hr hne with ⟨e, hl⟩ | ⟨e, -⟩
  · rw [e]
    unfold insQ
    rw [List.filter_eq_self.2 fun p hp => by simpa using hl p hp, List.filter_eq_nil_iff.2 fun p hp => by have := hl p hp; simp; omega]
    rfl
  · rw [e]
    rfl
/-- the state of Put's loop: what has been taken over, whether the new one has -/
def PutS (q : List (Int × Kept)) (x : Int × Kept) (k : Nat) (dn : Bool) (o : List (Int × Kept)) : Prop := pst x (q.take k) = (dn, o) ∧ ∀ p ∈ q.take k, p.1 ≠ x.1
theorem PutS.len {q : List (Int × Kept)} {x : Int × Kept} {k : Nat} {dn : Bool} {o : List (Int × Kept)} (h : PutS q x k dn o) (hk : k ≤ q.length) : o.length ≤ k + 1 := by
  have h1 := pst_len x (q.take k)
  rw [h.1, List.length_take, Nat.min_eq_left hk] at h1
  simp only at h1
  rw [h1]
  split <;> omega
theorem PutS.next {q : List (Int × Kept)} {x : Int × Kept} {k : Nat} {dn : Bool} {o : List (Int × Kept)} (h : PutS q x k dn o) (hk : k < q.length) (hne : q[k].1 ≠ x.1) : PutS q x (k + 1) (dn || decide (x.1 < q[k].1)) (if dn = false ∧ x.1 < q[k].1 then o ++ [x, q[k]] else o ++ [q[k]]) := by
  refine ⟨?_, fun p hp => ?_⟩
  · rw [pst_next hk, h.1]
    unfold pstep
    by_cases hc : dn = false ∧ x.1 < q[k].1
    · rw [if_pos hc, if_pos hc]
      simp [hc.2]
    · rw [if_neg hc, if_neg hc]
      cases dn with
      | true => rfl
      | false =>
        have : ¬ x.1 < q[k].1 := fun h => hc ⟨rfl, h⟩
        simp [this]
  · rw [List.take_succ_eq_append_getElem hk] at hp
    rcases List.mem_append.1 hp with hp | hp
    · exact h.2 p hp
    · obtain rfl : p = q[k] := by simpa using hp
      exact hne
set_option maxRecDepth 100000 in
set_option maxHeartbeats 3200000 in
theorem rput_any (A : Option Addr) (c : Nat) (q : List (Int × Kept)) (id : Int) (x : Kept) (w : World) (T : Nat → Prop) (hT : ∀ i, T i → i < w.heap.size) (hs : Away w T A (q.flatMap iE)) (hr : RiseQ q) (hq : q.length ≤ 2513169434913) :
    Calls Try.prog 9 #[.slice A q.length c, iV id x] w (RowP w T (putQ q id x) (if (gq q id).isSome = true then 4 else 0)) := by
  have hIV : iV id x = .agg #[.int .u64 id, .int .i64 x.x.tag, .slice x.A x.x.vec.length x.c, .string x.x.str] := rfl
  have hb1 : Below w.heap.size w (w.alloc (.cells #[.int .u64 id, .int .i64 x.x.tag, .slice x.A x.x.vec.length x.c, .string x.x.str] 38)) := (Below.refl _ _).alloc (Nat.le_refl _) _
  have hgr := Blk.new w 38 #[.int .u64 id, .int .i64 x.x.tag, .slice x.A x.x.vec.length x.c, .string x.x.str]
  have hs1 := hs.sl.below hb1
  rw [hIV]
  generalize hV : w.alloc (.cells #[.int .u64 id, .int .i64 x.x.tag, .slice x.A x.x.vec.length x.c, .string x.x.str] 38) = V at hb1 hgr hs1
  obtain ⟨gb, hgb⟩ : ∃ g, g = w.heap.size := ⟨_, rfl⟩
  rw [← hgb] at hgr
  obtain ⟨f, hf⟩ : ∃ f : Int, f = (if (gq q id).isSome = true then 4 else 0) := ⟨_, rfl⟩
  rw [← hf]
  have hVs : V.heap.size = w.heap.size + 1 := by rw [← hV]; simp
  have HF := Lib.hid hf
  have HG := Lib.hid hgb
  have HS := Lib.hid hs
  have HSV := Lib.hid hs1
  have HB := Lib.hid hb1
  have HBX := Lib.hid hgr
  have HT := Lib.hid hT
  have HVS := Lib.hid hVs
  have HR := Lib.hid hr
  have HO0 : Hid (V.ownsRow V.heap.size 38 4 (.slice none 0 0) 0 (([] : List (Int × Kept)).flatMap iE)) := Lib.hid (World.ownsRow_nil _ _ _ _)
  clear hs hs1 hb1 hgr hgb hf hT hIV hr hVs
  go_enter Try.func9, Try.ntmps9
  go_wp2_with (fail)
  rw [← HG.out]
  go_loopg [6, 7, 8] q.length (fun gk s6 s7 s8 wr => ∃ (k m c' : Nat) (A' : Option Addr) (dn : Bool) (o : List (Int × Kept)), gk = q.length - k ∧ k ≤ q.length ∧ s6 = .slice A' m c' ∧ s7 = .bool dn ∧ s8 = .int .i64 k ∧ m = o.length ∧ PutS q (id, x) k dn o ∧ wr.ownsRow V.heap.size 38 4 (.slice A' m c') m (o.flatMap iE) ∧ Below V.heap.size V wr)
  case atStart => exact ⟨0, 0, 0, none, false, [], rfl, Nat.zero_le _, rfl, rfl, rfl, rfl, ⟨rfl, fun p hp => by simp at hp⟩, HO0.out, Below.refl _ _⟩
  case round =>
    clear HO0
    obtain ⟨k, m, c', A', dn, o, rfl, hk, rfl, rfl, rfl, hmo, hps, hown, hb⟩ := hrel
    have hmk : m ≤ k + 1 := by have := hps.len hk; omega
    have HMO := Lib.hid hmo
    clear hmo
    have sz := hb.size
    have hbx := HBX.out.below hb HBX.out.lt
    obtain ⟨x0, x1, x2, x3, -⟩ := cells4' hbx
    by_cases hlt : k < q.length
    · have i1 : (k : Int) < (q.length : Int) := by omega
      obtain ⟨b, oo, rfl, -, d0, d1, d2, d3⟩ := itemAt (HSV.out.below (hb.mono (by have := HB.out.size; omega))) hlt
      by_cases he : q[k].1 = id
      · have hgn : gq q id ≠ none := fun h => gq_none h q[k] (List.getElem_mem hlt) he
        have HE : Hid (∀ n, RowP w T (putQ q id x) f (.returned (.tuple #[.slice (some ⟨b, oo, none⟩) q.length c, .int .i64 4])) (wr.drewN n)) := Lib.hid fun n => by
          rw [putQ_yes hgn, HF.out, if_pos (by cases h2 : gq q id with | none => exact absurd h2 hgn | some v => rfl)]
          exact RowP.old HS.out (below_drewN (HB.out.trans (hb.mono HB.out.size)) n)
        have i2 : (id == id) = true := by simp
        rw [he] at d0
        clear hps hown hb hbx he hgn d1 d2 d3
        go_wp2_with (fail)
        go_quiet (fail)
        go_wp2_with (fail)
        exact bodyPost_ret (v := .tuple #[.slice (some ⟨b, oo, none⟩) q.length c, .int .i64 4]) (by simp [results, Try.results9, go_sem]) rfl (HE.out _)
      · have HNX := Lib.hid (hps.next hlt he)
        obtain ⟨p, hpq⟩ : ∃ p, p = q[k] := ⟨_, rfl⟩
        rw [← hpq] at d0 d1 d2 d3 HNX he
        have HPQ := Lib.hid hpq
        clear hpq
        have i2 : (p.1 == id) = false := by simpa using he
        have hfl := flat_length iE_len o
        by_cases hc : dn = false ∧ id < p.1
        · obtain ⟨rfl, hlt2⟩ := hc
          have HN := Lib.hid (show PutS q (id, x) (k + 1) true ((o ++ [(id, x)]) ++ [p]) by
            have h := HNX.out
            rw [if_pos ⟨rfl, hlt2⟩] at h
            simpa [hlt2] using h)
          have i3 : decide (id < p.1) = true := decide_eq_true hlt2
          clear hps HNX he
          go_wp2_with (fail)
          go_quiet (fail)
          generalize nq = n1
          go_wp2_with (fail)
          go_quiet (fail)
          generalize nq = n2
          have hownW : ((wr.drewN n1).drewN n2).ownsRow V.heap.size 38 4 (.slice A' m c') m (o.flatMap iE) := hown
          have hbW : Below V.heap.size V ((wr.drewN n1).drewN n2) := below_drewN (below_drewN hb n1) n2
          have szW : V.heap.size ≤ ((wr.drewN n1).drewN n2).heap.size := sz
          have hbxW : Blk ((wr.drewN n1).drewN n2) gb 38 #[.int .u64 id, .int .i64 x.x.tag, .slice x.A x.x.vec.length x.c, .string x.x.str] := hbx
          have e0 : ((wr.drewN n1).drewN n2).cell? ⟨b, oo + k * 4, none⟩ = some (.int .u64 p.1) := d0
          have e1 : ((wr.drewN n1).drewN n2).cell? ⟨b, oo + k * 4 + 1, none⟩ = some (.int .i64 p.2.x.tag) := d1
          have e2 : ((wr.drewN n1).drewN n2).cell? ⟨b, oo + k * 4 + 2, none⟩ = some (.slice p.2.A p.2.x.vec.length p.2.c) := d2
          have e3 : ((wr.drewN n1).drewN n2).cell? ⟨b, oo + k * 4 + 3, none⟩ = some (.string p.2.x.str) := d3
          clear hown hb sz hbx d0 d1 d2 d3 x0 x1 x2 x3
          generalize (wr.drewN n1).drewN n2 = W at hownW hbW szW hbxW e0 e1 e2 e3 ⊢
          obtain ⟨x0, x1, x2, x3, -⟩ := cells4' hbxW
          have HB4 : Hid (∀ v4 w4, w4.ownsRow V.heap.size 38 4 v4 (m + 1) (o.flatMap iE ++ iE ((id, x) : Int × Kept)) → (W.alloc (.cells #[.int .u64 id, .int .i64 x.x.tag, .slice x.A x.x.vec.length x.c, .string x.x.str] 38)).grownBy w4 (Value.slice A' m c').ownBlock → w4.ownsRow V.heap.size 38 4 v4 (m + 1) ((o ++ [((id, x) : Int × Kept)]).flatMap iE) ∧ Below V.heap.size V w4) := Lib.hid fun v4 w4 ho hg => ⟨by rw [List.flatMap_append]; simpa using ho, below_appendK1 hbW szW _ hownW (Nat.le_refl _) hg⟩
          have HC4 : Hid (∀ w4, Below V.heap.size V w4 → w4.cell? ⟨b, oo + k * 4, none⟩ = some (.int .u64 p.1) ∧ w4.cell? ⟨b, oo + k * 4 + 1, none⟩ = some (.int .i64 p.2.x.tag) ∧ w4.cell? ⟨b, oo + k * 4 + 2, none⟩ = some (.slice p.2.A p.2.x.vec.length p.2.c) ∧ w4.cell? ⟨b, oo + k * 4 + 3, none⟩ = some (.string p.2.x.str)) := Lib.hid fun w4 h4 => by
            obtain ⟨b2, o2, e, -, f0, f1, f2, f3⟩ := itemAt (HSV.out.below (h4.mono (by have := HB.out.size; omega))) hlt
            injection e with e
            injection e with eb eo _
            subst eb eo
            rw [HPQ.out]
            exact ⟨f0, f1, f2, f3⟩
          go_wp2_with (first
            | (at_builtin
               refine wpList_append_slk _ rfl (.tmp 36) (.tmp 38) _ rfl V.heap.size 38 4 56 Try.underlying32 itemK (by decide) (.slice A' m c') m (o.flatMap iE) rfl (World.ownsRow.alloc (w := W) hownW _) _ _ 1 1 (iE ((id, x) : Int × Kept)) rfl (Sl.lit W _ _) rfl (fun u hu => iE_one [((id, x) : Int × Kept)] u (by simpa using hu)) (by omega) (by unfold maxLen; omega) (by simp; omega) ?_
               intro v4 w4 hown4 hg4 hat4
               obtain ⟨hr4, hb4⟩ := HB4.out v4 w4 hown4 hg4
               obtain ⟨y0, y1, y2, y3⟩ := HC4.out w4 hb4
               have sz4 := hb4.size
               have hl4 := hr4.1
               obtain ⟨A4, c4, rfl, hc4⟩ := own_slice hown4)
            | (at_builtin
               refine wpList_append_slk _ rfl (.tmp 40) (.tmp 45) _ rfl V.heap.size 38 4 56 Try.underlying32 itemK (by decide) (.slice A4 (m + 1) c4) (m + 1) ((o ++ [((id, x) : Int × Kept)]).flatMap iE) rfl (World.ownsRow.alloc (w := w4) hr4 _) _ _ 1 1 (iE p) rfl (Sl.lit w4 _ _) rfl (fun u hu => iE_one [p] u (by simpa using hu)) (by omega) (by unfold maxLen; omega) (by simp; omega) ?_
               intro v5 w5 hown5 hg5 hat5
               have hb5 := below_appendK1 hb4 sz4 _ hr4 (Nat.le_refl _) hg5
               obtain ⟨A5, c5, rfl, hc5⟩ := own_slice hown5))
          have hrw : ((o ++ [((id, x) : Int × Kept)]) ++ [p]).flatMap iE = (o ++ [((id, x) : Int × Kept)]).flatMap iE ++ iE p := by simp
          go_roundg (q.length - (k + 1))
          case measure => omega
          case rel => exact ⟨k + 1, m + 1 + 1, c5, A5, true, _, rfl, by omega, rfl, rfl, by go_num, by simp [HMO.out], HN.out, by rw [hrw]; exact hown5, hb5⟩
        · cases dn with
          | true =>
            have HN := Lib.hid (show PutS q (id, x) (k + 1) true (o ++ [p]) by
              have h := HNX.out
              rw [if_neg hc] at h
              simpa using h)
            clear hps HNX he
            go_wp2_with (fail)
            go_quiet (fail)
            generalize nq = n1
            go_wp2_with (fail)
            go_quiet (fail)
            generalize nq = n2
            have hownW : ((wr.drewN n1).drewN n2).ownsRow V.heap.size 38 4 (.slice A' m c') m (o.flatMap iE) := hown
            have hbW : Below V.heap.size V ((wr.drewN n1).drewN n2) := below_drewN (below_drewN hb n1) n2
            have szW : V.heap.size ≤ ((wr.drewN n1).drewN n2).heap.size := sz
            have hbxW : Blk ((wr.drewN n1).drewN n2) gb 38 #[.int .u64 id, .int .i64 x.x.tag, .slice x.A x.x.vec.length x.c, .string x.x.str] := hbx
            have e0 : ((wr.drewN n1).drewN n2).cell? ⟨b, oo + k * 4, none⟩ = some (.int .u64 p.1) := d0
            have e1 : ((wr.drewN n1).drewN n2).cell? ⟨b, oo + k * 4 + 1, none⟩ = some (.int .i64 p.2.x.tag) := d1
            have e2 : ((wr.drewN n1).drewN n2).cell? ⟨b, oo + k * 4 + 2, none⟩ = some (.slice p.2.A p.2.x.vec.length p.2.c) := d2
            have e3 : ((wr.drewN n1).drewN n2).cell? ⟨b, oo + k * 4 + 3, none⟩ = some (.string p.2.x.str) := d3
            clear hown hb sz hbx d0 d1 d2 d3 x0 x1 x2 x3
            generalize (wr.drewN n1).drewN n2 = W at hownW hbW szW hbxW e0 e1 e2 e3 ⊢
            obtain ⟨x0, x1, x2, x3, -⟩ := cells4' hbxW
            go_wp2_with (at_builtin
                         refine wpList_append_slk _ rfl (.tmp 40) (.tmp 45) _ rfl V.heap.size 38 4 56 Try.underlying32 itemK (by decide) (.slice A' m c') m (o.flatMap iE) rfl (World.ownsRow.alloc (w := W) hownW _) _ _ 1 1 (iE p) rfl (Sl.lit W _ _) rfl (fun u hu => iE_one [p] u (by simpa using hu)) (by omega) (by unfold maxLen; omega) (by simp; omega) ?_
                         intro v5 w5 hown5 hg5 hat5
                         have hb5 := below_appendK1 hbW szW _ hownW (Nat.le_refl _) hg5
                         obtain ⟨A5, c5, rfl, hc5⟩ := own_slice hown5)
            have hrw : (o ++ [p]).flatMap iE = o.flatMap iE ++ iE p := by simp
            go_roundg (q.length - (k + 1))
            case measure => omega
            case rel => exact ⟨k + 1, m + 1, c5, A5, true, _, rfl, by omega, rfl, rfl, by go_num, by simp [HMO.out], HN.out, by rw [hrw]; exact hown5, hb5⟩
          | false =>
            have hnl : ¬ id < p.1 := fun h => hc ⟨rfl, h⟩
            have i3 : decide (id < p.1) = false := decide_eq_false hnl
            have HN := Lib.hid (show PutS q (id, x) (k + 1) false (o ++ [p]) by
              have h := HNX.out
              rw [if_neg hc] at h
              simpa [hnl] using h)
            clear hps HNX he
            go_wp2_with (fail)
            go_quiet (fail)
            generalize nq = n1
            go_wp2_with (fail)
            go_quiet (fail)
            generalize nq = n2
            have hownW : ((wr.drewN n1).drewN n2).ownsRow V.heap.size 38 4 (.slice A' m c') m (o.flatMap iE) := hown
            have hbW : Below V.heap.size V ((wr.drewN n1).drewN n2) := below_drewN (below_drewN hb n1) n2
            have szW : V.heap.size ≤ ((wr.drewN n1).drewN n2).heap.size := sz
            have hbxW : Blk ((wr.drewN n1).drewN n2) gb 38 #[.int .u64 id, .int .i64 x.x.tag, .slice x.A x.x.vec.length x.c, .string x.x.str] := hbx
            have e0 : ((wr.drewN n1).drewN n2).cell? ⟨b, oo + k * 4, none⟩ = some (.int .u64 p.1) := d0
            have e1 : ((wr.drewN n1).drewN n2).cell? ⟨b, oo + k * 4 + 1, none⟩ = some (.int .i64 p.2.x.tag) := d1
            have e2 : ((wr.drewN n1).drewN n2).cell? ⟨b, oo + k * 4 + 2, none⟩ = some (.slice p.2.A p.2.x.vec.length p.2.c) := d2
            have e3 : ((wr.drewN n1).drewN n2).cell? ⟨b, oo + k * 4 + 3, none⟩ = some (.string p.2.x.str) := d3
            clear hown hb sz hbx d0 d1 d2 d3 x0 x1 x2 x3
            generalize (wr.drewN n1).drewN n2 = W at hownW hbW szW hbxW e0 e1 e2 e3 ⊢
            obtain ⟨x0, x1, x2, x3, -⟩ := cells4' hbxW
            go_wp2_with (at_builtin
                         refine wpList_append_slk _ rfl (.tmp 40) (.tmp 45) _ rfl V.heap.size 38 4 56 Try.underlying32 itemK (by decide) (.slice A' m c') m (o.flatMap iE) rfl (World.ownsRow.alloc (w := W) hownW _) _ _ 1 1 (iE p) rfl (Sl.lit W _ _) rfl (fun u hu => iE_one [p] u (by simpa using hu)) (by omega) (by unfold maxLen; omega) (by simp; omega) ?_
                         intro v5 w5 hown5 hg5 hat5
                         have hb5 := below_appendK1 hbW szW _ hownW (Nat.le_refl _) hg5
                         obtain ⟨A5, c5, rfl, hc5⟩ := own_slice hown5)
            have hrw : (o ++ [p]).flatMap iE = o.flatMap iE ++ iE p := by simp
            go_roundg (q.length - (k + 1))
            case measure => omega
            case rel => exact ⟨k + 1, m + 1, c5, A5, false, _, rfl, by omega, rfl, rfl, by go_num, by simp [HMO.out], HN.out, by rw [hrw]; exact hown5, hb5⟩
    · obtain rfl : k = q.length := by omega
      have i1 : ¬ (q.length : Int) < (q.length : Int) := by omega
      have hne := hps.2
      have hpst := hps.1
      rw [List.take_length] at hne hpst
      have hpq := putQ_no (k := x) HR.out hne
      rw [hpst] at hpq
      have hfz : f = 0 := by rw [HF.out, gq_take_none hne]; rfl
      subst hfz
      have hlow := fun w4 (h4 : Below V.heap.size V w4) => HB.out.trans (h4.mono HB.out.size)
      have hVw : w.heap.size ≤ V.heap.size := HB.out.size
      cases dn with
      | true =>
        have HE : Hid (RowP w T (putQ q id x) 0 (.returned (.tuple #[.slice A' m c', .int .i64 0])) wr) := Lib.hid (by
          rw [hpq]
          exact RowP.mk (own_base hown hVw) HT.out (hlow _ hb))
        clear hown hb hps hne hpst hpq hlow hbx
        go_wp2_with (fail)
        exact bodyPost_ret (v := .tuple #[.slice A' m c', .int .i64 0]) (by simp [results, Try.results9, go_sem]) rfl HE.out
      | false =>
        have HE : Hid (∀ v4 w4, w4.ownsRow V.heap.size 38 4 v4 (m + 1) (o.flatMap iE ++ iE ((id, x) : Int × Kept)) → Below V.heap.size V w4 → ∃ A4 c4, v4 = .slice A4 (m + 1) c4 ∧ RowP w T (putQ q id x) 0 (.returned (.tuple #[.slice A4 (m + 1) c4, .int .i64 0])) w4) := Lib.hid fun v4 w4 ho h4 => by
          obtain ⟨A4, c4, rfl, -⟩ := own_slice ho
          refine ⟨A4, c4, rfl, ?_⟩
          rw [hpq]
          simp only [Bool.false_eq_true, if_false]
          exact RowP.mk (own_base (by rw [List.flatMap_append]; simpa using ho) hVw) HT.out (hlow _ h4)
        clear hps hne hpst hpq hlow hbx
        go_wp2_with (at_builtin
                     refine wpList_append_slk _ rfl (.tmp 49) (.tmp 51) _ rfl V.heap.size 38 4 56 Try.underlying32 itemK (by decide) (.slice A' m c') m (o.flatMap iE) rfl (World.ownsRow.alloc (w := wr) hown _) _ _ 1 1 (iE ((id, x) : Int × Kept)) rfl (Sl.lit wr _ _) rfl (fun u hu => iE_one [((id, x) : Int × Kept)] u (by simpa using hu)) (by omega) (by unfold maxLen; omega) (by simp; omega) ?_
                     intro v5 w5 hown5 hg5 hat5
                     obtain ⟨A5, c5, rfl, hE⟩ := HE.out v5 w5 hown5 (below_appendK1 hb sz _ hown (Nat.le_refl _) hg5)
                     have HE5 := Lib.hid hE
                     clear hown5 hg5 hat5 hE HE)
        exact bodyPost_ret (v := .tuple #[.slice A5 (m + 1) c5, .int .i64 0]) (by simp [results, Try.results9, go_sem]) rfl HE5.out
end Go.Proofs.Ytaamlidflfdjkaa.store
