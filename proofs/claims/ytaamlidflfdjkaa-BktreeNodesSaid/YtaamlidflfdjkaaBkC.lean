/-
  The document's own tree: Cut.
-/
import Derived.Test.YtaamlidflfdjkaaBkR
namespace Go.Proofs.Ytaamlidflfdjkaa.bk
open Go.RowKit Go.WideShapes law bytes only flat nums ord obj metric tab
open aro (Kept)
open store (iE iE_len itemAt rM)
open told (own_types blk_types)
open Go.Maps Go.ChangeAt
set_option linter.unusedVariables false
set_option maxRecDepth 100000

def mkN (id : Int) (d : Nd) : Nd := if d.id = id then { d with gone := true } else d
theorem mkN_yes {id : Int} {d : Nd} (h : d.id = id) : mkN id d = { d with gone := true } := if_pos h
theorem mkN_no {id : Int} {d : Nd} (h : d.id ≠ id) : mkN id d = d := if_neg h
theorem mkN_t (id : Int) (d : Nd) : (mkN id d).t = d.t := by
  unfold mkN
  split <;> rfl
theorem mkN_id (id : Int) (d : Nd) : (mkN id d).id = d.id := by
  unfold mkN
  split <;> rfl
/-- the first k marked -/
def mkd (id : Int) (k : Nat) (l : List Nd) : List Nd := (l.take k).map (mkN id) ++ l.drop k
theorem mkd_len (id : Int) (k : Nat) (l : List Nd) : (mkd id k l).length = l.length := by
  unfold mkd
  simp
  omega
theorem mkd_zero (id : Int) (l : List Nd) : mkd id 0 l = l := by
  unfold mkd
  simp
theorem mkd_all (id : Int) (l : List Nd) : mkd id l.length l = l.map (mkN id) := by
  unfold mkd
  simp
theorem mkd_at {id : Int} {k : Nat} {l : List Nd} (hk : k < l.length) : (mkd id k l)[k]? = some l[k] := by
  unfold mkd
  rw [List.getElem?_append_right (by simp; omega)]
  simp [Nat.min_eq_left (Nat.le_of_lt hk), hk]
theorem mkd_next {id : Int} {k : Nat} {l : List Nd} (hk : k < l.length) : mkd id (k + 1) l = (mkd id k l).set k (mkN id l[k]) := by
  unfold mkd
  rw [List.take_succ_eq_append_getElem hk, List.map_append, List.set_append_right _ _ (by simp; omega)]
  simp [Nat.min_eq_left (Nat.le_of_lt hk)]
  rw [List.drop_eq_getElem_cons hk]
  rfl
theorem mkd_same {id : Int} {k : Nat} {l : List Nd} (hk : k < l.length) (h : l[k].id ≠ id) : mkd id (k + 1) l = mkd id k l := by
  rw [mkd_next hk, mkN_no h]
  refine List.ext_getElem? fun j => ?_
  rw [List.getElem?_set]
  split
  · rename_i e
    subst e
    rw [mkd_at hk, if_pos (by rw [mkd_len]; exact hk)]
  · rfl
/-- how many are gone -/
def gn (l : List Nd) : Nat := l.countP (·.gone)
theorem gn_next {id : Int} {k : Nat} {l : List Nd} (hk : k < l.length) : gn ((l.take (k + 1)).map (mkN id)) = gn ((l.take k).map (mkN id)) + if (mkN id l[k]).gone then 1 else 0 := by
  unfold gn
  rw [List.take_succ_eq_append_getElem hk, List.map_append, List.countP_append]
  cases hb : (mkN id l[k]).gone <;> simp [hb]
theorem gn_cnt (l : List Nd) : gn l + cnt (l.map bn) = l.length := by
  induction l with
  | nil => rfl
  | cons a l ih =>
    unfold gn cnt at ih ⊢
    rw [List.map_cons, List.countP_cons, List.countP_cons, List.length_cons]
    cases hb : a.gone <;> simp [hb, bn] at ih ⊢ <;> omega
theorem gn_le (l : List Nd) : gn l ≤ l.length := List.countP_le_length
/-- marks, and the one that is gone -/
theorem mark_set {l : List Nd} {id : Int} {i : Nat} {b : Bn} (hu : Ul (l.map bn)) (h : lv (l.map bn) id = some i) (hb : (l.map bn)[i]? = some b) : (l.map (mkN id)).map bn = (l.map bn).set i { b with gone := true } := by
  obtain ⟨b', hb', hg, hid⟩ := lv_some h
  rw [hb] at hb'
  injection hb' with hb'
  subst hb'
  refine List.ext_getElem? fun j => ?_
  rw [List.getElem?_set, List.getElem?_map, List.getElem?_map]
  cases hj : l[j]? with
  | none =>
    have hjl := List.getElem?_eq_none_iff.1 hj
    have hil := lv_lt h
    rw [List.length_map] at hil
    rw [if_neg (by omega), List.getElem?_map, hj]
    rfl
  | some d =>
    have hjm : (l.map bn)[j]? = some (bn d) := by rw [List.getElem?_map, hj]; rfl
    have hil := lv_lt h
    by_cases e : i = j
    · subst e
      rw [hb] at hjm
      injection hjm with hjm
      rw [if_pos rfl, if_pos hil]
      subst hjm
      show some (bn (mkN id d)) = _
      rw [mkN_yes (show d.id = id from hid)]
      rfl
    · rw [if_neg e, hjm]
      show some (bn (mkN id d)) = _
      by_cases e2 : d.id = id
      · rw [mkN_yes e2]
        cases hgd : d.gone with
        | true => simp [bn, hgd]
        | false => exact absurd (hu i j b (bn d) hb hjm hg hgd (by rw [hid]; exact e2.symm)) e
      · rw [mkN_no e2]
theorem Tree.puts {n : Int} {L : List Bn} (h : Tree n L) : ∀ (l : List (Int × Thing)), Tree n (puts n L l) := fun l => by
  induction l generalizing L with
  | nil => exact h
  | cons q l ih =>
    rw [puts_cons]
    exact ih (h.put _ rfl)
/-- what is left of a row -/
def rest (n : Int) (L : List Bn) : List Bn := if cnt L < L.length - cnt L then puts n [] (lvs L) else L
theorem cutB_rest {n : Int} {l : List Nd} {id : Int} {i : Nat} (hu : Ul (l.map bn)) (h : lv (l.map bn) id = some i) : cutB n (l.map bn) i = rest n ((l.map (mkN id)).map bn) := by
  obtain ⟨b, hb, -, -⟩ := lv_some h
  rw [mark_set hu h hb]
  unfold cutB rest
  rw [hb]
def RCutP (w : World) (n : Int) (l : List Nd) (id : Int) (e : Ending) (w' : World) : Prop :=
  ∃ (A : Option Addr) (c : Nat) (R : List Nd), e = .returned (.slice A R.length c) ∧ w'.ownsRow w.heap.size 67 7 (.slice A R.length c) R.length (R.flatMap bkE) ∧ Below w.heap.size w w' ∧ R.map bn = rest n ((l.map (mkN id)).map bn) ∧ ∀ m ∈ R, ∃ d ∈ l, m.t = d.t
/-- while it marks -/
def RcS (w : World) (l : List Nd) (id : Int) (A : Option Addr) (c k : Nat) (W : World) : Prop :=
  Below w.heap.size w W ∧ W.ownsRow w.heap.size 67 7 (.slice A l.length c) l.length ((mkd id k l).flatMap bkE)
section
variable {w w' w1 W W' : World} {i k : Nat} {n id : Int} {l : List Nd} {A : Option Addr} {c g : Nat}
theorem RcS.at_ (h : RcS w l id A c k W) (hk : k < l.length) : ∃ g, A = some ⟨g, 0, none⟩ ∧ W.cell? ⟨g, k * 7, none⟩ = some (.int .u64 l[k].id) ∧ W.cell? ⟨g, k * 7 + 4, none⟩ = some (.bool l[k].gone) ∧ (∀ j, W.frozen? ⟨g, j, none⟩ = false) ∧ w.heap.size ≤ g := by
  obtain ⟨h1, h2⟩ := h
  obtain ⟨g, c', e, h3, h4, h5⟩ := own_form h2 (by omega)
  injection e with e1 e2 e3
  subst e1
  subst e3
  have hl := mkd_len id k l
  have hc := fun j hj => own_cellK h2 bkE_len (by rw [hl]; omega) k j (by rw [hl]; exact hk) hj
  have he : (mkd id k l)[k]'(by rw [hl]; exact hk) = l[k] := (List.getElem?_eq_some_iff.1 (mkd_at hk)).2
  rw [he] at hc
  exact ⟨g, rfl, hc 0 (by omega), hc 4 (by omega), fun j => World.ownsRow.frozenAt h2 j, h3⟩
theorem RcS.yes (h : RcS w l id (some ⟨g, 0, none⟩) c k W) (hk : k < l.length) (he : l[k].id = id) (hg : w.heap.size ≤ g) : RcS w l id (some ⟨g, 0, none⟩) c (k + 1) (W.setCell ⟨g, k * 7 + 4, none⟩ (.bool true)) ∧ (W.setCell ⟨g, k * 7 + 4, none⟩ (.bool true)).cell? ⟨g, k * 7 + 4, none⟩ = some (.bool true) := by
  obtain ⟨h1, h2⟩ := h
  have hl := mkd_len id k l
  have hm : (mkd id k l)[k]'(by rw [hl]; exact hk) = l[k] := (List.getElem?_eq_some_iff.1 (mkd_at hk)).2
  have h3 := own_set h2 (k * 7 + 4) (.bool true)
  rw [flat_one bkE_len (mkd id k l) k (by rw [hl]; exact hk) 4 (by omega) (.bool true) (mkN id l[k]) (by rw [hm, mkN_yes he]; rfl), ← mkd_next hk] at h3
  have hl2 := mkd_len id (k + 1) l
  have hc := own_cellK h3 bkE_len (by rw [hl2]; omega) k 4 (by rw [hl2]; exact hk) (by omega)
  have e2 : (mkd id (k + 1) l)[k]'(by rw [hl2]; exact hk) = mkN id l[k] := by
    have := mkd_next (id := id) hk
    simp only [this, List.getElem_set_self]
  rw [e2, mkN_yes he] at hc
  exact ⟨⟨h1.setCell (p := ⟨g, k * 7 + 4, none⟩) hg _, h3⟩, hc⟩
theorem RcS.no (h : RcS w l id A c k W) (hk : k < l.length) (he : l[k].id ≠ id) : RcS w l id A c (k + 1) W := by
  obtain ⟨h1, h2⟩ := h
  exact ⟨h1, by rw [mkd_same hk he]; exact h2⟩
/-- while it puts the rest -/
def RfS (w : World) (n : Int) (l R : List Nd) (A : Option Addr) (c i : Nat) (M : List Nd) (A5 : Option Addr) (c5 : Nat) (W : World) : Prop :=
  Below w.heap.size w W ∧ W.ownsRow w.heap.size 67 7 (.slice A l.length c) l.length (R.flatMap bkE) ∧ W.ownsRow w.heap.size 67 7 (.slice A5 M.length c5) M.length (M.flatMap bkE) ∧ M.map bn = puts n [] (lvs ((R.take i).map bn)) ∧ ∀ m ∈ M, ∃ d ∈ l, m.t = d.t
theorem RfS.skip {R M : List Nd} {A5 : Option Addr} {c5 : Nat} (h : RfS w n l R A c i M A5 c5 W) {y : Nd} (hy : R[i]? = some y) (hg : y.gone = true) : RfS w n l R A c (i + 1) M A5 c5 W := by
  obtain ⟨h1, h2, h3, h4, h5⟩ := h
  refine ⟨h1, h2, h3, ?_, h5⟩
  rw [List.take_add_one, hy, Option.toList_some, List.map_append, List.map_singleton, lvs_snoc, if_pos (show (bn y).gone = true from hg), h4]
theorem RfS.put {R M : List Nd} {A5 : Option Addr} {c5 : Nat} (h : RfS w n l R A c i M A5 c5 W) (hR : R = l.map (mkN id)) {y : Nd} (hy : R[i]? = some y) (hg : y.gone = false) (hv : ∀ d ∈ l, Sl w w.heap.size d.t.a (iv d.t.x.vec)) (hsm : ∀ d ∈ l, Small d.t.x) (hl : l.length ≤ 1048576) :
    Calls Try.prog 10 #[.int .i64 n, .slice A5 M.length c5, .agg #[.int .u64 y.id, .int .i64 y.t.x.tag, .slice y.t.a y.t.x.vec.length y.t.c, .string y.t.x.str]] W fun e w' => ∃ A6 c6 M', e = .returned (.slice A6 M'.length c6) ∧ RfS w n l R A c (i + 1) M' A6 c6 w' := by
  obtain ⟨h1, h2, h3, h4, h5⟩ := h
  have hyl : ∃ d ∈ l, y.t = d.t := by
    have := List.mem_of_getElem? hy
    rw [hR] at this
    obtain ⟨d, hd, rfl⟩ := List.mem_map.1 this
    exact ⟨d, hd, mkN_t _ _⟩
  obtain ⟨d, hd, hdt⟩ := hyl
  have hvW : ∀ m, (∃ d ∈ l, m = d.t) → Sl W W.heap.size m.a (iv m.x.vec) := fun m ⟨d, hd, e⟩ => by rw [e]; exact ((hv d hd).below h1).more h1.size
  have hML : M.length ≤ i := by
    have := congrArg List.length h4
    rw [List.length_map, puts_len, List.length_nil] at this
    have h6 := lvs_len ((R.take i).map bn)
    rw [List.length_map, List.length_take] at h6
    omega
  have hil : i < l.length := by
    have := (List.getElem?_eq_some_iff.1 hy).1
    rw [hR, List.length_map] at this
    exact this
  have hT : Tree n (M.map bn) := by rw [h4]; exact (Tree.nil n).puts _
  refine (rput_any (w := W) (l := M) (A := A5) (c := c5) n y.id y.t hT (Sl.of_ownK h3) (fun m hm => hvW _ (h5 m hm)) (fun m hm => by obtain ⟨d, hd, e⟩ := h5 m hm; rw [e]; exact hsm d hd) (by rw [hdt]; exact hsm d hd) (hvW _ ⟨d, hd, hdt⟩) (by omega)).mono ?_
  rintro e w1 ⟨A6, c6, rfl, ho, hb⟩
  refine ⟨A6, c6, M ++ [nodeQ n M y.id y.t], by simp, h1.trans (hb.mono h1.size), own_below h2 hb (Nat.le_refl _), ?_, ?_, fun m hm => ?_⟩
  · have := own_base ho h1.size
    simpa using this
  · rw [List.take_add_one, hy, Option.toList_some, List.map_append, List.map_append, List.map_singleton, List.map_singleton, lvs_snoc, if_neg (show ¬ (bn y).gone = true by rw [show (bn y).gone = y.gone from rfl, hg]; simp), puts_snoc, bn_nodeQ, h4]
    rfl
  · rcases List.mem_append.1 hm with hm | hm
    · exact h5 m hm
    · obtain rfl : m = nodeQ n M y.id y.t := by simpa using hm
      exact ⟨d, hd, hdt⟩
theorem RfS.at_ {R M : List Nd} {A5 : Option Addr} {c5 : Nat} (h : RfS w n l R A c i M A5 c5 W) (hR : R.length = l.length) {y : Nd} (hy : R[i]? = some y) : ∃ g, A = some ⟨g, 0, none⟩ ∧ W.cell? ⟨g, i * 7, none⟩ = some (.int .u64 y.id) ∧ W.cell? ⟨g, i * 7 + 1, none⟩ = some (.int .i64 y.t.x.tag) ∧ W.cell? ⟨g, i * 7 + 2, none⟩ = some (.slice y.t.a y.t.x.vec.length y.t.c) ∧ W.cell? ⟨g, i * 7 + 3, none⟩ = some (.string y.t.x.str) ∧ W.cell? ⟨g, i * 7 + 4, none⟩ = some (.bool y.gone) := by
  obtain ⟨h1, h2, -⟩ := h
  obtain ⟨hi, hyi⟩ := List.getElem?_eq_some_iff.1 hy
  obtain ⟨g, c', e, h3, h4, h5⟩ := own_form h2 (by omega)
  injection e with e1 e2 e3
  subst e1
  subst e3
  have hc := fun j hj => own_cellK h2 bkE_len (by omega) i j hi hj
  rw [hyi] at hc
  exact ⟨g, rfl, hc 0 (by omega), hc 1 (by omega), hc 2 (by omega), hc 3 (by omega), hc 4 (by omega)⟩
set_option maxHeartbeats 6400000 in
theorem rbcut_any (n id : Int) (hs : Sl w w.heap.size A (l.flatMap bkE)) (hv : ∀ d ∈ l, Sl w w.heap.size d.t.a (iv d.t.x.vec)) (hsm : ∀ d ∈ l, Small d.t.x) (hl : l.length ≤ 1048576) :
    Calls Try.prog 13 #[.int .i64 n, .slice A l.length c, .int .u64 id] w (RCutP w n l id) := by
  have h1c : ∀ u ∈ l.flatMap bkE, u.oneCell' = true := by
    intro u hu
    simp only [List.mem_flatMap, bkE, List.mem_cons, List.not_mem_nil, or_false] at hu
    obtain ⟨a, -, rfl | rfl | rfl | rfl | rfl | rfl | rfl⟩ := hu <;> rfl
  have hlen : (l.flatMap bkE).length = l.length * 7 := flat_length bkE_len l
  have HST : Hid (∀ w4 A4 c4, w.grownBy w4 (Value.slice none 0 0).ownBlock → w4.ownsRow w.heap.size 67 7 (.slice A4 l.length c4) l.length (l.flatMap bkE) → RcS w l id A4 c4 0 w4) := Lib.hid fun w4 A4 c4 hg hr => by
    have hO : Only (fun _ => False) w w4 := Only.of_grown hg fun j e => by cases e
    exact ⟨(Below.refl _ _).trans (hO.below (Nat.le_refl _) fun q e => e.elim), by rw [mkd_zero]; exact hr⟩
  have HH := Lib.hid (And.intro hv hsm)
  have HSV := Lib.hid hs
  have HLEN := Lib.hid hlen
  have H1C := Lib.hid h1c
  have hl63 : (l.length : Int) < 9223372036854775807 := by omega
  clear hs hv hsm h1c hlen
  go_enter Try.func13, Try.ntmps13
  go_wp2_with (at_builtin
               refine wpList_append_slk _ rfl (.const (.slice none 0 0)) (.tmp 12) _ rfl w.heap.size 67 7 80 Try.underlying31 bkK (by omega) (.slice none 0 0) 0 [] rfl (World.ownsRow_nil _ _ _ _) _ A l.length c (l.flatMap bkE) rfl HSV.out HLEN.out H1C.out (by omega) (by unfold maxLen; omega) (Nat.le_refl _) ?_
               intro v4 w4 hown4 hg4 hat4
               rw [Nat.zero_add, List.nil_append] at hown4
               obtain ⟨A4, c4, rfl, -⟩ := own_slice hown4
               have hst := HST.out w4 A4 c4 hg4 hown4
               have HS4 := Lib.hid hst
               clear hown4 hg4 hat4 hst HST)
  go_loopg [8, 9] l.length (fun gk s8 s9 wr => ∃ k m : Nat, gk = l.length - k ∧ k ≤ l.length ∧ s8 = .int .i64 m ∧ s9 = .int .i64 k ∧ m ≤ k ∧ Hid (m = gn ((l.take k).map (mkN id))) ∧ RcS w l id A4 c4 k wr)
  case atStart => exact ⟨0, 0, rfl, Nat.zero_le _, rfl, rfl, Nat.le_refl _, Lib.hid (by simp [gn]), HS4.out⟩
  case round =>
    clear HS4 HSV HLEN H1C
    obtain ⟨k, m, rfl, hk, rfl, rfl, hmk, HM, hst⟩ := hrel
    by_cases hlt : k < l.length
    · have k1 : (k : Int) < (l.length : Int) := by omega
      obtain ⟨g, rfl, c0, c4, hfz, hgw⟩ := hst.at_ hlt
      have f4 := hfz (k * 7 + 4)
      have hgx := gn_next (id := id) hlt
      rw [← HM.out] at hgx
      by_cases e : l[k].id = id
      · have b1 : (l[k].id == id) = true := by simp [e]
        obtain ⟨hst2, c5⟩ := hst.yes hlt e hgw
        rw [mkN_yes e] at hgx
        have HGX : Hid (m + 1 = gn ((l.take (k + 1)).map (mkN id))) := Lib.hid (by rw [hgx]; rfl)
        have HST2 := Lib.hid hst2
        clear hst hst2 hgx hfz e HM
        generalize l[k].id = q0 at c0 b1
        generalize l[k].gone = q1 at c4
        go_wp2_with (fail)
        go_roundg (l.length - (k + 1))
        case measure => omega
        case rel => exact ⟨k + 1, m + 1, rfl, by omega, by go_num, by go_num, by omega, HGX, HST2.out⟩
      · have b1 : (l[k].id == id) = false := by simpa using e
        have hst2 := hst.no hlt e
        rw [mkN_no e] at hgx
        have HST2 := Lib.hid hst2
        cases hgo : l[k].gone with
        | true =>
          rw [hgo] at hgx c4
          have HGX : Hid (m + 1 = gn ((l.take (k + 1)).map (mkN id))) := Lib.hid (by rw [hgx]; rfl)
          clear hst hst2 hgx hfz e HM hgo
          generalize l[k].id = q0 at c0 b1
          go_wp2_with (fail)
          go_roundg (l.length - (k + 1))
          case measure => omega
          case rel => exact ⟨k + 1, m + 1, rfl, by omega, by go_num, by go_num, by omega, HGX, HST2.out⟩
        | false =>
          rw [hgo] at hgx c4
          have HGX : Hid (m = gn ((l.take (k + 1)).map (mkN id))) := Lib.hid (by rw [hgx]; rfl)
          clear hst hst2 hgx hfz e HM hgo
          generalize l[k].id = q0 at c0 b1
          go_wp2_with (fail)
          go_roundg (l.length - (k + 1))
          case measure => omega
          case rel => exact ⟨k + 1, m, rfl, by omega, by go_num, by go_num, by omega, HGX, HST2.out⟩
    · obtain rfl : k = l.length := by omega
      have k1 : ¬ (l.length : Int) < (l.length : Int) := by omega
      have hm := HM.out
      rw [List.take_length] at hm
      obtain ⟨hb0, how⟩ := hst
      rw [mkd_all] at how
      have hgc := gn_cnt (l.map (mkN id))
      rw [List.length_map, ← hm] at hgc
      have hw : IntKind.i64.wrap ((m : Int) + (m : Int)) = ((m + m : Nat) : Int) := by rw [IntWalk.i64_in _ (by omega)]; omega
      obtain ⟨c2, hc2⟩ : ∃ c2, c2 = m + m := ⟨_, rfl⟩
      rw [← hc2] at hw
      obtain ⟨R, hR⟩ : ∃ R, R = l.map (mkN id) := ⟨_, rfl⟩
      rw [← hR] at hgc how
      have hRl : R.length = l.length := by rw [hR, List.length_map]
      by_cases hle : c2 ≤ l.length
      · have b2 : decide ((c2 : Int) ≤ (l.length : Int)) = true := decide_eq_true (by omega)
        have HE : Hid (RCutP w n l id (.returned (.slice A4 l.length c4)) wr) := Lib.hid ⟨A4, c4, R, by rw [hRl], by rw [hRl]; exact how, hb0, by
          unfold rest
          rw [← hR, if_neg (by rw [List.length_map]; omega)], fun y hy => by
          rw [hR] at hy
          obtain ⟨d, hd, rfl⟩ := List.mem_map.1 hy
          exact ⟨d, hd, mkN_t _ _⟩⟩
        clear hm hgc how hb0 HM hc2 hR hRl
        go_wp2_with (fail)
        go_ret
        exact HE.out
      · have b2 : decide ((c2 : Int) ≤ (l.length : Int)) = false := decide_eq_false (by omega)
        have HEND : Hid (∀ M A5 c5 W, RfS w n l R A4 c4 l.length M A5 c5 W → RCutP w n l id (.returned (.slice A5 M.length c5)) W) := Lib.hid fun M A5 c5 W ⟨h1, h2, h3, h4, h5⟩ => ⟨A5, c5, M, rfl, h3, h1, by
          unfold rest
          rw [← hR, if_pos (by rw [List.length_map]; omega), h4, ← hRl, List.take_length], h5⟩
        have hst0 : RfS w n l R A4 c4 0 [] none 0 wr := ⟨hb0, how, World.ownsRow_nil _ _ _ _, by simp [lvs, puts], fun m hm => by simp at hm⟩
        have HS0 := Lib.hid hst0
        have HRL := Lib.hid (And.intro hR hRl)
        clear hm hgc how hb0 HM hc2 hR hRl hst0
        go_wp2_with (fail)
        go_loopg [10, 11] l.length (fun gk s10 s11 wr => ∃ (i : Nat) (M : List Nd) (A5 : Option Addr) (c5 : Nat), gk = l.length - i ∧ i ≤ l.length ∧ s10 = .slice A5 M.length c5 ∧ s11 = .int .i64 i ∧ RfS w n l R A4 c4 i M A5 c5 wr)
        case atStart => exact ⟨0, [], none, 0, rfl, Nat.zero_le _, rfl, rfl, HS0.out⟩
        case round =>
          clear HS0
          obtain ⟨i, M, A5, c5, rfl, hi, rfl, rfl, hst⟩ := hrel
          by_cases hlt : i < l.length
          · have i1 : (i : Int) < (l.length : Int) := by omega
            obtain ⟨y, hy⟩ : ∃ y, R[i]? = some y := ⟨_, List.getElem?_eq_getElem (by rw [HRL.out.2]; exact hlt)⟩
            obtain ⟨g, rfl, c0, c1, c2', c3, c4'⟩ := hst.at_ HRL.out.2 hy
            cases hgo : y.gone with
            | true =>
              rw [hgo] at c4'
              have HX := Lib.hid (hst.skip hy hgo)
              clear hst hy hgo c0 c1 c2' c3
              go_wp2_with (fail)
              go_roundg (l.length - (i + 1))
              case measure => omega
              case rel => exact ⟨i + 1, M, A5, c5, rfl, by omega, rfl, by go_num, HX.out⟩
            | false =>
              rw [hgo] at c4'
              have HX := Lib.hid (hst.put HRL.out.1 hy hgo HH.out.1 HH.out.2 (by omega))
              clear hst hy hgo
              generalize y.id = q0 at c0 HX
              generalize y.t.x.tag = q1 at c1 HX
              generalize y.t.a = q2 at c2' HX
              generalize y.t.x.vec.length = q3 at c2' HX
              generalize y.t.c = q4 at c2' HX
              generalize y.t.x.str = q5 at c3 HX
              go_wp2_with (first | (go_at_call 10; (with_reducible refine HX.out.mono ?_); rintro e w2 ⟨A6, c6, M', rfl, hx⟩))
              have HX2 := Lib.hid hx
              clear hx HX
              go_wp2_with (fail)
              go_roundg (l.length - (i + 1))
              case measure => omega
              case rel => exact ⟨i + 1, M', A6, c6, rfl, by omega, rfl, by go_num, HX2.out⟩
          · obtain rfl : i = l.length := by omega
            have i1 : ¬ (l.length : Int) < (l.length : Int) := by omega
            have HE := Lib.hid (HEND.out M A5 c5 wr hst)
            clear hst
            go_wp2_with (fail)
            go_ret
            exact HE.out
end
end Go.Proofs.Ytaamlidflfdjkaa.bk
