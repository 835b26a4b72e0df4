/-
  The contract of maybe: which things may be near, by their rows, in order.
-/
import Derived.Test.YtgbjpobgjmkjgaaGreatTbF
import Derived.Test.YtgbjpobgjmkjgaaGreatEnS
import Derived.Test.YtgbjpobgjmkjgaaGreatLaL
namespace Go.Proofs.YtgbjpobgjmkjgaaGreat.tab
open Go.RowKit Go.WideShapes law bytes only flat nums ord obj metric pv lae Go.Maps
open fro (Ent ec ec_len entE)
open ens (Ord)
open told (own_types blk_types)
set_option linter.unusedVariables false

/-- what is looked at: of the first k rows those that aren't too far -/
def cnd (f : Ro → Int) (r : Int) (R : List Ro) : Nat → List Ent
  | 0 => []
  | k + 1 => cnd f r R k ++ (match R[k]? with | some ro => if f ro ≤ r then [(f ro, (k : Int), ro.id)] else [] | none => [])
theorem cnd_yes {f : Ro → Int} {r : Int} {R : List Ro} {k : Nat} (hk : k < R.length) (h : f R[k] ≤ r) : cnd f r R (k + 1) = cnd f r R k ++ [(f R[k], (k : Int), R[k].id)] := by
  show cnd f r R k ++ _ = _
  rw [List.getElem?_eq_getElem hk]
  simp only
  rw [if_pos h]
theorem cnd_no {f : Ro → Int} {r : Int} {R : List Ro} {k : Nat} (hk : k < R.length) (h : ¬ f R[k] ≤ r) : cnd f r R (k + 1) = cnd f r R k := by
  show cnd f r R k ++ _ = _
  rw [List.getElem?_eq_getElem hk]
  simp only
  rw [if_neg h, List.append_nil]
theorem cnd_len (f : Ro → Int) (r : Int) (R : List Ro) (k : Nat) : (cnd f r R k).length ≤ k := by
  induction k with
  | zero => simp [cnd]
  | succ k ih =>
    rcases Nat.lt_or_ge k R.length with h | h
    · by_cases hc : f R[k] ≤ r
      · rw [cnd_yes h hc]; simp; omega
      · rw [cnd_no h hc]; omega
    · show (cnd f r R k ++ _).length ≤ _
      rw [List.getElem?_eq_none h]
      simp
      omega
theorem cnd_mem {f : Ro → Int} {r : Int} {R : List Ro} {k : Nat} {x : Ent} (h : x ∈ cnd f r R k) : ∃ j : Nat, j < k ∧ ∃ hj : j < R.length, x = (f R[j], (j : Int), R[j].id) ∧ f R[j] ≤ r := by
  induction k with
  | zero => simp [cnd] at h
  | succ k ih =>
    rcases Nat.lt_or_ge k R.length with hk | hk
    · by_cases hc : f R[k] ≤ r
      · rw [cnd_yes hk hc] at h
        rcases List.mem_append.1 h with h | h
        · obtain ⟨j, h1, h2⟩ := ih h
          exact ⟨j, by omega, h2⟩
        · simp only [List.mem_singleton] at h
          exact ⟨k, by omega, hk, h, hc⟩
      · rw [cnd_no hk hc] at h
        obtain ⟨j, h1, h2⟩ := ih h
        exact ⟨j, by omega, h2⟩
    · have e : cnd f r R (k + 1) = cnd f r R k := by
        show cnd f r R k ++ _ = _
        rw [List.getElem?_eq_none hk]
        simp
      rw [e] at h
      obtain ⟨j, h1, h2⟩ := ih h
      exact ⟨j, by omega, h2⟩
/-- how near a row's thing may be -/
def nr (n : Int) (P : List At) (q : Thing) (r : Ro) : Int := lw (fs n P r.t.x) (fs n P q)
/-- what maybe leaves -/
def Maybe (w : World) (g : Nat) (n k : Int) (P : List At) (R : List Ro) (q : Thing) (r : Int) (e : Ending) (w' : World) : Prop :=
  ∃ A c es, e = .returned (.slice A es.length c) ∧ Ord (cnd (nr n P q) r R R.length) es ∧ Away w' (· = g) A (es.flatMap ec) ∧ Only (· = g) w w' ∧ Mt w' g n (k + P.length)
section
variable {w w' : World} {base tb g mb : Nat} {n k most : Int} {T S : Nat → Prop} {vP vR : Value} {P : List At} {R : List Ro} {r : Ro}
set_option maxRecDepth 100000 in
set_option maxHeartbeats 3200000 in
theorem maybe_any (h : Tx w base tb g mb n k most T vP vR P R) (x : At) (hx : Small x.x) (hs : Sl w w.heap.size x.a (iv x.x.vec)) (hk : 0 ≤ k ∧ k + (P.length : Int) < 9223372036854775807) (hP : P.length ≤ 1048576) (hR : R.length ≤ 1048576) (rr : Int) :
    Calls Tryz.prog 70 #[.pointer (some ⟨tb, 0, none⟩), .agg #[.int .i64 x.x.tag, .slice x.a x.x.vec.length x.c, .string x.x.str], .int .i64 rr] w (Maybe w g n k P R x.x rr) := by
  obtain ⟨AR, cR, rfl, hcR⟩ := own_slice h.rows
  obtain ⟨V, hV⟩ : ∃ V, V = w.alloc (.cells #[.int .i64 x.x.tag, .slice x.a x.x.vec.length x.c, .string x.x.str] 35) := ⟨_, rfl⟩
  have hbV : Below w.heap.size w V := by rw [hV]; exact (Below.refl _ _).alloc (Nat.le_refl _) _
  have hkx : Blk V w.heap.size 35 #[.int .i64 x.x.tag, .slice x.a x.x.vec.length x.c, .string x.x.str] := by rw [hV]; exact Blk.new w _ _
  have hzV : V.heap.size = w.heap.size + 1 := by rw [hV]; simp
  obtain ⟨q0, q1, q2, -⟩ := cells3 hkx
  have HFA : Hid (Calls Tryz.prog 92 #[.pointer (some ⟨tb, 0, none⟩), .agg #[.int .i64 x.x.tag, .slice x.a x.x.vec.length x.c, .string x.x.str]] V (Fars V g n k P x.x)) :=
    Lib.hid (fars_any (h.below hbV) x hx ((hs.below hbV).more (by omega)) hk hP)
  have HH := Lib.hid (And.intro (h.below hbV) (And.intro hbV (And.intro h.gb h.base_le)))
  have HV := Lib.hid hV
  have hR63 : (R.length : Int) < 9223372036854775807 := by omega
  have HZ := Lib.hid hzV
  clear h hx hs hk hkx hbV hV hcR hzV
  rw [HV.out] at q0 q1 q2
  go_enter Tryz.func70, Tryz.ntmps70
  go_wp2_with (fail)
  rw [← HV.out]
  refine HFA.out.mono ?_
  rintro e w3 ⟨A3, c3, rfl, hrow, hO3, hM3⟩
  have H3 : Hid (Tx w3 base tb g mb n (k + P.length) most T vP (.slice AR R.length cR) P R ∧ Sl w3 w3.heap.size A3 (nv (fs n P x.x)) ∧ Only (· = g) w w3 ∧ Mt w3 g n (k + P.length) ∧ g < w3.heap.size) := Lib.hid
    ⟨HH.out.1.asked hO3 hM3, Sl.of_own hrow, (Only.of_below HH.out.2.1 (Nat.le_refl _) _).trans hO3 fun i e => .inl e, hM3, hM3.lt⟩
  obtain ⟨-, -, -, t3, -⟩ := H3.out.1.cells
  clear hrow hO3 hM3 HFA q0 q1 q2 HV HZ
  go_wp2_with (fail)
  go_loopg [8, 20] R.length (fun gk s8 s20 wr => ∃ (i c1 : Nat) (A1 : Option Addr), gk = R.length - i ∧ i ≤ R.length ∧ s8 = .slice A1 (cnd (nr n P x.x) rr R i).length c1 ∧ s20 = .int .i64 i ∧ wr.ownsRow w3.heap.size 126 3 (.slice A1 (cnd (nr n P x.x) rr R i).length c1) (cnd (nr n P x.x) rr R i).length ((cnd (nr n P x.x) rr R i).flatMap ec) ∧ Below w3.heap.size w3 wr)
  case atStart => exact ⟨0, 0, none, rfl, Nat.zero_le _, rfl, rfl, World.ownsRow_nil _ _ _ _, Below.refl _ _⟩
  case round =>
    obtain ⟨i, c1, A1, rfl, hi, rfl, rfl, hown, hb⟩ := hrel
    have hcl := cnd_len (nr n P x.x) rr R i
    have hsz := hb.size
    by_cases hlt : i < R.length
    · have i1 : (i : Int) < (R.length : Int) := by omega
      have hT := H3.out.1.below hb
      obtain ⟨gR, cR', hv', hg1, hg2, -⟩ := own_form hT.rows (by omega)
      injection hv' with e1 e2 e3
      subst e1 e3
      obtain ⟨ro, hr⟩ : ∃ ro, R[i] = ro := ⟨_, rfl⟩
      have c0 : wr.cell? ⟨gR, i, none⟩ = some (.pointer (some ⟨ro.b, 0, none⟩)) := by
        rw [World.ownsRow.cellAt hT.rows i (by omega)]
        simp [pts, hlt, hr, ptr]
      have hrx := hT.rx ro (by rw [← hr]; exact List.getElem_mem hlt)
      obtain ⟨Av, cv, hv, hcv⟩ := own_slice hrx.ints
      have hints := hrx.ints
      have hblk := hrx.blk
      unfold roC at hblk
      rw [hv] at hints hblk
      have l0 := hblk.cell 0
      have l4 := hblk.cell 4
      simp only [List.getElem?_toArray, List.getElem?_cons_succ, List.getElem?_cons_zero] at l0 l4
      have hyes := cnd_yes (f := nr n P x.x) (r := rr) hlt
      have hno := cnd_no (f := nr n P x.x) (r := rr) hlt
      rw [hr] at hyes hno
      have HLW : Hid (Calls Tryz.prog 33 #[.slice Av P.length cv, .slice A3 P.length c3] wr fun e w' => e = .returned (.int .i64 (nr n P x.x ro)) ∧ Below wr.heap.size wr w') := Lib.hid (by
        have h1 := low_any Av A3 cv c3 _ _ (fs n P ro.t.x) (fs n P x.x) wr (Sl.of_own hints) (H3.out.2.1.below hb) (by rw [fs_length]; omega) (by rw [fs_length]; omega)
        rw [fs_length, fs_length] at h1
        exact h1)
      have hinn : bound.inn (nr n P x.x ro) = nr n P x.x ro := inn_lw _ _
      have HCT : Hid (∀ W, Calls Tryz.prog 79 #[.int .i64 (nr n P x.x ro), .int .i64 rr] W fun e w' => e = .returned (.bool (decide (rr < nr n P x.x ro))) ∧ W = w') := Lib.hid fun W => by
        have h1 := bound.cut_any (nr n P x.x ro) rr W
        rwa [hinn] at h1
      have HY := Lib.hid (And.intro hyes hno)
      have HB := Lib.hid (And.intro hown (And.intro hb (And.intro hblk hsz)))
      clear hT hrx hints hblk hv hcv hyes hno hown hb hinn hr hg1 hg2
      obtain ⟨z, hz⟩ : ∃ z, nr n P x.x ro = z := ⟨_, rfl⟩
      rw [hz] at HLW HCT HY
      clear hz
      generalize cnd (nr n P x.x) rr R i = E at HY HB hcl ⊢
      obtain ⟨E2, hE2⟩ : ∃ E2, cnd (nr n P x.x) rr R (i + 1) = E2 := ⟨_, rfl⟩
      rw [hE2] at HY
      have HE2 := Lib.hid hE2
      clear hE2
      go_wp2_with (fail)
      refine HLW.out.mono ?_
      rintro e w4 ⟨rfl, hb4⟩
      have H4 : Hid (w4.ownsRow w3.heap.size 126 3 (.slice A1 E.length c1) E.length (E.flatMap ec) ∧ Below w3.heap.size w3 w4 ∧ w3.heap.size ≤ w4.heap.size) := Lib.hid (by
        obtain ⟨h1, h2, h3, h4⟩ := HB.out
        exact ⟨own_below h1 hb4 (Nat.le_refl _), h2.trans (hb4.mono h4), by have := hb4.size; omega⟩)
      have m0 : w4.cell? ⟨ro.b, 0, none⟩ = some (.int .u64 ro.id) := (HB.out.2.2.1.below hb4 HB.out.2.2.1.lt).cell 0
      have hE : E.length ≤ 1048576 := by omega
      have HZ4 := Lib.hid H4.out.2.2
      clear HLW hb4 l0 l4 c0 HB
      by_cases hc : z ≤ rr
      · have d0 : decide (rr < z) = false := decide_eq_false (by omega)
        have d1 : ¬ rr < z := by omega
        have HT : Hid (E2 = E ++ [(z, (i : Int), ro.id)]) := Lib.hid (HY.out.1 hc)
        rw [d0] at HCT
        clear hc HY d0 d1
        go_wp2_with (fail)
        refine (HCT.out _).mono ?_
        rintro e w5 ⟨rfl, rfl⟩
        go_wp2_with (at_builtin
                     refine wpList_append_slk _ rfl (.tmp 35) (.tmp 44) _ rfl w3.heap.size 126 3 24 Tryz.underlying123 entE (by omega) (.slice A1 E.length c1) E.length (E.flatMap ec) rfl (World.ownsRow.alloc (w := w4) H4.out.1 _) _ _ 1 1 (ec (z, (i : Int), ro.id)) rfl (Sl.lit w4 _ _) rfl (ens.ec_one _) (by omega) (by unfold maxLen; omega) (by have := HZ4.out; simp; omega) ?_
                     intro v6 w6 hown6 hg6 hat6
                     obtain ⟨A6, c6, rfl, hc6⟩ := own_slice hown6)
        have HN : Hid (w6.ownsRow w3.heap.size 126 3 (.slice A6 E2.length c6) E2.length (E2.flatMap ec) ∧ Below w3.heap.size w3 w6 ∧ E2.length = E.length + 1) := Lib.hid (by
          rw [HT.out]
          refine ⟨by simpa using hown6, below_appendK1 H4.out.2.1 H4.out.2.2 _ H4.out.1 (Nat.le_refl _) hg6, by simp⟩)
        clear hown6 hg6 hat6 H4 HCT
        go_wp2_with (fail)
        go_roundg (R.length - (i + 1))
        case measure => omega
        case rel => exact ⟨i + 1, c6, A6, rfl, by omega, by rw [HE2.out, HN.out.2.2], by go_num, by rw [HE2.out]; exact HN.out.1, HN.out.2.1⟩
      · have d0 : decide (rr < z) = true := decide_eq_true (by omega)
        have d1 : rr < z := by omega
        have HT : Hid (E2 = E) := Lib.hid (HY.out.2 (by omega))
        rw [d0] at HCT
        clear hc HY d0 d1
        go_wp2_with (fail)
        refine (HCT.out _).mono ?_
        rintro e w5 ⟨rfl, rfl⟩
        clear HCT
        go_wp2_with (fail)
        go_roundg (R.length - (i + 1))
        case measure => omega
        case rel => exact ⟨i + 1, c1, A1, rfl, by omega, by rw [HE2.out, HT.out], by go_num, by rw [HE2.out, HT.out]; exact H4.out.1, H4.out.2.1⟩
    · obtain rfl : i = R.length := by omega
      have i1 : ¬ (R.length : Int) < (R.length : Int) := by omega
      have HSF : Hid (Calls Tryz.prog 100 #[.slice A1 (cnd (nr n P x.x) rr R R.length).length c1, .func (.func 101) #[] #[]] wr fun e w' => e = .returned (.tuple #[]) ∧ Maybe w g n k P R x.x rr (.returned (.slice A1 (cnd (nr n P x.x) rr R R.length).length c1)) w') := Lib.hid (by
        refine (ens.sortFunc_any A1 (cnd (nr n P x.x) rr R R.length) c1 w3.heap.size wr (by omega) hown).mono fun e w' ⟨he, es, hord, hsl, hbel⟩ => ⟨he, A1, c1, es, ?_, hord, ?_, ?_, ?_⟩
        · rw [hord.1.length_eq]
        · intro j u hj
          obtain ⟨ad, e, hbk, hcell⟩ := hsl j u hj
          refine ⟨ad, e, hbk, fun e2 => ?_, hcell⟩
          have hpos : 0 < (cnd (nr n P x.x) rr R R.length).length := by
            rw [← hord.1.length_eq]
            rcases Nat.eq_zero_or_pos es.length with h0 | h0
            · rw [List.eq_nil_of_length_eq_zero h0] at hj
              simp at hj
            · exact h0
          obtain ⟨gE, cE, hv, h1, -, -⟩ := own_form hown hpos
          injection hv with hv
          rw [e] at hv
          injection hv with hv
          have := H3.out.2.2.2.2
          rw [hv] at e2
          simp only at e2
          omega
        · exact H3.out.2.2.1.on (hbel _ _ hb (Nat.le_refl _) hsz)
        · exact H3.out.2.2.2.1.below (hbel _ _ hb (Nat.le_refl _) hsz) H3.out.2.2.2.2)
      clear hown hb hcl hsz
      go_wp2_with (fail)
      refine HSF.out.mono ?_
      rintro e w5 ⟨rfl, hm⟩
      have HM := Lib.hid hm
      clear hm HSF
      go_wp2_with (fail)
      go_ret
      exact HM.out
end
end Go.Proofs.YtgbjpobgjmkjgaaGreat.tab
