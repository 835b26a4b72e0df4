/-
  The document's Forward; what the law asks of its argument (may).
-/
import Derived.Test.YtjahgiplaogmlaaFrO
namespace Go.Proofs.Ytjahgiplaogmlaa.fro
open Go.RowKit law bytes only flat heapM Go.Sort Go.Shelf
set_option linter.unusedVariables false
set_option maxRecDepth 100000

/-- nodes of the row at i lead to later nodes alone -/
def FwdAt (i : Nat) (l : List Ent) : Prop := ∀ x ∈ l, ¬ (0 ≤ x.2.1 ∧ x.2.1 ≤ (i : Int))
def Fwd (rows : List REnt) : Prop := ∀ i (hi : i < rows.length), FwdAt i rows[i].l
theorem FwdAt.more {i k : Nat} {l : List Ent} (h : FwdAt i (l.take k)) (hk : k < l.length) (h1 : ¬ (0 ≤ l[k].2.1 ∧ l[k].2.1 ≤ (i : Int))) : FwdAt i (l.take (k + 1)) := by
  rw [List.take_succ_eq_append_getElem hk]
  intro x hx
  rcases List.mem_append.1 hx with e | e
  · exact h x e
  · rw [List.mem_singleton.1 e]
    exact h1
set_option maxHeartbeats 3200000 in
theorem forward_any (B : Option Addr) (c : Nat) (rows : List REnt) (w : World) (B0 : Nat) (hB : Sl w B0 B (rows.flatMap rc)) (hE : ∀ r ∈ rows, Sl w B0 r.A (r.l.flatMap ec)) (hm : rows.length ≤ maxLen) (hm2 : ∀ r ∈ rows, r.l.length ≤ maxLen) :
    Calls Try.prog 13 #[.slice B rows.length c] w fun e w' => ∃ t, e = .returned (.bool t) ∧ (t = true → Fwd rows) ∧ w = w' := by
  have HR : Hid (∀ i (hi : i < rows.length), ∃ b o, B = some ⟨b, o, none⟩ ∧ w.cell? ⟨b, o + i, none⟩ = some (.slice rows[i].A rows[i].l.length rows[i].c)) := Lib.hid fun i hi => by
    obtain ⟨b, o, e, -, h⟩ := Sl.rowAt hB hi
    exact ⟨b, o, e, h⟩
  have HX : Hid (∀ i (hi : i < rows.length) k (hk : k < rows[i].l.length), ∃ b o, rows[i].A = some ⟨b, o, none⟩ ∧ w.cell? ⟨b, o + k * 3 + 1, none⟩ = some (.int .i64 rows[i].l[k].2.1)) := Lib.hid fun i hi k hk => by
    obtain ⟨b, o, e, -, -, h, -⟩ := Sl.ent (hE _ (List.getElem_mem hi)) hk
    exact ⟨b, o, e, h⟩
  have HM : Hid (rows.length ≤ 9223372036854775807 ∧ ∀ i (hi : i < rows.length), rows[i].l.length ≤ 9223372036854775807) := Lib.hid ⟨by unfold maxLen at hm; omega, fun i hi => by have := hm2 _ (List.getElem_mem hi); unfold maxLen at this; omega⟩
  clear hB hE hm hm2
  go_enter Try.func13, Try.ntmps13
  go_wp2_with (fail)
  go_loopg [3] rows.length (fun gk s3 wr => ∃ i : Nat, gk = rows.length - i ∧ s3 = .int .i64 i ∧ i ≤ rows.length ∧ (∀ j (hj : j < rows.length), j < i → FwdAt j rows[j].l) ∧ w = wr)
  case atStart => exact ⟨0, rfl, rfl, Nat.zero_le _, fun j hj h => by omega, rfl⟩
  case round =>
    obtain ⟨i, rfl, rfl, hi, hf, rfl⟩ := hrel
    have hm := HM.out.1
    rcases Nat.lt_or_ge i rows.length with hlt | hge
    · obtain ⟨b, o, rfl, c0⟩ := HR.out i hlt
      have HX2 := Lib.hid (HX.out i hlt)
      have HF := Lib.hid hf
      have HM2 := Lib.hid (HM.out.2 i hlt)
      have i1 : (i : Int) < (rows.length : Int) := by omega
      have i2 : IntKind.i64.wrap ((i : Int) + 1) = ((i + 1 : Nat) : Int) := by rw [IntKind.wrap_i64]; omega
      have HE : Hid (FwdAt i rows[i].l → ∀ j (hj : j < rows.length), j < i + 1 → FwdAt j rows[j].l) := Lib.hid fun h j hj hj2 => by
        by_cases e : j = i
        · subst e; exact h
        · exact HF.out j hj (by omega)
      clear HR HX HM hf HF
      generalize rows[i] = r at *
      obtain ⟨A, c2, l⟩ := r
      dsimp only at c0 HX2 HM2 HE
      go_wp2_with (fail)
      go_loopg [4] l.length (fun gk s4 wr => ∃ k : Nat, gk = l.length - k ∧ s4 = .int .i64 k ∧ k ≤ l.length ∧ FwdAt i (l.take k) ∧ w = wr)
      case atStart => exact ⟨0, rfl, rfl, Nat.zero_le _, fun x hx => by simp at hx, rfl⟩
      case round =>
        obtain ⟨k, rfl, rfl, hk, hf, rfl⟩ := hrel
        have hm3 := HM2.out
        rcases Nat.lt_or_ge k l.length with hlt2 | hge2
        · obtain ⟨b2, o2, rfl, c1⟩ := HX2.out k hlt2
          have j1 : (k : Int) < (l.length : Int) := by omega
          have j2 : IntKind.i64.wrap ((k : Int) + 1) = ((k + 1 : Nat) : Int) := by rw [IntKind.wrap_i64]; omega
          have HF2 : Hid (¬ (0 ≤ l[k].2.1 ∧ l[k].2.1 ≤ (i : Int)) → FwdAt i (l.take (k + 1))) := Lib.hid fun h => hf.more hlt2 h
          clear hf HE HX2
          generalize l[k].2.1 = n at c1 HF2
          by_cases h1 : 0 ≤ n
          · have d1 : decide (0 ≤ n) = true := decide_eq_true h1
            by_cases h2 : n ≤ (i : Int)
            · have d2 : decide (n ≤ (i : Int)) = true := decide_eq_true h2
              clear HF2
              go_wp2_with (fail)
              go_ret
              exact ⟨false, rfl, (fun e => by cases e), rfl⟩
            · have d2 : decide (n ≤ (i : Int)) = false := decide_eq_false h2
              have HF3 := Lib.hid (HF2.out fun e => h2 e.2)
              clear HF2
              go_wp2_with (fail)
              go_roundg (l.length - (k + 1))
              case measure => omega
              case rel => exact ⟨k + 1, rfl, rfl, by omega, HF3.out, rfl⟩
          · have d1 : decide (0 ≤ n) = false := decide_eq_false h1
            have HF3 := Lib.hid (HF2.out fun e => h1 e.1)
            clear HF2
            go_wp2_with (fail)
            go_roundg (l.length - (k + 1))
            case measure => omega
            case rel => exact ⟨k + 1, rfl, rfl, by omega, HF3.out, rfl⟩
        · obtain rfl : k = l.length := by omega
          rw [List.take_length] at hf
          have HF2 := Lib.hid (HE.out hf)
          clear hf HE HX2
          go_wp2_with (fail)
          go_roundg (rows.length - (i + 1))
          case measure => omega
          case rel => exact ⟨i + 1, rfl, rfl, by omega, HF2.out, rfl⟩
    · obtain rfl : i = rows.length := by omega
      have HF : Hid (Fwd rows) := Lib.hid fun j hj => hf j hj hj
      clear hf HR HX HM
      go_wp2_with (fail)
      go_ret
      exact ⟨true, rfl, fun _ => HF.out, rfl⟩
theorem rowE : ElemK Try.prog 22 1 24 := elemK_mk (z := .slice none 0 0) (by kernel_rfl) rfl
theorem rc_one (l : List REnt) : ∀ u ∈ l.flatMap rc, u.oneCell' = true := fun u hu => by
  obtain ⟨r, -, h⟩ := List.mem_flatMap.1 hu
  simp only [rc, List.mem_singleton] at h
  subst h
  rfl
/-- what may is asked for -/
def Mays (d : Dat) : Prop := d.rows.length ≤ 8 ∧ d.f.l.length ≤ 4 ∧ Fwd d.rows ∧ ∀ r ∈ d.rows, r.l.length ≤ 4
set_option maxHeartbeats 3200000 in
theorem may_any (d : Dat) (w : World) (h : Hyp w d) :
    Calls Try.prog 5 #[.agg (aC d)] w fun e w' => ∃ t, e = .returned (.bool t) ∧ (t = true → Mays d) ∧ Below w.heap.size w w' := by
  obtain ⟨f, B, c, rows⟩ := d
  obtain ⟨h1, hcap, hm1, hm2, hm3⟩ := h
  dsimp only at hcap hm1 hm2 hm3
  have h1f := h1.first
  have h1r := h1.rows
  have h1e := h1.each
  dsimp only at h1f h1r h1e
  unfold aC
  dsimp only
  unfold maxLen at hm1 hm2 hm3
  have hb : Below w.heap.size w (w.alloc (.cells #[.slice f.A f.l.length f.c, .slice B rows.length c] 25)) := (Below.refl _ _).alloc (Nat.le_refl _) _
  have HB := Lib.hid hb
  by_cases g1 : 8 < rows.length
  · have d1 : decide ((8 : Int) < (rows.length : Int)) = true := decide_eq_true (by omega)
    have d2 : decide (8 < rows.length) = true := decide_eq_true g1
    clear h1f h1r h1e h1 hb
    go_enter Try.func5, Try.ntmps5
    go_wp2_with (fail)
    go_ret
    exact ⟨false, rfl, (fun e => by cases e), HB.out⟩
  have d1 : decide ((8 : Int) < (rows.length : Int)) = false := decide_eq_false (by omega)
  have d2 : decide (8 < rows.length) = false := decide_eq_false g1
  by_cases g2 : 8 < f.l.length
  · have d3 : decide ((8 : Int) < (f.l.length : Int)) = true := decide_eq_true (by omega)
    have d4 : decide (8 < f.l.length) = true := decide_eq_true g2
    clear h1f h1r h1e h1 hb
    go_enter Try.func5, Try.ntmps5
    go_wp2_with (fail)
    go_ret
    exact ⟨false, rfl, (fun e => by cases e), HB.out⟩
  have d3 : decide ((8 : Int) < (f.l.length : Int)) = false := decide_eq_false (by omega)
  have d4 : decide (8 < f.l.length) = false := decide_eq_false g2
  obtain ⟨V, hV⟩ : ∃ V, V = w.alloc (.cells #[.slice f.A f.l.length f.c, .slice B rows.length c] 25) := ⟨_, rfl⟩
  rw [← hV] at hb HB
  have b0 : Blk V w.heap.size 25 #[.slice f.A f.l.length f.c, .slice B rows.length c] := by rw [hV]; exact Blk.new w _ _
  have c0 : V.cell? ⟨w.heap.size, 0, none⟩ = some (.slice f.A f.l.length f.c) := b0.cell 0
  have c1 : V.cell? ⟨w.heap.size, 1, none⟩ = some (.slice B rows.length c) := b0.cell 1
  have c2 : (V.alloc (.cells #[.slice f.A f.l.length f.c] 22)).cell? ⟨w.heap.size, 1, none⟩ = some (.slice B rows.length c) := (b0.alloc _).cell 1
  have HF := Lib.hid (forward_any B c rows V w.heap.size (h1r.below hb) (fun r hr => (h1e r hr).below hb) hm2 hm3)
  have HO : Hid ((V.alloc (.cells #[.slice f.A f.l.length f.c] 22)).ownsRow V.heap.size 22 1 (.slice (some ⟨V.heap.size, 0, none⟩) 1 1) 1 [.slice f.A f.l.length f.c]) := Lib.hid (World.ownsRow_lit V #[.slice f.A f.l.length f.c] 1 (Nat.le_refl _) (by unfold maxLen; omega) rfl)
  have hb2 : Below w.heap.size w (V.alloc (.cells #[.slice f.A f.l.length f.c] 22)) := hb.alloc hb.size _
  have HSR := Lib.hid (h1r.below hb2)
  have HRL : Hid ((rows.flatMap rc).length = rows.length * 1) := Lib.hid (flat_length rc_len rows)
  obtain ⟨rl, hrl⟩ : ∃ rl, rl = f :: rows := ⟨_, rfl⟩
  have HN : Hid (1 + rows.length = rl.length) := Lib.hid (by rw [hrl, List.length_cons]; omega)
  have HFX : Hid ([Value.slice f.A f.l.length f.c] ++ rows.flatMap rc = rl.flatMap rc) := Lib.hid (by rw [hrl]; rfl)
  have HBW : Hid (∀ w4 A4 c4, w4.ownsRow V.heap.size 22 1 (.slice A4 rl.length c4) rl.length (rl.flatMap rc) → (V.alloc (.cells #[.slice f.A f.l.length f.c] 22)).grownBy w4 (some V.heap.size) → Below w.heap.size w w4 ∧
      (∀ i (hi : i < rl.length), ∃ b o, A4 = some ⟨b, o, none⟩ ∧ w4.cell? ⟨b, o + i, none⟩ = some (.slice rl[i].A rl[i].l.length rl[i].c)) ∧
      (∀ i (hi : i < rl.length) k (hk : k < rl[i].l.length), ∃ b o, rl[i].A = some ⟨b, o, none⟩ ∧ w4.cell? ⟨b, o + k * 3, none⟩ = some (.int .i64 rl[i].l[k].1))) := Lib.hid fun w4 A4 c4 ho hg => by
    have hb4 : Below w.heap.size w w4 := below_appendK hb2 hb2.size HO.out hb.size hg
    refine ⟨hb4, fun i hi => ?_, fun i hi k hk => ?_⟩
    · obtain ⟨b, o, e, -, h⟩ := Sl.rowAt (Sl.of_ownK ho) hi
      exact ⟨b, o, e, h⟩
    · have hs : Sl w4 w.heap.size rl[i].A (rl[i].l.flatMap ec) := by
        have hm : rl[i] ∈ f :: rows := by rw [← hrl]; exact List.getElem_mem hi
        rcases List.mem_cons.1 hm with e | e
        · rw [e]; exact h1f.below hb4
        · exact (h1e _ e).below hb4
      obtain ⟨b, o, e, -, h, -, -⟩ := Sl.ent hs hk
      exact ⟨b, o, e, h⟩
  have HL : Hid (rl.length ≤ 9 ∧ ∀ i (hi : i < rl.length), rl[i].l.length ≤ 9223372036854775807) := Lib.hid ⟨by rw [← HN.out]; omega, fun i hi => by
    have hm : rl[i] ∈ f :: rows := by rw [← hrl]; exact List.getElem_mem hi
    rcases List.mem_cons.1 hm with e | e
    · rw [e]; exact hm1
    · exact hm3 _ e⟩
  have HG : Hid (Fwd rows → (∀ i (hi : i < rl.length), rl[i].l.length ≤ 4) → Mays ⟨f, B, c, rows⟩) := Lib.hid fun h2 h3 => by
    have h4 : ∀ r ∈ f :: rows, r.l.length ≤ 4 := fun r hr => by
      rw [← hrl] at hr
      obtain ⟨i, hi, rfl⟩ := List.getElem_of_mem hr
      exact h3 i hi
    exact ⟨by show rows.length ≤ 8; omega, h4 f (List.mem_cons_self ..), h2, fun r hr => h4 r (List.mem_cons_of_mem _ hr)⟩
  have HV := Lib.hid hV
  have hr8 : rows.length ≤ 8 := by omega
  clear h1f h1r h1e h1 hb hb2 hm1 hm2 hm3 hcap b0 hV hrl g1 g2
  go_enter Try.func5, Try.ntmps5
  go_wp2_with (fail)
  rw [← HV.out]
  refine HF.out.mono ?_
  rintro e w1 ⟨t, rfl, ht, rfl⟩
  cases t with
  | false =>
    clear HF HV HBW HG HL HO HSR ht
    go_wp2_with (fail)
    go_ret
    exact ⟨false, rfl, (fun e => by cases e), HB.out⟩
  | true =>
    have HT := Lib.hid (ht rfl)
    clear HF HV ht
    go_wp2_with (at_builtin
                 refine wpList_append_slk _ rfl (.tmp 24) (.tmp 26) _ rfl V.heap.size 22 1 24 Try.underlying23 rowE (by omega) (.slice (some ⟨V.heap.size, 0, none⟩) 1 1) 1 [.slice f.A f.l.length f.c] rfl HO.out _ B rows.length c (rows.flatMap rc) rfl HSR.out HRL.out (rc_one _) (by omega) (by unfold maxLen; omega) (by simp) ?_
                 intro v4 w4 hown4 hg4 hat4
                 rw [HN.out, HFX.out] at hown4
                 obtain ⟨A4, c4, rfl, hc4⟩ := own_slice hown4)
    obtain ⟨hb4, hrow, hx⟩ := HBW.out w4 A4 c4 hown4 hg4
    have HB4 := Lib.hid hb4
    have HR := Lib.hid hrow
    have HX := Lib.hid hx
    clear hown4 hg4 hat4 hb4 hrow hx HBW HO HSR HRL HFX HN c0 c1 c2 HB
    go_loopg [4] rl.length (fun gk s4 wr => ∃ i : Nat, gk = rl.length - i ∧ s4 = .int .i64 i ∧ i ≤ rl.length ∧ (∀ j (hj : j < rl.length), j < i → rl[j].l.length ≤ 4) ∧ w4 = wr)
    case atStart => exact ⟨0, rfl, rfl, Nat.zero_le _, fun j hj h => by omega, rfl⟩
    case round =>
      obtain ⟨i, rfl, rfl, hi, hf, rfl⟩ := hrel
      have hm := HL.out.1
      rcases Nat.lt_or_ge i rl.length with hlt | hge
      · obtain ⟨b, o, rfl, e0⟩ := HR.out i hlt
        have HX2 := Lib.hid (HX.out i hlt)
        have HF := Lib.hid hf
        have HM2 := Lib.hid (HL.out.2 i hlt)
        have i1 : (i : Int) < (rl.length : Int) := by omega
        have i2 : IntKind.i64.wrap ((i : Int) + 1) = ((i + 1 : Nat) : Int) := by rw [IntKind.wrap_i64]; omega
        have HE : Hid (rl[i].l.length ≤ 4 → ∀ j (hj : j < rl.length), j < i + 1 → rl[j].l.length ≤ 4) := Lib.hid fun h j hj hj2 => by
          by_cases e : j = i
          · subst e; exact h
          · exact HF.out j hj (by omega)
        clear HR HX HL hf HF HG HT
        generalize rl[i] = r at *
        obtain ⟨A, c2, l⟩ := r
        dsimp only at e0 HX2 HM2 HE
        by_cases h4 : 4 < l.length
        · have d5 : decide ((4 : Int) < (l.length : Int)) = true := decide_eq_true (by omega)
          have d6 : decide (4 < l.length) = true := decide_eq_true h4
          clear HE HX2
          go_wp2_with (fail)
          go_ret
          exact ⟨false, rfl, (fun e => by cases e), HB4.out⟩
        · have d5 : decide ((4 : Int) < (l.length : Int)) = false := decide_eq_false (by omega)
          have d6 : decide (4 < l.length) = false := decide_eq_false h4
          have HE2 := Lib.hid (HE.out (by omega))
          clear HE
          go_wp2_with (fail)
          go_loopg [5] l.length (fun gk s5 wr => ∃ k : Nat, gk = l.length - k ∧ s5 = .int .i64 k ∧ k ≤ l.length ∧ w4 = wr)
          case atStart => exact ⟨0, rfl, rfl, Nat.zero_le _, rfl⟩
          case round =>
            obtain ⟨k, rfl, rfl, hk, rfl⟩ := hrel
            rcases Nat.lt_or_ge k l.length with hlt2 | hge2
            · obtain ⟨b2, o2, rfl, e1⟩ := HX2.out k hlt2
              have j1 : (k : Int) < (l.length : Int) := by omega
              have j2 : IntKind.i64.wrap ((k : Int) + 1) = ((k + 1 : Nat) : Int) := by rw [IntKind.wrap_i64]; omega
              clear HE2 HX2
              generalize l[k].1 = n at e1
              by_cases h1 : 1125899906842624 < n
              · have d7 : decide (1125899906842624 < n) = true := decide_eq_true h1
                go_wp2_with (fail)
                go_ret
                exact ⟨false, rfl, (fun e => by cases e), HB4.out⟩
              · have d7 : decide (1125899906842624 < n) = false := decide_eq_false h1
                go_wp2_with (fail)
                go_roundg (l.length - (k + 1))
                case measure => omega
                case rel => exact ⟨k + 1, rfl, rfl, by omega, rfl⟩
            · obtain rfl : k = l.length := by omega
              clear HX2
              go_wp2_with (fail)
              go_roundg (rl.length - (i + 1))
              case measure => omega
              case rel => exact ⟨i + 1, rfl, rfl, by omega, HE2.out, rfl⟩
      · obtain rfl : i = rl.length := by omega
        have HF := Lib.hid (HG.out HT.out fun j hj => hf j hj hj)
        clear hf HR HX HL HG HT
        go_wp2_with (fail)
        go_ret
        exact ⟨true, rfl, fun _ => HF.out, HB4.out⟩
end Go.Proofs.Ytjahgiplaogmlaa.fro
