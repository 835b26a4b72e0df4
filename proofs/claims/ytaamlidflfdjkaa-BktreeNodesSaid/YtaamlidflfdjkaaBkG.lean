/-
  The document's own tree: Right, of the image of a tree.
-/
import Derived.Test.YtaamlidflfdjkaaBkC
import Derived.BigQuiet
namespace Go.Proofs.Ytaamlidflfdjkaa.bk
open Go.RowKit Go.WideShapes law bytes only flat nums ord obj metric tab
open aro (Kept)
open Go.Maps Go.ChangeAt
set_option linter.unusedVariables false
set_option maxRecDepth 100000
section
variable {L : List Bn} {n : Int} {x : Thing} {i j : Nat} {b c : Bn}
theorem Way.root_edge {p e : Int} (h : Way n L x p e) (hp : p < 0) : e = 0 := by
  cases h with
  | root => rfl
  | step i b _ _ => omega
theorem Tree.par_pos (h : Tree n L) (hb : L[i]? = some b) (hi : 0 < i) : 0 ≤ b.par := by
  rcases Int.lt_or_le b.par 0 with hp | hp
  · exfalso
    have hil := (List.getElem?_eq_some_iff.1 hb).1
    have h0 : L[0]? = some (L[0]'(by omega)) := List.getElem?_eq_getElem (by omega)
    obtain ⟨r1, r2⟩ := h.root h0
    obtain ⟨p1, p2⟩ := h.par i b hb
    have he := (h.way i b hb).root_edge hp
    have := h.uniq i 0 b _ hb h0 (by omega) (by rw [he, r2])
    omega
  · exact hp
theorem Way.up {p : Nat} {e : Int} (h : Way n L x (p : Int) e) : ∃ b, L[p]? = some b ∧ e = M n x b.x ∧ Way n L x b.par b.edge := by
  generalize hq : (p : Int) = q at h
  cases h with
  | root => omega
  | step j b hb hw =>
    obtain rfl : p = j := by omega
    exact ⟨b, hb, rfl, hw⟩
end
section
variable {w w' w1 W W' : World} {i k : Nat} {n id : Int} {l l' : List Nd} {A A' : Option Addr} {c c' g : Nat}
set_option maxHeartbeats 6400000 in
theorem rbright_any (hT : Tree n (l.map bn)) (hu : Ul (l.map bn)) (hg : 2 * gn l ≤ l.length) (hs : Sl w w.heap.size A (l.flatMap bkE)) (hv : ∀ d ∈ l, Sl w w.heap.size d.t.a (iv d.t.x.vec)) (hsm : ∀ d ∈ l, Small d.t.x) (hl : l.length ≤ 1048577) :
    Calls Try.prog 21 #[.int .i64 n, .agg (imC (.slice A l.length c))] w fun e w' => e = .returned (.bool true) ∧ Below w.heap.size w w' := by
  unfold imC
  obtain ⟨L, hL⟩ : ∃ L, L = l.map bn := ⟨_, rfl⟩
  rw [← hL] at hT hu
  have hLl : L.length = l.length := by rw [hL, List.length_map]
  have hat : ∀ k (hk : k < l.length), L[k]? = some (bn l[k]) := fun k hk => by rw [hL, List.getElem?_map, List.getElem?_eq_getElem hk]; rfl
  obtain ⟨V, hV⟩ : ∃ V, V = w.alloc (.cells #[.slice A l.length c, .slice none 0 0, .slice none 0 0, .int .i64 0, .slice none 0 0, .slice none 0 0] 58) := ⟨_, rfl⟩
  have hbV : Below w.heap.size w V := by rw [hV]; exact (Below.refl _ _).alloc (Nat.le_refl _) _
  have hkx : Blk V w.heap.size 58 #[.slice A l.length c, .slice none 0 0, .slice none 0 0, .int .i64 0, .slice none 0 0, .slice none 0 0] := by rw [hV]; exact Blk.new w _ _
  obtain ⟨k0, k1, k2, k3, k4, k5⟩ : V.cell? ⟨w.heap.size, 0, none⟩ = some (.slice A l.length c) ∧ V.cell? ⟨w.heap.size, 1, none⟩ = some (.slice none 0 0) ∧ V.cell? ⟨w.heap.size, 2, none⟩ = some (.slice none 0 0) ∧ V.cell? ⟨w.heap.size, 3, none⟩ = some (.int .i64 0) ∧ V.cell? ⟨w.heap.size, 4, none⟩ = some (.slice none 0 0) ∧ V.cell? ⟨w.heap.size, 5, none⟩ = some (.slice none 0 0) := ⟨hkx.cell 0, hkx.cell 1, hkx.cell 2, hkx.cell 3, hkx.cell 4, hkx.cell 5⟩
  have HS := Lib.hid (And.intro hs (And.intro hv hsm))
  have HT := Lib.hid (And.intro hT (And.intro hu (And.intro hLl hat)))
  have HG := Lib.hid hg
  have HV := Lib.hid hV
  have HB := Lib.hid hbV
  have hl63 : (l.length : Int) < 9223372036854775807 := by omega
  clear hs hv hsm hT hu hLl hat hg hL hkx hbV hV
  go_enter Try.func21, Try.ntmps21
  go_upto_region 1 with (fail)
  rw [← HV.out]
  go_wp2_with (fail)
  clear k0 k1 k2 k3 k4 k5
  go_loopg [6, 7] l.length (fun gk s6 s7 wr => ∃ i m : Nat, gk = l.length - i ∧ i ≤ l.length ∧ s6 = .int .i64 m ∧ s7 = .int .i64 i ∧ m ≤ i ∧ Hid (m = gn (l.take i)) ∧ Below w.heap.size w wr)
  case atStart => exact ⟨0, 0, rfl, Nat.zero_le _, rfl, rfl, Nat.le_refl _, Lib.hid (by simp [gn]), HB.out⟩
  case round =>
    clear HB HV
    obtain ⟨i, m, rfl, hi, rfl, rfl, hmi, HM, hb⟩ := hrel
    by_cases hlt : i < l.length
    · have i1 : (i : Int) < (l.length : Int) := by omega
      have hsr := HS.out.1.below hb
      obtain ⟨b, o, rfl, hbl, hc⟩ := bkAt hsr hlt
      obtain ⟨c4, c5, c6⟩ : wr.cell? ⟨b, o + i * 7 + 4, none⟩ = some (.bool l[i].gone) ∧ wr.cell? ⟨b, o + i * 7 + 5, none⟩ = some (.int .i64 l[i].par) ∧ wr.cell? ⟨b, o + i * 7 + 6, none⟩ = some (.int .i64 l[i].edge) := ⟨hc 4 (by omega), hc 5 (by omega), hc 6 (by omega)⟩
      have hgx : gn (l.take (i + 1)) = m + if l[i].gone then 1 else 0 := by
        rw [HM.out]
        unfold gn
        rw [List.take_succ_eq_append_getElem hlt, List.countP_append]
        cases hb : l[i].gone <;> simp [hb]
      have hiL := HT.out.2.2.2 i hlt
      have h00 : ∃ hz : 0 < l.length, (wr.cell? ⟨b, o + 5, none⟩ = some (.int .i64 (-1)) ∧ wr.cell? ⟨b, o + 6, none⟩ = some (.int .i64 0)) := by
        refine ⟨by omega, ?_⟩
        obtain ⟨b', o', e, -, hc'⟩ := bkAt hsr (k := 0) (by omega)
        injection e with e
        injection e with e1 e2
        subst e1
        subst e2
        obtain ⟨r1, r2⟩ := HT.out.1.root (HT.out.2.2.2 0 (by omega))
        have e5 := hc' 5 (by omega)
        have e6 := hc' 6 (by omega)
        rw [Nat.zero_mul, Nat.add_zero] at e5 e6
        have r1' : l[0].par = -1 := r1
        have r2' : l[0].edge = 0 := r2
        refine ⟨e5.trans ?_, e6.trans ?_⟩
        · show some (Value.int IntKind.i64 l[0].par) = _
          rw [r1']
        · show some (Value.int IntKind.i64 l[0].edge) = _
          rw [r2']
      obtain ⟨hz, e5, e6⟩ := h00
      have hpar : 0 < i → 0 ≤ l[i].par ∧ l[i].par < i := fun h0 => ⟨HT.out.1.par_pos hiL h0, (HT.out.1.par i _ hiL).1⟩
      have HSR := Lib.hid (And.intro hsr (And.intro hb hpar))
      have HGX := Lib.hid hgx
      have hmi2 : m ≤ 1048577 := by omega
      clear hsr hb hpar hgx hc hiL
      generalize hgg : l[i].gone = gg at c4 HGX
      have HGG := Lib.hid hgg
      clear hgg
      go_upto_if 49 with (fail)
      go_cut [6] from 39 to 188 (fun s6 wc => ∃ m' : Nat, s6 = .int .i64 m' ∧ m' ≤ i + 1 ∧ Hid (m' = gn (l.take (i + 1))) ∧ wr = wc)
      case first => as_aux_lemma =>
        cases gg with
        | true =>
          go_wp2_with (fail)
          go_meet
          exact ⟨m + 1, by go_num, by omega, Lib.hid (by rw [HGX.out]; rfl), rfl⟩
        | false =>
          go_wp2_with (fail)
          go_meet
          exact ⟨m, rfl, by omega, Lib.hid (by rw [HGX.out]; rfl), rfl⟩
      case rest =>
        obtain ⟨m', rfl, hm', HM', rfl⟩ := hcut
        clear HGX HM hmi hmi2
        go_upto_region 10 with (fail)
        go_cut [88] from 39 to 188 (fun s88 wc => s88 = .bool false ∧ wr = wc)
        case first => as_aux_lemma =>
          rcases Nat.eq_zero_or_pos i with h0 | h0
          · subst h0
            go_wp2_with (fail)
            go_meet
            exact ⟨rfl, rfl⟩
          · obtain ⟨hp1, hp2⟩ := HSR.out.2.2 h0
            have b1 : ((i : Int) == 0) = false := by
              have : (i : Int) ≠ 0 := by omega
              simpa using this
            have b2 : decide ((0 : Int) < (i : Int)) = true := decide_eq_true (by omega)
            generalize l[i].par = q at c5 hp1 hp2
            have b3 : decide (q < 0) = false := decide_eq_false (by omega)
            have b4 : decide ((i : Int) ≤ q) = false := decide_eq_false (by omega)
            go_wp2_with (fail)
            go_meet
            exact ⟨rfl, rfl⟩
        case rest =>
          obtain ⟨rfl, rfl⟩ := hcut
          go_wp2_with (fail)
          go_loopg [8] i (fun gk s8 wc => ∃ k : Nat, gk = i - k ∧ k ≤ i ∧ s8 = .int .i64 k ∧ Below w.heap.size w wc)
          case atStart => exact ⟨0, rfl, Nat.zero_le _, rfl, HSR.out.2.1⟩
          case round =>
            clear c4 c5 c6 e5 e6 HSR
            obtain ⟨k, rfl, hk, rfl, hb2⟩ := hrel
            have hsr := HS.out.1.below hb2
            have HB2 := Lib.hid hb2
            clear hb2
            by_cases hki : k < i
            · have k1 : (k : Int) < (i : Int) := by omega
              have k2 : (k : Int) < (l.length : Int) := by omega
              have k0 : (0 : Int) ≤ (k : Int) := by omega
              have i0 : (0 : Int) ≤ (i : Int) := by omega
              have hkl : k < l.length := by omega
              obtain ⟨b', o', e, -, hci⟩ := bkAt hsr hlt
              injection e with e
              injection e with e1 e2
              subst e1
              subst e2
              obtain ⟨b', o', e, -, hck⟩ := bkAt hsr hkl
              injection e with e
              injection e with e1 e2
              subst e1
              subst e2
              obtain ⟨c0, c4, c5, c6⟩ : wr.cell? ⟨b, o + i * 7, none⟩ = some (.int .u64 l[i].id) ∧ wr.cell? ⟨b, o + i * 7 + 4, none⟩ = some (.bool gg) ∧ wr.cell? ⟨b, o + i * 7 + 5, none⟩ = some (.int .i64 l[i].par) ∧ wr.cell? ⟨b, o + i * 7 + 6, none⟩ = some (.int .i64 l[i].edge) := ⟨hci 0 (by omega), by rw [← HGG.out]; exact hci 4 (by omega), hci 5 (by omega), hci 6 (by omega)⟩
              obtain ⟨d0, d4, d5, d6⟩ : wr.cell? ⟨b, o + k * 7, none⟩ = some (.int .u64 l[k].id) ∧ wr.cell? ⟨b, o + k * 7 + 4, none⟩ = some (.bool l[k].gone) ∧ wr.cell? ⟨b, o + k * 7 + 5, none⟩ = some (.int .i64 l[k].par) ∧ wr.cell? ⟨b, o + k * 7 + 6, none⟩ = some (.int .i64 l[k].edge) := ⟨hck 0 (by omega), hck 4 (by omega), hck 5 (by omega), hck 6 (by omega)⟩
              have hun : l[k].par = l[i].par → l[k].edge ≠ l[i].edge := fun h1 h2 => by
                have := HT.out.1.uniq k i _ _ (HT.out.2.2.2 k hkl) (HT.out.2.2.2 i hlt) h1 h2
                omega
              have hul : l[k].id = l[i].id → l[k].gone = true ∨ (l[k].gone = false ∧ gg = true) := fun h => by
                cases h1 : l[k].gone with
                | true => exact .inl rfl
                | false =>
                  refine .inr ⟨rfl, ?_⟩
                  cases h2 : gg with
                  | true => rfl
                  | false =>
                    have := HT.out.2.1 k i _ _ (HT.out.2.2.2 k hkl) (HT.out.2.2.2 i hlt) h1 (by show l[i].gone = false; rw [HGG.out, h2]) h
                    omega
              clear hci hck hsr
              generalize l[i].id = qi at c0 hul
              generalize l[k].id = qk at d0 hul
              generalize l[i].par = pi at c5 hun
              generalize l[k].par = pk at d5 hun
              generalize l[i].edge = ei at c6 hun
              generalize l[k].edge = ek at d6 hun
              generalize l[k].gone = gk at d4 hul
              go_upto_region 15 with (fail)
              go_cut [152] from 89 to 152 (fun s152 wc => s152 = .bool false ∧ Below w.heap.size w wc)
              case first => as_aux_lemma =>
                clear HS HT HG HGG HM'
                have hA : (decide ((0 : Int) < (k : Int)) = false ∧ decide (0 < k) = false) ∨ (decide ((0 : Int) < (k : Int)) = true ∧ decide (0 < k) = true ∧ (pk == pi) = false) ∨ (decide ((0 : Int) < (k : Int)) = true ∧ decide (0 < k) = true ∧ (pk == pi) = true ∧ (ek == ei) = false) := by
                  by_cases h0 : 0 < k
                  · by_cases h1 : pk = pi
                    · exact .inr (.inr ⟨decide_eq_true (by omega), decide_eq_true h0, by simp [h1], by simpa using hun h1⟩)
                    · exact .inr (.inl ⟨decide_eq_true (by omega), decide_eq_true h0, by simpa using h1⟩)
                  · exact .inl ⟨decide_eq_false (by omega), decide_eq_false h0⟩
                have hB : ((qk == qi) = false) ∨ ((qk == qi) = true ∧ gk = true) ∨ ((qk == qi) = true ∧ gk = false ∧ gg = true) := by
                  by_cases h1 : qk = qi
                  · rcases hul h1 with h2 | ⟨h2, h3⟩
                    · exact .inr (.inl ⟨by simp [h1], h2⟩)
                    · exact .inr (.inr ⟨by simp [h1], h2, h3⟩)
                  · exact .inl (by simpa using h1)
                clear hun hul
                rcases hA with ⟨a0, a1⟩ | ⟨a0, a1, a2⟩ | ⟨a0, a1, a2, a3⟩
                all_goals
                  rcases hB with b1 | ⟨b1, rfl⟩ | ⟨b1, rfl, rfl⟩
                all_goals as_aux_lemma =>
                  go_quiet (fail)
                  go_wp2_with (fail)
                  go_meet
                  case rel => exact ⟨rfl, below_drewN' HB2.out _⟩
              case rest =>
                obtain ⟨rfl, hb3⟩ := hcut
                have HB3 := Lib.hid hb3
                clear hun hul c0 c4 c5 c6 d0 d4 d5 d6 hb3
                go_wp2_with (fail)
                go_roundg (i - (k + 1))
                case measure => omega
                case rel => exact ⟨k + 1, rfl, by omega, by go_num, HB3.out⟩
            · obtain rfl : i = k := by omega
              have k1 : ¬ (i : Int) < (i : Int) := by omega
              go_wp2_with (fail)
              go_loopg [9] i (fun gk s9 wc => ∃ (k : Nat) (hk : k < l.length), gk = k ∧ s9 = .int .i64 k ∧ Hid (Way n L l[i].t.x l[k].par l[k].edge) ∧ Below w.heap.size w wc)
              case atStart => exact ⟨i, hlt, rfl, rfl, Lib.hid (HT.out.1.way i _ (HT.out.2.2.2 i hlt)), HB2.out⟩
              case round => as_aux_lemma =>
                clear hsr HB2
                obtain ⟨k, hk, hgk, rfl, HW, hb2⟩ := hrel
                have hsr := HS.out.1.below hb2
                obtain ⟨b', o', e, hbl2, hci⟩ := bkAt hsr hlt
                injection e with e
                injection e with e1 e2
                subst e1
                subst e2
                obtain ⟨b', o', e, -, hck⟩ := bkAt hsr hk
                injection e with e
                injection e with e1 e2
                subst e1
                subst e2
                obtain ⟨c1, c2, c3⟩ : wr.cell? ⟨b, o + i * 7 + 1, none⟩ = some (.int .i64 l[i].t.x.tag) ∧ wr.cell? ⟨b, o + i * 7 + 2, none⟩ = some (.slice l[i].t.a l[i].t.x.vec.length l[i].t.c) ∧ wr.cell? ⟨b, o + i * 7 + 3, none⟩ = some (.string l[i].t.x.str) := ⟨hci 1 (by omega), hci 2 (by omega), hci 3 (by omega)⟩
                obtain ⟨d5, d6⟩ : wr.cell? ⟨b, o + k * 7 + 5, none⟩ = some (.int .i64 l[k].par) ∧ wr.cell? ⟨b, o + k * 7 + 6, none⟩ = some (.int .i64 l[k].edge) := ⟨hck 5 (by omega), hck 6 (by omega)⟩
                have k2 : (k : Int) < (l.length : Int) := by omega
                have k0 : (0 : Int) ≤ (k : Int) := by omega
                have i0 : (0 : Int) ≤ (i : Int) := by omega
                have hpk := (HT.out.1.par k _ (HT.out.2.2.2 k hk)).1
                have hpk2 : l[k].par < k := hpk
                have hw := HW.out
                clear hpk hci hck HW
                generalize l[k].par = q at d5 hw hpk2
                generalize l[k].edge = ek at d6 hw
                by_cases hp : 0 ≤ q
                · obtain ⟨p, rfl⟩ : ∃ p : Nat, q = (p : Int) := ⟨q.toNat, by omega⟩
                  obtain ⟨b2, hb2L, rfl, hw2⟩ := hw.up
                  have hpl : p < l.length := by
                    have := (List.getElem?_eq_some_iff.1 hb2L).1
                    rw [HT.out.2.2.1] at this
                    exact this
                  have hb2e : bn l[p] = b2 := by
                    rw [HT.out.2.2.2 p hpl] at hb2L
                    injection hb2L
                  subst hb2e
                  have hbx : (bn l[p]).x = l[p].t.x := rfl
                  rw [hbx] at d6
                  have HW2 : Hid (Way n L l[i].t.x l[p].par l[p].edge) := Lib.hid hw2
                  obtain ⟨b', o', e, -, hcp⟩ := bkAt hsr hpl
                  injection e with e
                  injection e with e1 e2
                  subst e1
                  subst e2
                  obtain ⟨f1, f2, f3⟩ : wr.cell? ⟨b, o + p * 7 + 1, none⟩ = some (.int .i64 l[p].t.x.tag) ∧ wr.cell? ⟨b, o + p * 7 + 2, none⟩ = some (.slice l[p].t.a l[p].t.x.vec.length l[p].t.c) ∧ wr.cell? ⟨b, o + p * 7 + 3, none⟩ = some (.string l[p].t.x.str) := ⟨hcp 1 (by omega), hcp 2 (by omega), hcp 3 (by omega)⟩
                  have hvi := HS.out.2.1 l[i] (List.getElem_mem hlt)
                  have hvp := HS.out.2.1 l[p] (List.getElem_mem hpl)
                  have hsi := HS.out.2.2 l[i] (List.getElem_mem hlt)
                  have hsp := HS.out.2.2 l[p] (List.getElem_mem hpl)
                  have HD : Hid (∀ W, Below wr.heap.size wr W → Calls Try.prog 26 #[.int .i64 n, .agg #[.int .i64 l[i].t.x.tag, .slice l[i].t.a l[i].t.x.vec.length l[i].t.c, .string l[i].t.x.str], .agg #[.int .i64 l[p].t.x.tag, .slice l[p].t.a l[p].t.x.vec.length l[p].t.c, .string l[p].t.x.str]] W fun e w' => e = .returned (.int .i64 (M n l[i].t.x l[p].t.x)) ∧ Below wr.heap.size wr w') := Lib.hid fun W hW =>
                    (rdist_any n l[i].t.a l[p].t.a l[i].t.c l[p].t.c l[i].t.x l[p].t.x hsi hsp W (((hvi.below hb2).more hb2.size).on hW) (((hvp.below hb2).more hb2.size).on hW)).mono fun e w' ⟨he, hb5⟩ => ⟨he, hW.trans (hb5.mono hW.size)⟩
                  have p0 : (0 : Int) ≤ (p : Int) := by omega
                  have p1 : (p : Int) < (l.length : Int) := by omega
                  have hpk3 : p < k := by omega
                  generalize M n l[i].t.x l[p].t.x = dv at d6 HD
                  have b1 : (dv != dv) = false := by simp
                  have b3 : (dv == dv) = true := by simp
                  generalize l[i].t.x.tag = q1 at c1 HD
                  generalize l[i].t.a = q2 at c2 HD
                  generalize l[i].t.x.vec.length = q3 at c2 HD
                  generalize l[i].t.c = q4 at c2 HD
                  generalize l[i].t.x.str = q5 at c3 HD
                  generalize l[p].t.x.tag = u1 at f1 HD
                  generalize l[p].t.a = u2 at f2 HD
                  generalize l[p].t.x.vec.length = u3 at f2 HD
                  generalize l[p].t.c = u4' at f2 HD
                  generalize l[p].t.x.str = u5 at f3 HD
                  have hbw : b < wr.heap.size := Nat.lt_of_lt_of_le hbl2 hb2.size
                  have HST : Hid (∀ W, Below wr.heap.size wr W → W.cell? ⟨b, o + i * 7 + 1, none⟩ = some (.int .i64 q1) ∧ W.cell? ⟨b, o + i * 7 + 2, none⟩ = some (.slice q2 q3 q4) ∧ W.cell? ⟨b, o + i * 7 + 3, none⟩ = some (.string q5) ∧ W.cell? ⟨b, o + p * 7 + 1, none⟩ = some (.int .i64 u1) ∧ W.cell? ⟨b, o + p * 7 + 2, none⟩ = some (.slice u2 u3 u4') ∧ W.cell? ⟨b, o + p * 7 + 3, none⟩ = some (.string u5) ∧ W.cell? ⟨b, o + k * 7 + 5, none⟩ = some (.int .i64 (p : Int)) ∧ W.cell? ⟨b, o + k * 7 + 6, none⟩ = some (.int .i64 dv)) := Lib.hid fun W hW =>
                    ⟨(hW.cell (p := ⟨b, _, none⟩) hbw).trans c1, (hW.cell (p := ⟨b, _, none⟩) hbw).trans c2, (hW.cell (p := ⟨b, _, none⟩) hbw).trans c3, (hW.cell (p := ⟨b, _, none⟩) hbw).trans f1, (hW.cell (p := ⟨b, _, none⟩) hbw).trans f2, (hW.cell (p := ⟨b, _, none⟩) hbw).trans f3, (hW.cell (p := ⟨b, _, none⟩) hbw).trans d5, (hW.cell (p := ⟨b, _, none⟩) hbw).trans d6⟩
                  have HB5 := Lib.hid hb2
                  clear hsr hb2 hw hw2 hb2L hbx hcp hvi hvp hsi hsp hp hpk2 c1 c2 c3 f1 f2 f3 d6 HS HG HGG
                  go_upto_region 20 with (fail)
                  clear d5
                  go_region_held3 (fun W => W.cell? ⟨b, o + i * 7 + 1, none⟩ = some (.int .i64 q1) ∧ W.cell? ⟨b, o + i * 7 + 2, none⟩ = some (.slice q2 q3 q4) ∧ W.cell? ⟨b, o + i * 7 + 3, none⟩ = some (.string q5) ∧ W.cell? ⟨b, o + p * 7 + 1, none⟩ = some (.int .i64 u1) ∧ W.cell? ⟨b, o + p * 7 + 2, none⟩ = some (.slice u2 u3 u4') ∧ W.cell? ⟨b, o + p * 7 + 3, none⟩ = some (.string u5) ∧ W.cell? ⟨b, o + k * 7 + 5, none⟩ = some (.int .i64 (p : Int)) ∧ W.cell? ⟨b, o + k * 7 + 6, none⟩ = some (.int .i64 dv))
                    ((refine HST.out _ ?_; (first | (with_reducible assumption) | exact Below.drew (Below.refl _ _) | exact below_drewN (Below.refl _ _) _)))
                    (first
                      | (go_at_call 26; (with_reducible refine (HD.out _ (by first | (with_reducible assumption) | exact Below.drew (Below.refl _ _) | exact below_drewN (Below.refl _ _) _)).mono ?_); rintro e w5 ⟨rfl, hb5⟩))
                  have d5 := (HST.out w5 hb5).2.2.2.2.2.2.1
                  have HB6 := Lib.hid (HB5.out.trans (hb5.mono HB5.out.size))
                  clear hb5 HD HST HB5
                  go_wp2_with (fail)
                  go_roundg p
                  case measure => omega
                  case rel => exact ⟨p, hpl, rfl, rfl, HW2, HB6.out⟩
                · have hpd : decide (0 ≤ q) = false := by simpa using hp
                  have HB6 := Lib.hid hb2
                  clear hsr hb2 hw hp hpk2 c1 c2 c3 d6
                  go_wp2_with (fail)
                  go_roundg (l.length - (i + 1))
                  case measure => omega
                  case rel => exact ⟨i + 1, m', rfl, by omega, rfl, by go_num, by omega, HM', HB6.out⟩
    · obtain rfl : i = l.length := by omega
      have i1 : ¬ (l.length : Int) < (l.length : Int) := by omega
      have hm := HM.out
      rw [List.take_length] at hm
      have hg := HG.out
      rw [← hm] at hg
      have hw : IntKind.i64.wrap (2 * (m : Int)) = ((2 * m : Nat) : Int) := by rw [IntWalk.i64_in _ (by omega)]; omega
      obtain ⟨c2, hc2⟩ : ∃ c2, c2 = 2 * m := ⟨_, rfl⟩
      rw [← hc2] at hw hg
      have b2 : decide ((c2 : Int) ≤ (l.length : Int)) = true := decide_eq_true (by omega)
      have HB := Lib.hid hb
      clear hm hb hc2 HM
      go_wp2_with (fail)
      go_ret
      exact ⟨rfl, HB.out⟩
end
end Go.Proofs.Ytaamlidflfdjkaa.bk
