/-
  For all metrics, numbers, first places, things and rows of places the law PivotsSpread returns true, and changes nothing that there was. No condition.
-/
import Derived.Test.YthbohedkagjohaaPvO
import Derived.Deep.RegionHeld3
import Derived.BigQuiet
namespace Go.Proofs.Ythbohedkagjohaa.pivotsSpread
open Go.RowKit law bytes only flat nums ord obj metric pv
open Go.ChangeShapes Go.WideShapes Go.Deep Go.ChangeAt
set_option linter.unusedVariables false
set_option maxRecDepth 100000

/-- what is wanted is what is told -/
theorem want_is {n : Int} {l : List At} {ch : List Int} (hb : Brief l) (h0 : 0 < (ins l.length ch).length) : gr (lr (dt n l) U50 (ins l.length ch) l) l.length = spr n l ch := by
  have hl0 : 0 < l.length := by have := ins_low (List.getElem_mem h0); omega
  have hne : ins l.length ch ≠ [] := fun e => by rw [e] at h0; simp at h0
  have hlr : lr (dt n l) U50 (ins l.length ch) l = lr (dt n l) U63 (ins l.length ch) l := lr_start hne (fun c _ x hx => Int.le_trans (hb.dt_le n c hx) (by decide)) (fun c _ x hx => Int.le_trans (hb.dt_le n c hx) (by decide))
  rw [hlr]
  unfold spr
  rw [if_neg (by omega), gr_is (fun j => ?_) hl0]
  · unfold mp; rw [lr_length]
  · rcases Nat.lt_or_ge j l.length with h | h
    · rw [lr_at _ _ _ h]
      exact nr_ge (fun c _ => dt_nonneg _ _ _ _) (by decide)
    · rw [List.getD, List.getElem?_eq_none (by rw [lr_length]; exact h)]
      exact Int.le_refl _
/-- the argument's box, a meter asked j times -/
structure St (w W : World) (d : Dat) (g : Nat) (j : Int) : Prop where
  pre : Pre w W d
  mt : Mt W g d.n j
section
variable {w W W' : World} {d : Dat} {g : Nat} {j : Int}
theorem St.on (h : St w W d g j) (o : Below W.heap.size W W') : St w W' d g j := ⟨h.pre.on o, h.mt.below o h.mt.lt⟩
theorem St.drew (h : St w W d g j) : St w W.drew d g j := h.on ((Below.refl _ _).drew)
theorem St.drewN (h : St w W d g j) (n : Nat) : St w (W.drewN n) d g j := h.on (below_drewN' (Below.refl _ _) n)
end
/-- what the law's last row calls -/
structure Law (w : World) (d : Dat) (A' : Option Addr) (c' : Nat) (ch : List Int) (m : Nat) (y j : Int) (g : Nat) : Prop where
  f_mul : IntKind.i64.wrap ((m : Int) * (d.l.length : Int)) = j
  f_rd : ∀ W j, St w W d g j → Rd W w.heap.size d
  f_spread : ∀ W, St w W d g 0 → Calls Try.prog 14 #[.pointer (some ⟨g, 0, none⟩), .slice d.A d.l.length d.c, .slice A' ch.length c'] W fun e w' => e = .returned (.int .i64 y) ∧ St w w' d g j
  f_calls : ∀ W, St w W d g j → Calls Try.prog 12 #[.pointer (some ⟨g, 0, none⟩)] W fun e w' => e = .returned (.int .i64 j) ∧ St w w' d g j
  f_lives : ∀ W, St w W d g j → Calls Try.prog 7 #[] W fun e w' => e = .returned (.bool true) ∧ St w w' d g j
theorem law_of {w : World} {d : Dat} (hy : Hyp w d) (hb : Brief d.l) (hl : d.l.length ≤ 40) {A' : Option Addr} {c' : Nat} {ch : List Int} (hs : Sl w w.heap.size A' (nv ch)) (hc : ch.length ≤ 40) {g : Nat} (hg : w.heap.size < g) :
    Law w d A' c' ch (ins d.l.length ch).length (spr d.n d.l ch) (((ins d.l.length ch).length * d.l.length : Nat) : Int) g := by
  have hil := ins_length d.l.length ch
  have hmul : (ins d.l.length ch).length * d.l.length ≤ 40 * 40 := Nat.mul_le_mul (by omega) hl
  refine ⟨?_, fun W j h => h.pre.rd, fun W h => ?_, fun W h => ?_, fun W h => ?_⟩
  · rw [IntKind.wrap_i64]; push_cast; omega
  · refine (spread_any W g d.n 0 d.A d.c d.l A' c' ch ⟨hy.ts h.pre.low fun i e => by omega, h.mt, hb⟩ ((hs.below h.pre.low).more h.pre.low.size) (by decide) (by omega) (by omega)).mono fun e w' ⟨he, ho, hm⟩ => ⟨he, h.pre.turn hg ho, ?_⟩
    rw [Int.zero_add] at hm
    exact hm
  · exact (calls_any W h.mt).mono fun e w' ⟨he, hw⟩ => ⟨he, hw ▸ h⟩
  · exact (lives_any W).mono fun e w' ⟨he, hb⟩ => ⟨he, h.on hb⟩
set_option maxHeartbeats 6400000 in
theorem walk (d : Dat) (A' : Option Addr) (c' : Nat) (ch : List Int) (w : World) (hy : Hyp w d) (hch : ch.length ≤ maxLen) (hcs : Sl w w.heap.size A' (nv ch)) : Calls Try.prog 4 #[.agg (aC d), .slice A' ch.length c'] w (Gives (.bool true) w) := by
  have hp1 := Pre.start w d
  obtain ⟨W1, hW1⟩ : ∃ W1, W1 = w.alloc (.cells (aC d) 24) := ⟨_, rfl⟩
  rw [← hW1] at hp1
  have hsh := rshort_any (fun i => w.heap.size ≤ i) d.A d.l 40 d.c W1 (hy.ts hp1.low fun i e => e) (by have := hy.len; unfold maxLen at this; omega)
  have HL : Hid (∀ W, Pre w W d → Calls Try.prog 7 #[] W fun e w' => e = .returned (.bool true) ∧ Below w.heap.size w w') := Lib.hid fun W h => (lives_any W).mono fun e w' ⟨he, hb⟩ => ⟨he, h.low.trans (hb.mono h.low.size)⟩
  obtain ⟨s, hs⟩ : ∃ s, shortL 40 d.l = s := ⟨_, rfl⟩
  rw [hs] at hsh
  have hrd := hp1.rd
  unfold Rd at hrd
  obtain ⟨r0, r1, r2, r3⟩ := hrd
  have HSH := Lib.hid hsh
  have HY := Lib.hid hy
  have HS := Lib.hid hs
  have HP1 := Lib.hid hp1
  have HCS := Lib.hid hcs
  have hch63 : ch.length ≤ 9223372036854775807 := by unfold maxLen at hch; omega
  clear hsh hy hs hp1 hcs hch
  unfold aC at *
  go_enter Try.func4, Try.ntmps4
  have hcase : decide ((d.l.length : Int) > 40) = true ∨ (decide ((d.l.length : Int) > 40) = false ∧ decide ((ch.length : Int) > 40) = true) ∨ (decide ((d.l.length : Int) > 40) = false ∧ decide ((ch.length : Int) > 40) = false) := by
    by_cases h : (d.l.length : Int) > 40
    · exact .inl (decide_eq_true h)
    · by_cases h2 : (ch.length : Int) > 40
      · exact .inr (.inl ⟨decide_eq_false h, decide_eq_true h2⟩)
      · exact .inr (.inr ⟨decide_eq_false h, decide_eq_false h2⟩)
  rw [hW1] at r3
  have HW1 := Lib.hid hW1
  clear hW1
  rcases hcase with h40 | ⟨h40, h41⟩ | ⟨h40, h41⟩
  · clear HSH
    go_wp2_with (fail)
    rw [← HW1.out]
    refine (HL.out W1 HP1.out).mono ?_
    rintro e w2 ⟨rfl, hb⟩
    have HE := Lib.hid hb
    clear hb
    go_wp2_with (fail)
    go_ret
    exact ⟨rfl, HE.out⟩
  · clear HSH
    go_wp2_with (fail)
    rw [← HW1.out]
    refine (HL.out W1 HP1.out).mono ?_
    rintro e w2 ⟨rfl, hb⟩
    have HE := Lib.hid hb
    clear hb
    go_wp2_with (fail)
    go_ret
    exact ⟨rfl, HE.out⟩
  · go_wp2_with (fail)
    rw [← HW1.out]
    refine HSH.out.mono ?_
    rintro e w2 ⟨rfl, rfl⟩
    clear HSH HW1 r0 r1 r2 r3
    obtain ⟨r0, r1, r2, r3⟩ : Rd W1 w.heap.size d := HP1.out.rd
    cases s with
    | false =>
      go_wp2_with (fail)
      refine (HL.out W1 HP1.out).mono ?_
      rintro e w2 ⟨rfl, hb⟩
      have HE := Lib.hid hb
      clear hb
      go_wp2_with (fail)
      go_ret
      exact ⟨rfl, HE.out⟩
    | true =>
      have hbr := brief_40 HY.out HS.out
      have hl40 : d.l.length ≤ 40 := by have := of_decide_eq_false h40; omega
      have hc40 : ch.length ≤ 40 := by have := of_decide_eq_false h41; omega
      have HBR := Lib.hid hbr
      clear h40 h41 hbr r0 r1 r2 r3
      go_wp2_with (fail)
      go_loopg [6, 7] ch.length (fun gk s6 s7 wr => ∃ k : Nat, gk = ch.length - k ∧ k ≤ ch.length ∧ s6 = .int .i64 (ins d.l.length (ch.take k)).length ∧ s7 = .int .i64 k ∧ Pre w wr d)
      case atStart => exact ⟨0, rfl, Nat.zero_le _, rfl, rfl, HP1.out⟩
      case round =>
        obtain ⟨k, rfl, hk, rfl, rfl, hpre⟩ := hrel
        by_cases hlt : k < ch.length
        · obtain ⟨ad, rfl, -, hc0⟩ := Sl.num (HCS.out.below hpre.low) hlt
          have i1 : (k : Int) < (ch.length : Int) := by omega
          obtain ⟨r0, r1, r2, r3⟩ := hpre.rd
          have hyes := ins_yes (n := d.l.length) hlt
          have hno := ins_no (n := d.l.length) hlt
          have hkl := ins_length d.l.length (ch.take k)
          rw [List.length_take] at hkl
          obtain ⟨y, hy⟩ : ∃ y, ch[k] = y := ⟨_, rfl⟩
          rw [hy] at hc0 hyes hno
          have HPR := Lib.hid hpre
          rcases isIn_cases d.l.length y with ⟨d0, hin⟩ | ⟨d0, d1, hin⟩ | ⟨d0, d1, hin⟩
          · have HTK := Lib.hid (hno hin)
            clear hyes hno hin hy hpre
            go_wp2_with (fail)
            go_quiet (fail)
            go_wp2_with (fail)
            go_roundg (ch.length - (k + 1))
            case measure => omega
            case rel => exact ⟨k + 1, rfl, by omega, by rw [HTK.out], by go_num, HPR.out.drewN _⟩
          · have HTK := Lib.hid (hno hin)
            clear hyes hno hin hy hpre
            go_wp2_with (fail)
            go_quiet (fail)
            go_wp2_with (fail)
            go_roundg (ch.length - (k + 1))
            case measure => omega
            case rel => exact ⟨k + 1, rfl, by omega, by rw [HTK.out], by go_num, HPR.out.drewN _⟩
          · have HTK := Lib.hid (show ((ins d.l.length (ch.take (k + 1))).length) = (ins d.l.length (ch.take k)).length + 1 by rw [hyes hin, List.length_append]; rfl)
            clear hyes hno hin hy hpre
            go_wp2_with (fail)
            go_quiet (fail)
            go_wp2_with (fail)
            go_roundg (ch.length - (k + 1))
            case measure => omega
            case rel => exact ⟨k + 1, rfl, by omega, by rw [HTK.out]; go_num, by go_num, HPR.out.drewN _⟩
        · obtain rfl : k = ch.length := by omega
          have i1 : ¬ (ch.length : Int) < (ch.length : Int) := by omega
          rw [List.take_length]
          have hmc := ins_length d.l.length ch
          have hwi := fun h0 => want_is (n := d.n) (ch := ch) HBR.out h0
          have hw0 : (ins d.l.length ch).length = 0 → spr d.n d.l ch = 0 := fun h => by unfold spr; rw [if_pos h]
          have HLAW : Hid (∀ g, w.heap.size < g → Law w d A' c' ch (ins d.l.length ch).length (spr d.n d.l ch) (((ins d.l.length ch).length * d.l.length : Nat) : Int) g) := Lib.hid fun g hg => law_of HY.out HBR.out hl40 HCS.out hc40 hg
          have HNR : Hid (∀ (i : Nat) (hi : i < d.l.length) W, Pre w W d → Calls Try.prog 13 #[.int .i64 d.n, .slice d.A d.l.length d.c, .slice A' ch.length c', oW d.l[i]] W fun e w' => e = .returned (.int .i64 ((lr (dt d.n d.l) U50 (ins d.l.length ch) d.l).getD i 0)) ∧ Pre w w' d) := Lib.hid fun i hi W h => by
            rw [lr_at _ _ _ hi]
            have hTW := HY.out.ts (T := fun i => w.heap.size ≤ i) h.low fun i e => e
            exact (near_any W _ d.n d.A d.c d.l A' c' ch d.l[i] hTW ((HCS.out.below h.low).more h.low.size) (hTW.vec _ (List.getElem_mem hi)).sl (fun x hx => HBR.out.small hx) (HBR.out.small (List.getElem_mem hi)) (by omega) (by omega)).mono fun e w' ⟨he, hb⟩ => ⟨he, h.on hb⟩
          generalize spr d.n d.l ch = y at HLAW hwi hw0
          generalize lr (dt d.n d.l) U50 (ins d.l.length ch) d.l = r at HNR hwi
          generalize (ins d.l.length ch).length = m at HLAW hwi hw0 hmc ⊢
          obtain ⟨j, hj⟩ : ∃ j : Int, ((m * d.l.length : Nat) : Int) = j := ⟨_, rfl⟩
          rw [hj] at HLAW
          have HJ := Lib.hid hj
          have HWI := Lib.hid hwi
          have HW0 := Lib.hid hw0
          have HPR := Lib.hid hpre
          obtain ⟨w0, hw⟩ : ∃ w0, w0 = wr := ⟨_, rfl⟩
          subst hw
          clear hwi hw0 hpre hj HP1 HS hc40 hk
          go_wp2_with (fail)
          go_loopg [5, 8] d.l.length (fun gk s5 s8 wr => ∃ k : Nat, gk = d.l.length - k ∧ k ≤ d.l.length ∧ (m = 0 → k = 0) ∧ s5 = .int .i64 (gr r k) ∧ s8 = .int .i64 k ∧ Pre w wr d)
          case atStart => exact ⟨0, rfl, Nat.zero_le _, fun _ => rfl, rfl, rfl, HPR.out⟩
          case round =>
            clear HPR
            obtain ⟨k, rfl, hk, hk0, rfl, rfl, hpre⟩ := hrel
            by_cases hlt : k < d.l.length ∧ 0 < m
            · obtain ⟨hkl, hm0⟩ := hlt
              have i1 : (k : Int) < (d.l.length : Int) := by omega
              have d1 : decide ((m : Int) > 0) = true := decide_eq_true (by omega)
              have hTW := HY.out.ts (T := fun i => w.heap.size ≤ i) hpre.low fun i e => e
              obtain ⟨bb, oo, hA, hbb, -, hcells⟩ := hTW.place (by omega)
              obtain ⟨q0, q1, q2⟩ := hcells k hkl
              obtain ⟨r0, r1, r2, r3⟩ := hpre.rd
              have hN := HNR.out k hkl
              obtain ⟨x, hx⟩ : ∃ x, d.l[k] = x := ⟨_, rfl⟩
              rw [hx] at q0 q1 q2 hN
              unfold oW at hN
              rw [hA] at hN r3
              have HG : Hid (gr r (k + 1) = max (gr r k) (r.getD k 0)) := Lib.hid rfl
              generalize gr r k = a at HG ⊢
              generalize r.getD k 0 = b at HG hN
              have HN : Hid (∀ W, Below wr.heap.size wr W → Calls Try.prog 13 #[.int .i64 d.n, .slice (some ⟨bb, oo, none⟩) d.l.length d.c, .slice A' ch.length c', .agg #[.int .i64 x.x.tag, .slice x.a x.x.vec.length x.c, .string x.x.str]] W fun e w' => e = .returned (.int .i64 b) ∧ Pre w w' d) := Lib.hid fun W hW => hN W (hpre.on hW)
              clear hN hx hTW hcells hpre hk0 hA HNR HL HLAW
              go_wp2_with (fail)
              go_region_law (first | (go_simp; go_at_call 13; (with_reducible refine (HN.out _ (by repeat' (first | (with_reducible exact Below.refl _ _) | (with_reducible assumption) | (with_reducible refine Below.drew ?_) | (with_reducible refine below_drewN' ?_ _)))).mono ?_); rintro e w2 ⟨rfl, xE⟩))
              all_goals
                have XE := Lib.hid xE
                clear xE
                go_wp2_with (fail)
                go_roundg (d.l.length - (k + 1))
                case measure => omega
                case rel => exact ⟨k + 1, rfl, by omega, fun h => by omega, by rw [HG.out], by go_num, XE.out⟩
            · have hcase : (¬ (k : Int) < (d.l.length : Int) ∧ True) ∨ ((k : Int) < (d.l.length : Int) ∧ ¬ 0 < m) := by
                by_cases h : k < d.l.length
                · exact .inr ⟨by omega, fun h2 => hlt ⟨h, h2⟩⟩
                · exact .inl ⟨by omega, trivial⟩
              have hgr : gr r k = y := by
                rcases Nat.eq_zero_or_pos m with h | h
                · rw [hk0 h, HW0.out h]; rfl
                · have : k = d.l.length := by have : ¬ k < d.l.length := fun h2 => hlt ⟨h2, h⟩; omega
                  rw [this]; exact HWI.out h
              rw [hgr]
              have HN : Hid (Calls Try.prog 8 #[.int .i64 d.n] wr fun e w2 => ∃ g, e = .returned (.pointer (some ⟨g, 0, none⟩)) ∧ St w w2 d g 0 ∧ w.heap.size < g) :=
                Lib.hid ((new_any d.n wr).mono fun e w2 ⟨he, hm, hb⟩ => ⟨wr.heap.size, he, ⟨hpre.on hb, hm⟩, hpre.size⟩)
              obtain ⟨r0, r1, r2, r3⟩ := hpre.rd
              clear hgr hpre hk0 hlt hmc
              have e1 : (j == j) = true := by simp
              clear HJ
              rcases hcase with ⟨d0, -⟩ | ⟨d0, d1⟩
              all_goals
                go_wp2_with (fail)
                refine HN.out.mono ?_
                rintro e w2 ⟨g, rfl, hq, hg⟩
                have H := Lib.hid (HLAW.out g hg)
                have m1 := H.out.f_mul
                have hrd := H.out.f_rd w2 0 hq
                unfold Rd at hrd
                clear r0 r1 r2 r3
                obtain ⟨r0, r1, r2, r3⟩ := hrd
                have e2 : (y == y) = true := by simp
                clear HN HLAW HNR HL
                go_wp2_with (fail)
                go_region_held3 (fun W => W.cell? ⟨w.heap.size, 0, none⟩ = some (.int .i64 d.n) ∧ W.cell? ⟨w.heap.size, 1, none⟩ = some (.int .i64 d.p) ∧ W.cell? ⟨w.heap.size, 2, none⟩ = some (.int .i64 d.f) ∧ W.cell? ⟨w.heap.size, 3, none⟩ = some (.slice d.A d.l.length d.c))
                  ((first
                    | (refine H.out.f_rd _ 0 ?_; (repeat' (first | (with_reducible assumption) | (with_reducible refine St.drew ?_) | (with_reducible refine St.drewN ?_ _))); done)
                    | (refine H.out.f_rd _ j ?_; (repeat' (first | (with_reducible assumption) | (with_reducible refine St.drew ?_) | (with_reducible refine St.drewN ?_ _))); done)))
                  (first
                    | (go_at_call 14; (with_reducible refine (H.out.f_spread _ (by (repeat' (first | (with_reducible assumption) | (with_reducible refine St.drew ?_) | (with_reducible refine St.drewN ?_ _))))).mono ?_); rintro e wx ⟨rfl, hq3⟩)
                    | (go_at_call 12; (with_reducible refine (H.out.f_calls _ (by (repeat' (first | (with_reducible assumption) | (with_reducible refine St.drew ?_) | (with_reducible refine St.drewN ?_ _))))).mono ?_); rintro e wx ⟨rfl, hq4⟩)
                    | (go_at_call 7; (with_reducible refine (H.out.f_lives _ (by (repeat' (first | (with_reducible assumption) | (with_reducible refine St.drew ?_) | (with_reducible refine St.drewN ?_ _))))).mono ?_); rintro e wx ⟨rfl, hq5⟩))
                have HE := Lib.hid hq5.pre.low
                clear hq5
                go_wp2_with (fail)
                go_ret
                exact ⟨rfl, HE.out⟩

theorem lifted (os : Os) (started : os.Started) (H : Type) (enc : TypeId × Value → H) :
    ReturnsInHanded {} Try.checked os 4 .any (Rows.pivotsSpreadSpec.pre6 enc Try.prog Try.f4 Rows.pivotsSpreadRow.domain false) (Rows.pivotsSpreadSpec.post enc Try.prog Try.f4 false true false false) := by
  refine lift (C := Try.checked) (by kernel_rfl) started (by kernel_rfl) Try.func4 rfl (by kernel_rfl) (by kernel_rfl) rfl Try.underlying4
    (fun ds hd => by match ds, hd with | [_, _], _ => exact ⟨rfl, rfl, rfl⟩)
    (ChangeSpec.witness6 (enc := enc) (C := Try.checked) false ⟨#[], #[.agg #[.int .i64 0, .int .i64 0, .int .i64 0, .slice none 0 0], .slice none 0 0], []⟩ 8 (by kernel_rfl) (by kernel_rfl) (by kernel_rfl) (by kernel_rfl)) ?_
  intro W base args ds before hval0 hA0 hfz hsz0
  have hval : ∀ (j : Nat) t v, Try.f4.params[j]? = some t → args[j]? = some v → Value.okWide Try.prog W .any base t v := hval0
  have hA : DataW.TrodAll enc Try.prog W 0 (fun _ => true) true Try.f4.params.toList args.toList ds before := hA0
  have hsz : (DataW.weightsEach Try.prog Try.f4.params.toList ds).all (· ≤ reachBytes) = true := hsz0
  rw [Try.params4] at hA hval hsz
  obtain ⟨v0, vs0, d0, ds0, p0, q0, hargs, rfl, rfl, h0, r0⟩ := trodAll_cons hA
  obtain ⟨v1, vs1, d1, ds1, p1, q1, rfl, rfl, rfl, h1, r1⟩ := trodAll_cons r0
  obtain ⟨rfl, rfl, rfl⟩ := trodAll_nil r1
  obtain rfl : args = #[v0, v1] := by cases args; simp_all
  obtain ⟨a, rfl, hy⟩ := open_ask (hval 0 24 v0 rfl rfl) h0
  obtain ⟨A, c, ch, rfl, hm, hs⟩ := pv.open_ints (hval 1 29 v1 rfl rfl) h1
  exact walk a A c ch W hy hm hs

theorem proved : Rows.PivotsSpreadSaid :=
  OpenClaim.holds_of_wide 4 Try.f4 rfl rfl rfl rfl rfl rfl rfl ⟨rfl, rfl, rfl, rfl, rfl⟩ rfl rfl rfl rfl rfl (by kernel_rfl) Try.func4 (by kernel_rfl)
    (of_decide_eq_true (by kernel_rfl)) (by unfold Func.isWrapper; first | (rw [if_pos (by decide +kernel)]; kernel_rfl) | (rw [if_neg (by decide +kernel)]; exact ⟨rfl, rfl⟩))
    (fun os started H enc _ => lifted os started H enc)
#print axioms proved
end Go.Proofs.Ythbohedkagjohaa.pivotsSpread
