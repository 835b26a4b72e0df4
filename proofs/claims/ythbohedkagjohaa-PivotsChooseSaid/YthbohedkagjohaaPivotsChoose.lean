/-
  For all metrics, numbers, first places and things the law PivotsChoose returns true, and changes nothing that there was. No condition.
-/
import Derived.Test.YthbohedkagjohaaPvO
import Derived.Deep.RegionHeld3
namespace Go.Proofs.Ythbohedkagjohaa.pivotsChoose
open Go.RowKit law bytes only flat nums ord obj metric pv
open Go.ChangeShapes Go.WideShapes Go.Deep Go.ChangeAt
set_option linter.unusedVariables false
set_option maxRecDepth 100000

/-- the argument's box, a meter asked j times, the row of those that are chosen -/
structure St (w W : World) (d : Dat) (g : Nat) (j : Int) (A1 : Option Addr) (cs : List Int) : Prop where
  pre : Pre w W d
  mt : Mt W g d.n j
  row : Sl W W.heap.size A1 (nv cs)
section
variable {w W W' : World} {d : Dat} {g : Nat} {j : Int} {A1 A3 : Option Addr} {cs : List Int}
theorem St.on (h : St w W d g j A1 cs) (o : Below W.heap.size W W') : St w W' d g j A1 cs := ⟨h.pre.on o, h.mt.below o h.mt.lt, h.row.on o⟩
theorem St.drew (h : St w W d g j A1 cs) : St w W.drew d g j A1 cs := h.on ((Below.refl _ _).drew)
theorem St.drewN (h : St w W d g j A1 cs) (n : Nat) : St w (W.drewN n) d g j A1 cs := h.on (below_drewN' (Below.refl _ _) n)
/-- .. and another row that reads alike -/
def St1 (w W : World) (d : Dat) (g : Nat) (j : Int) (A1 A3 : Option Addr) (cs : List Int) : Prop := St w W d g j A1 cs ∧ Sl W W.heap.size A3 (nv cs)
theorem St1.drew (h : St1 w W d g j A1 A3 cs) : St1 w W.drew d g j A1 A3 cs := ⟨h.1.drew, h.2⟩
theorem St1.drewN (h : St1 w W d g j A1 A3 cs) (n : Nat) : St1 w (W.drewN n) d g j A1 A3 cs := ⟨h.1.drewN n, h.2⟩
end
/-- what the law calls, of things that are short -/
structure Law (w : World) (d : Dat) (g : Nat) (A1 : Option Addr) (c1 : Nat) (cs : List Int) (j : Int) : Prop where
  f_mul : IntKind.i64.wrap ((cs.length : Int) * (d.l.length : Int)) = j
  f_rd : ∀ W, St w W d g j A1 cs → Rd W w.heap.size d
  f_choose : ∀ W, St w W d g j A1 cs → Calls Try.prog 11 #[.int .i64 d.n, .slice d.A d.l.length d.c, .int .i64 d.p, .int .i64 d.f] W fun e w' => ∃ A3 c3, e = .returned (.slice A3 cs.length c3) ∧ St1 w w' d g j A1 A3 cs
  f_same : ∀ A3 c3 W, St1 w W d g j A1 A3 cs → Calls Try.prog 10 #[.slice A1 cs.length c1, .slice A3 cs.length c3] W fun e w' => e = .returned (.bool true) ∧ St w w' d g j A1 cs
  f_calls : ∀ W, St w W d g j A1 cs → Calls Try.prog 12 #[.pointer (some ⟨g, 0, none⟩)] W fun e w' => e = .returned (.int .i64 j) ∧ St w w' d g j A1 cs
  f_lives : ∀ W, St w W d g j A1 cs → Calls Try.prog 7 #[] W fun e w' => e = .returned (.bool true) ∧ St w w' d g j A1 cs
theorem law_of {w : World} {d : Dat} (hy : Hyp w d) (hb : Brief d.l) (hl : d.l.length ≤ 40) {cs : List Int} (hc : chs (dt d.n d.l) U63 d.l d.p d.f = cs) (g : Nat) (A1 : Option Addr) (c1 : Nat) : Law w d g A1 c1 cs ((cs.length * d.l.length : Nat) : Int) := by
  have hdt : ∀ c : Int, ∀ x ∈ d.l, dt d.n d.l c x ≤ 281474976710656 := fun c x hx => hb.dt_le d.n c hx
  have hc2 : chs (dt d.n d.l) U50 d.l d.p d.f = cs := by
    rw [← hc]
    exact chs_start (fun c x hx => Int.le_trans (hdt c x hx) (by decide)) (fun c x hx => Int.le_trans (hdt c x hx) (by decide)) (by decide) (by decide) _ _
  have hlen : cs.length ≤ d.l.length := by rw [← hc]; exact (chs_once (S := U63) (dt_self d.n d.l) d.p d.f).len
  have hmul : cs.length * d.l.length ≤ 40 * 40 := Nat.mul_le_mul (by omega) hl
  refine ⟨?_, fun W h => h.pre.rd, fun W h => ?_, fun A3 c3 W h => ?_, fun W h => ?_, fun W h => ?_⟩
  · rw [IntKind.wrap_i64]; push_cast; omega
  · have := rchoose_any W (fun i => w.heap.size ≤ i) d.n d.A d.c d.l d.p d.f (hy.ts h.pre.low fun i e => e) hb (by omega)
    rw [hc2] at this
    exact this.mono fun e w' ⟨A3, c3, he, ho, hb⟩ => ⟨A3, c3, he, h.on hb, Sl.of_own ho⟩
  · exact (ints_same A1 A3 cs c1 c3 _ _ W (by omega) h.1.row h.2).mono fun e w' ⟨he, hb⟩ => ⟨he, h.1.on hb⟩
  · exact (calls_any W h.mt).mono fun e w' ⟨he, hw⟩ => ⟨he, hw ▸ h⟩
  · exact (lives_any W).mono fun e w' ⟨he, hb⟩ => ⟨he, h.on hb⟩
set_option maxHeartbeats 6400000 in
theorem walk (d : Dat) (w : World) (hy : Hyp w d) : Calls Try.prog 3 #[.agg (aC d)] w (Gives (.bool true) w) := by
  have hp1 := Pre.start w d
  obtain ⟨W1, hW1⟩ : ∃ W1, W1 = w.alloc (.cells (aC d) 24) := ⟨_, rfl⟩
  rw [← hW1] at hp1
  have hsh := rshort_any (fun i => w.heap.size ≤ i) d.A d.l 40 d.c W1 (hy.ts hp1.low fun i e => e) (by have := hy.len; unfold maxLen at this; omega)
  have HL : Hid (∀ W, Pre w W d → Calls Try.prog 7 #[] W fun e w' => e = .returned (.bool true) ∧ Below w.heap.size w w') := Lib.hid fun W h => (lives_any W).mono fun e w' ⟨he, hb⟩ => ⟨he, h.low.trans (hb.mono h.low.size)⟩
  obtain ⟨s, hs⟩ : ∃ s, shortL 40 d.l = s := ⟨_, rfl⟩
  rw [hs] at hsh
  have hrd := hp1.rd
  unfold Rd at hrd
  obtain ⟨r0, r1, r2, r3⟩ := hrd
  have HSH := Lib.hid hsh
  have HY := Lib.hid hy
  have HS := Lib.hid hs
  have HP1 := Lib.hid hp1
  clear hsh hy hs hp1
  unfold aC at *
  go_enter Try.func3, Try.ntmps3
  by_cases h40 : (d.l.length : Int) > 40
  · have d0 : decide ((d.l.length : Int) > 40) = true := decide_eq_true h40
    clear HSH h40
    rw [hW1] at r3
    have HW1 := Lib.hid hW1
    clear hW1
    go_wp2_with (fail)
    rw [← HW1.out]
    refine (HL.out W1 HP1.out).mono ?_
    rintro e w2 ⟨rfl, hb⟩
    have HE := Lib.hid hb
    clear hb
    go_wp2_with (fail)
    go_ret
    exact ⟨rfl, HE.out⟩
  · have d0 : decide ((d.l.length : Int) > 40) = false := decide_eq_false h40
    rw [hW1] at r3
    have HW1 := Lib.hid hW1
    clear hW1
    go_wp2_with (fail)
    rw [← HW1.out]
    refine HSH.out.mono ?_
    rintro e w2 ⟨rfl, rfl⟩
    clear HSH HW1 r0 r1 r2 r3
    obtain ⟨r0, r1, r2, r3⟩ : Rd W1 w.heap.size d := HP1.out.rd
    cases s with
    | false =>
      go_wp2_with (fail)
      refine (HL.out W1 HP1.out).mono ?_
      rintro e w2 ⟨rfl, hb⟩
      have HE := Lib.hid hb
      clear hb
      go_wp2_with (fail)
      go_ret
      exact ⟨rfl, HE.out⟩
    | true =>
      have hbr := brief_40 HY.out HS.out
      have hl40 : d.l.length ≤ 40 := by omega
      obtain ⟨cs, hcs⟩ : ∃ cs, chs (dt d.n d.l) U63 d.l d.p d.f = cs := ⟨_, rfl⟩
      have HLAW : Hid (∀ g A1 c1, Law w d g A1 c1 cs ((cs.length * d.l.length : Nat) : Int)) := Lib.hid fun g A1 c1 => law_of HY.out hbr hl40 hcs g A1 c1
      have HN : Hid (Calls Try.prog 8 #[.int .i64 d.n] W1 fun e w2 => ∃ g, e = .returned (.pointer (some ⟨g, 0, none⟩)) ∧ Rd w2 w.heap.size d ∧ Hid (Calls Try.prog 9 #[.pointer (some ⟨g, 0, none⟩), .slice d.A d.l.length d.c, .int .i64 d.p, .int .i64 d.f] w2 fun e w3 => ∃ A1 c1, e = .returned (.slice A1 cs.length c1) ∧ St w w3 d g ((cs.length * d.l.length : Nat) : Int) A1 cs)) :=
        Lib.hid ((new_any d.n W1).mono fun e w2 ⟨he, hm, hb⟩ => ⟨W1.heap.size, he, (HP1.out.on hb).rd, Lib.hid (by
          have hp2 := HP1.out.on hb
          have hgl := HP1.out.size
          refine (choose_any w2 W1.heap.size d.n 0 d.A d.c d.l d.p d.f ⟨HY.out.ts hp2.low fun i e => by omega, hm, hbr⟩ (by decide) (by omega)).mono fun e w3 hq => ?_
          rw [hcs] at hq
          obtain ⟨A1, c1, he, ho, hon, hmt⟩ := hq
          rw [Int.zero_add] at hmt
          exact ⟨A1, c1, he, hp2.turn hgl hon, hmt, Sl.of_own ho⟩)⟩)
      clear hbr hl40 hcs h40
      go_wp2_with (fail)
      refine HN.out.mono ?_
      rintro e w2 ⟨g, rfl, ⟨r0, r1, r2, r3⟩, HCH⟩
      clear HN HL
      go_wp2_with (fail)
      refine HCH.out.mono ?_
      rintro e w3 ⟨A1, c1, rfl, hq⟩
      have H := Lib.hid (HLAW.out g A1 c1)
      clear HCH HLAW r0 r1 r2 r3
      obtain ⟨j, hj⟩ : ∃ j : Int, ((cs.length * d.l.length : Nat) : Int) = j := ⟨_, rfl⟩
      rw [hj] at H hq
      clear hj
      have hrd := H.out.f_rd w3 hq
      unfold Rd at hrd
      obtain ⟨r0, r1, r2, r3⟩ := hrd
      have m1 := H.out.f_mul
      have e1 : (j == j) = true := by simp
      go_wp2_with (fail)
      go_region_held3 (fun W => W.cell? ⟨w.heap.size, 0, none⟩ = some (.int .i64 d.n) ∧ W.cell? ⟨w.heap.size, 1, none⟩ = some (.int .i64 d.p) ∧ W.cell? ⟨w.heap.size, 2, none⟩ = some (.int .i64 d.f) ∧ W.cell? ⟨w.heap.size, 3, none⟩ = some (.slice d.A d.l.length d.c))
        ((refine H.out.f_rd _ ?_; (repeat' (first | (with_reducible assumption) | (with_reducible refine St.drew ?_) | (with_reducible refine St.drewN ?_ _))); done))
        (first
          | (go_at_call 11; (with_reducible refine (H.out.f_choose _ (by (repeat' (first | (with_reducible assumption) | (with_reducible refine St.drew ?_) | (with_reducible refine St.drewN ?_ _))))).mono ?_); rintro e wx ⟨A3, c3, rfl, hq2⟩; have hq1 := hq2.1)
          | (go_at_call 10; (with_reducible refine (H.out.f_same A3 c3 _ (by (repeat' (first | (with_reducible assumption) | (with_reducible refine St1.drew ?_) | (with_reducible refine St1.drewN ?_ _))))).mono ?_); rintro e wx ⟨rfl, hq3⟩)
          | (go_at_call 12; (with_reducible refine (H.out.f_calls _ (by (repeat' (first | (with_reducible assumption) | (with_reducible refine St.drew ?_) | (with_reducible refine St.drewN ?_ _))))).mono ?_); rintro e wx ⟨rfl, hq4⟩)
          | (go_at_call 7; (with_reducible refine (H.out.f_lives _ (by (repeat' (first | (with_reducible assumption) | (with_reducible refine St.drew ?_) | (with_reducible refine St.drewN ?_ _))))).mono ?_); rintro e wx ⟨rfl, hq5⟩))
      have HE := Lib.hid hq5.pre.low
      clear hq5
      go_wp2_with (fail)
      go_ret
      exact ⟨rfl, HE.out⟩

theorem lifted (os : Os) (started : os.Started) (H : Type) (enc : TypeId × Value → H) :
    ReturnsInHanded {} Try.checked os 3 .any (Rows.pivotsChooseSpec.pre6 enc Try.prog Try.f3 Rows.pivotsChooseRow.domain false) (Rows.pivotsChooseSpec.post enc Try.prog Try.f3 false true false false) := by
  refine lift (C := Try.checked) (by kernel_rfl) started (by kernel_rfl) Try.func3 rfl (by kernel_rfl) (by kernel_rfl) rfl Try.underlying4
    (fun ds hd => by match ds, hd with | [_], _ => exact ⟨rfl, rfl, rfl⟩)
    (ChangeSpec.witness6 (enc := enc) (C := Try.checked) false ⟨#[], #[.agg #[.int .i64 0, .int .i64 0, .int .i64 0, .slice none 0 0]], []⟩ 8 (by kernel_rfl) (by kernel_rfl) (by kernel_rfl) (by kernel_rfl)) ?_
  intro W base args ds before hval0 hA0 hfz hsz0
  have hval : ∀ (j : Nat) t v, Try.f3.params[j]? = some t → args[j]? = some v → Value.okWide Try.prog W .any base t v := hval0
  have hA : DataW.TrodAll enc Try.prog W 0 (fun _ => true) true Try.f3.params.toList args.toList ds before := hA0
  have hsz : (DataW.weightsEach Try.prog Try.f3.params.toList ds).all (· ≤ reachBytes) = true := hsz0
  rw [Try.params3] at hA hval hsz
  obtain ⟨v0, vs0, d0, ds0, p0, q0, hargs, rfl, rfl, h0, r0⟩ := trodAll_cons hA
  obtain ⟨rfl, rfl, rfl⟩ := trodAll_nil r0
  obtain rfl : args = #[v0] := by cases args; simp_all
  obtain ⟨a, rfl, hy⟩ := open_ask (hval 0 24 v0 rfl rfl) h0
  exact walk a W hy

theorem proved : Rows.PivotsChooseSaid :=
  OpenClaim.holds_of_wide 3 Try.f3 rfl rfl rfl rfl rfl rfl rfl ⟨rfl, rfl, rfl, rfl, rfl⟩ rfl rfl rfl rfl rfl (by kernel_rfl) Try.func3 (by kernel_rfl)
    (of_decide_eq_true (by kernel_rfl)) (by unfold Func.isWrapper; first | (rw [if_pos (by decide +kernel)]; kernel_rfl) | (rw [if_neg (by decide +kernel)]; exact ⟨rfl, rfl⟩))
    (fun os started H enc _ => lifted os started H enc)
#print axioms proved
end Go.Proofs.Ythbohedkagjohaa.pivotsChoose
