/-
  For all metrics, items, things and distances the law ScanNone returns true, and changes nothing that there was. No condition.
-/
import Derived.Test.YtimkbadjcdnjjaaScT
import Derived.Deep.RegionHeld3
namespace Go.Proofs.Ytimkbadjcdnjjaa.scanNone
open Go.RowKit law bytes only flat nums ord obj metric scan
open hit (Hit hv hv_length lt Rises sortH sortH_length sortH_perm)
open Go.ChangeShapes Go.WideShapes Go.Deep Go.ChangeAt
set_option linter.unusedVariables false
set_option maxRecDepth 100000

theorem pin_none (n r : Int) (l : List scan.Item) (a : Nat) : ∀ j, pin none n r l a j = []
  | 0 => rfl
  | j + 1 => by simp [pin, pin_none n r l a j, wi]
theorem pot_none (n r : Int) (l : List scan.Item) : ∀ a, pot none n r l a = []
  | 0 => rfl
  | a + 1 => by simp [pot, pot_none n r l a, pin_none]
theorem all_zero (l : List scan.Item) (q : Thing) : ∀ x ∈ sortH (hitsOf 0 l q), x.2 = 0 := fun x hx => by
  have h := (sortH_perm _).subset hx
  simp only [hitsOf, List.mem_map] at h
  obtain ⟨p, -, rfl⟩ := h
  exact M_0 (n := 0) (by decide) (by decide) (by decide) p.2.x q
/-- where the law stands: its box, what there was -/
def Bx (w W : World) (d : Dat) : Prop := Blk W w.heap.size 27 (aC d) ∧ Below w.heap.size w W
theorem Bx.on {w W W' : World} {d : Dat} (h : Bx w W d) (o : Below W.heap.size W W') : Bx w W' d := ⟨h.1.below o h.1.lt, h.2.trans (o.mono h.2.size)⟩
theorem below_none {W W' : World} (o : Only (tk none) W W') : Below W.heap.size W W' := o.below (Nat.le_refl _) fun i hi => absurd hi (tk_none i)
theorem fit_none {w W : World} {d : Dat} (hy : Hyp w d) (h : Below w.heap.size w W) (hl : d.l.length ≤ 60) : Fit W w.heap.size none 0 0 d.A d.l d.q :=
  ⟨hy.its.below h, hy.qs.below h, fun e => absurd rfl e, .inr ⟨rfl, rfl, rfl⟩, h.size, fun i e => absurd e (tk_none i), by decide, by omega⟩
set_option maxHeartbeats 6400000 in
theorem walk (d : Dat) (w : World) (hy : Hyp w d) : Calls Try.prog 5 #[.agg (aC d)] w (Gives (.bool true) w) := by
  have hk1 : Blk (w.alloc (.cells (aC d) 27)) w.heap.size 27 (aC d) := Blk.new w _ _
  have hb1 : Below w.heap.size w (w.alloc (.cells (aC d) 27)) := (Below.refl _ _).alloc (Nat.le_refl _) _
  have hsh := rshorts_any d.A none d.l [] 30 40 d.c 0 _ (w.alloc (.cells (aC d) 27)) ((hy.its.below hb1).more hb1.size) (Nat.le_refl _) Sl.nil (by have := hy.len; unfold maxLen at this; omega) (by simp)
  obtain ⟨s, hs⟩ : ∃ s, shortR 30 40 d.l [] = s := ⟨_, rfl⟩
  rw [hs] at hsh
  have hrd := rd_of hk1
  unfold Rd at hrd
  obtain ⟨r0, r1, r2, r3, r4, r5, r6⟩ := hrd
  have HPRE : Hid (∀ W, Below (w.alloc (.cells (aC d) 27)).heap.size (w.alloc (.cells (aC d) 27)) W → Bx w W d) := Lib.hid fun W hW => ⟨hk1.below hW hk1.lt, hb1.trans (hW.mono hb1.size)⟩
  have HSH := Lib.hid hsh
  have HY := Lib.hid hy
  have HS := Lib.hid hs
  clear hk1 hb1 hsh hy hs
  unfold aC at *
  go_enter Try.func5, Try.ntmps5
  go_wp2_with (fail)
  refine HSH.out.mono ?_
  rintro e w1 ⟨rfl, hb⟩
  have HP1 := Lib.hid (HPRE.out w1 hb)
  clear HSH HPRE hb r0 r1 r2 r3 r4 r5 r6
  cases s with
  | false =>
    have HL := Lib.hid (lives_any w1)
    go_wp2_with (fail)
    refine HL.out.mono ?_
    rintro e w2 ⟨rfl, hb2⟩
    have HE := Lib.hid (HP1.out.2.trans (hb2.mono HP1.out.2.size))
    clear HL hb2
    go_wp2_with (fail)
    go_ret
    exact ⟨rfl, HE.out⟩
  | true =>
    have hsm := shortR_of HS.out
    have hl30 : d.l.length ≤ 30 := by omega
    obtain ⟨r0, r1, r2, r3, r4, r5, r6⟩ := rd_of HP1.out.1
    have hlen : (sortH (hitsOf 0 d.l d.q.x)).length = d.l.length := by rw [sortH_length, hitsOf_length]
    have HAL : Hid (Calls Try.prog 11 #[.pointer none, .slice d.A d.l.length d.c, .agg #[.int .i64 d.q.x.tag, .slice d.q.a d.q.x.vec.length d.q.c, .string d.q.x.str]] w1 fun e w' => ∃ A2 c2, e = .returned (.slice A2 d.l.length c2) ∧ Sl w' w'.heap.size A2 (hv (sortH (hitsOf 0 d.l d.q.x))) ∧ Bx w w' d) :=
      Lib.hid ((all_any w1 _ none 0 0 d.A d.c d.l d.q (fit_none HY.out HP1.out.2 (by omega)) (by omega)).mono fun e w' ⟨A2, c2, he, _, hsl, ho, _⟩ => ⟨A2, c2, by rw [he, hlen], hsl, HP1.out.on (below_none ho)⟩)
    have HZ := Lib.hid (all_zero d.l d.q.x)
    obtain ⟨al, hal⟩ : ∃ al, sortH (hitsOf 0 d.l d.q.x) = al := ⟨_, rfl⟩
    rw [hal] at HAL HZ hlen
    clear hsm hal HS
    go_wp2_with (fail)
    refine HAL.out.mono ?_
    rintro e w2 ⟨A2, c2, rfl, hsl, hbx⟩
    have HSL := Lib.hid hsl
    have HBX := Lib.hid hbx
    have HLE := Lib.hid hlen
    clear HAL HP1 hsl hbx hlen r0 r1 r2 r3 r4 r5 r6
    go_wp2_with (fail)
    go_loopg [4] d.l.length (fun gk s4 wr => ∃ i : Nat, gk = d.l.length - i ∧ i ≤ d.l.length ∧ s4 = .int .i64 i ∧ wr = w2)
    case atStart => exact ⟨0, rfl, Nat.zero_le _, rfl, rfl⟩
    case round =>
      obtain ⟨i, rfl, hi, rfl, rfl⟩ := hrel
      by_cases hlt : i < d.l.length
      · have hla : i < al.length := by rw [HLE.out]; exact hlt
        obtain ⟨b, o, rfl, hb1, hc0, hc1⟩ := hit.Sl.hitAt HSL.out hla
        have hz : al[i].2 = 0 := HZ.out _ (List.getElem_mem hla)
        rw [hz] at hc1
        have z3 : (i : Int) < (d.l.length : Int) := by omega
        clear hz
        go_wp2_with (fail)
        go_roundg (d.l.length - (i + 1))
        case measure => omega
        case rel => exact ⟨i + 1, rfl, by omega, by go_num, rfl⟩
      · obtain rfl : i = d.l.length := by omega
        have z3 : ¬ (d.l.length : Int) < (d.l.length : Int) := by omega
        have e1 : ((d.l.length : Int) == (d.l.length : Int)) = true := by simp
        obtain ⟨r0, r1, r2, r3, r4, r5, r6⟩ := rd_of HBX.out.1
        have HR : Hid (Calls Try.prog 13 #[.pointer none, .slice d.A d.l.length d.c, .agg #[.int .i64 d.q.x.tag, .slice d.q.a d.q.x.vec.length d.q.c, .string d.q.x.str], .int .i64 d.r] wr fun e w' => ∃ A2 c2, e = .returned (.slice A2 0 c2) ∧ Rd w' w.heap.size d ∧ Hid (Bx w w' d)) :=
          Lib.hid ((range_any wr _ none 0 0 d.A d.c d.l d.q d.r (fit_none HY.out HBX.out.2 (by omega)) (by omega)).mono fun e w' ⟨A2, c2, he, _, hsl, ho, _⟩ => ⟨A2, c2, he, rd_of (HBX.out.on (below_none ho)).1, Lib.hid (HBX.out.on (below_none ho))⟩)
        have HPA : Hid (∀ W, Bx w W d → Calls Try.prog 17 #[.pointer none, .slice d.A d.l.length d.c, .int .i64 d.r] W fun e w' => ∃ A2 c2, e = .returned (.slice A2 0 c2) ∧ Hid (Bx w w' d)) := Lib.hid fun W hW =>
          (pairs_any W _ none 0 0 d.A d.c d.l d.r ⟨HY.out.its.below hW.2, fun e => absurd rfl e, .inr ⟨rfl, rfl, rfl⟩, hW.2.size, fun i e => absurd e (tk_none i), by decide, by decide, by omega⟩ HY.out.cap).mono fun e w' ⟨A2, c2, he, _, hsl, ho, _⟩ => by
            rw [pot_none] at he
            exact ⟨A2, c2, he, Lib.hid (hW.on (below_none ho))⟩
        clear HSL HZ HBX HLE
        go_wp2_with (fail)
        refine HR.out.mono ?_
        rintro e w3 ⟨A3, c3, rfl, ⟨r0, r1, r2, r3, r4, r5, r6⟩, HB3⟩
        have HP3 := Lib.hid (HPA.out w3 HB3.out)
        clear HR HPA HB3
        go_wp2_with (fail)
        refine HP3.out.mono ?_
        rintro e w4 ⟨A4, c4, rfl, HB4⟩
        have HL := Lib.hid (lives_any w4)
        clear HP3
        go_wp2_with (fail)
        refine HL.out.mono ?_
        rintro e w5 ⟨rfl, hb5⟩
        have HE := Lib.hid (HB4.out.2.trans (hb5.mono HB4.out.2.size))
        clear HL hb5 HB4
        go_wp2_with (fail)
        go_ret
        exact ⟨rfl, HE.out⟩

theorem lifted (os : Os) (started : os.Started) (H : Type) (enc : TypeId × Value → H) :
    ReturnsInHanded {} Try.checked os 5 .any (Rows.scanNoneSpec.pre6 enc Try.prog Try.f5 Rows.scanNoneRow.domain false) (Rows.scanNoneSpec.post enc Try.prog Try.f5 false true false false) := by
  refine lift (C := Try.checked) (by kernel_rfl) started (by kernel_rfl) Try.func5 rfl (by kernel_rfl) (by kernel_rfl) rfl Try.underlying4
    (fun ds hd => by match ds, hd with | [_], _ => exact ⟨rfl, rfl, rfl⟩)
    (ChangeSpec.witness6 (enc := enc) (C := Try.checked) false ⟨#[], #[.agg #[.int .i64 0, .slice none 0 0, .int .i64 0, .slice none 0 0, .string ⟨#[]⟩, .int .i64 0, .int .i64 0]], []⟩ 8 (by kernel_rfl) (by kernel_rfl) (by kernel_rfl) (by kernel_rfl)) ?_
  intro W base args ds before hval0 hA0 hfz hsz0
  have hval : ∀ (j : Nat) t v, Try.f5.params[j]? = some t → args[j]? = some v → Value.okWide Try.prog W .any base t v := hval0
  have hA : DataW.TrodAll enc Try.prog W 0 (fun _ => true) true Try.f5.params.toList args.toList ds before := hA0
  have hsz : (DataW.weightsEach Try.prog Try.f5.params.toList ds).all (· ≤ reachBytes) = true := hsz0
  rw [Try.params5] at hA hval hsz
  obtain ⟨v0, vs0, d0, ds0, p0, q0, hargs, rfl, rfl, h0, r0⟩ := trodAll_cons hA
  obtain ⟨rfl, rfl, rfl⟩ := trodAll_nil r0
  obtain rfl : args = #[v0] := by cases args; simp_all
  obtain ⟨a, rfl, hy⟩ := open_ask (hval 0 27 v0 rfl rfl) h0
  exact walk a W hy

theorem proved : Rows.ScanNoneSaid :=
  OpenClaim.holds_of_wide 5 Try.f5 rfl rfl rfl rfl rfl rfl rfl ⟨rfl, rfl, rfl, rfl, rfl⟩ rfl rfl rfl rfl rfl (by kernel_rfl) Try.func5 (by kernel_rfl)
    (of_decide_eq_true (by kernel_rfl)) (by unfold Func.isWrapper; first | (rw [if_pos (by decide +kernel)]; kernel_rfl) | (rw [if_neg (by decide +kernel)]; exact ⟨rfl, rfl⟩))
    (fun os started H enc _ => lifted os started H enc)
#print axioms proved
end Go.Proofs.Ytimkbadjcdnjjaa.scanNone
