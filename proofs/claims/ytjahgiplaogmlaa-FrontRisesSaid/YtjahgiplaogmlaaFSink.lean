/-
  The contract of Heap.sink at entries.
-/
import Derived.Test.YtjahgiplaogmlaaFRise
namespace Go.Proofs.Ytjahgiplaogmlaa.fro
open Go.RowKit law bytes only flat heapM Go.Sort Go.Shelf
set_option linter.unusedVariables false

set_option maxRecDepth 100000 in
set_option maxHeartbeats 3200000 in
theorem sink_ent (K hb : Nat) (v : Value) (cf : Ent → Ent → Int) (hK : Enters Try.prog K) (hO : Ordr K tE cf) (hS : SWO (lf cf)) (base g c : Nat) (d : Array Ent) (w : World)
    (hs : Blk w hb 59 #[.func (.func K) #[] #[], v]) (hr : ERow w base g c d) (hne : hb ≠ g) (hD : Down (lf cf) d 0) (hsz : d.size < 2305843009213693952) :
    Calls Try.prog 29 #[.pointer (some ⟨hb, 0, none⟩), .slice (some ⟨g, 0, none⟩) d.size c] w fun e w' =>
      e = .returned (.tuple #[]) ∧ Only (· = g) w w' ∧ ∃ d', d'.size = d.size ∧ d'.toList.Perm d.toList ∧ Heap (lf cf) d' ∧ ERow w' base g c d' := by
  have HC : Hid (∀ (W : World) (x y : Ent), Only (· = g) w W → Calls Try.prog 34 #[.pointer (some ⟨hb, 0, none⟩), tE x, tE y] W fun e w' => e = .returned (.int .i64 (cf x y)) ∧ Below W.heap.size W w') :=
    Lib.hid fun W x y hW => compare_ent K hb v cf hK x y W (Blk.only hs hW hne) hO
  clear hK hO hs
  go_enter Try.func29, Try.ntmps29
  go_wp2_with (fail)
  go_loopg [4, 5, 6] d.size (fun gk s4 s5 s6 wr => ∃ (a : Nat) (d' : Array Ent), gk = d.size - a ∧ s4 = .int .i64 a ∧ a ≤ d.size ∧ d'.size = d.size ∧ Down (lf cf) d' a ∧ d'.toList.Perm d.toList ∧ ERow wr base g c d' ∧ Only (· = g) w wr)
  case atStart => exact ⟨0, d, rfl, rfl, by omega, rfl, hD, List.Perm.refl _, hr, Only.refl _ _⟩
  case round =>
    obtain ⟨a, d', rfl, rfl, ha, hds, hD', hp, hr', ho⟩ := hrel
    obtain ⟨w0, hw0⟩ : ∃ w0, w0 = wr := ⟨_, rfl⟩
    subst hw0
    clear hr hD
    obtain ⟨t, ht⟩ : ∃ t, t = 2 * a := ⟨_, rfl⟩
    obtain ⟨t1, ht1⟩ : ∃ t1, t1 = 2 * a + 1 := ⟨_, rfl⟩
    obtain ⟨t2, ht2⟩ : ∃ t2, t2 = 2 * a + 2 := ⟨_, rfl⟩
    have i1 : IntKind.i64.wrap (2 * (a : Int)) = (t : Int) := by rw [IntKind.wrap_i64]; omega
    have i2 : IntKind.i64.wrap ((t : Int) + 1) = (t1 : Int) := by rw [IntKind.wrap_i64]; omega
    have i3 : IntKind.i64.wrap ((t : Int) + 2) = (t2 : Int) := by rw [IntKind.wrap_i64]; omega
    have HT1 := Lib.hid ht1
    have HT2 := Lib.hid ht2
    clear ht ht1 ht2
    go_wp2_with (fail)
    go_loopg [5, 6] (2 * a + 3 - (2 * a + 1)) (fun gk s5 s6 wr => ∃ f b : Nat, gk = 2 * a + 3 - b ∧ s5 = .int .i64 f ∧ s6 = .int .i64 b ∧ 2 * a + 1 ≤ b ∧ b ≤ 2 * a + 3 ∧ Kid (lf cf) d' a f b ∧ ERow wr base g c d' ∧ Only (· = g) w wr)
    case atStart => exact ⟨a, 2 * a + 1, rfl, rfl, by rw [HT1.out], by omega, by omega, Kid.start _ _ _, hr', ho⟩
    case round =>
      clear hr' ho
      obtain ⟨f, b, rfl, rfl, rfl, hb1, hb2, hk, hr', ho⟩ := hrel
      by_cases hlt : b ≤ 2 * a + 2 ∧ b < d.size
      · obtain ⟨hlt1, hlt2⟩ := hlt
        have j1 : decide ((b : Int) ≤ (t2 : Int)) = true := decide_eq_true (by rw [HT2.out]; omega)
        have j2 : decide ((b : Int) < (d.size : Int)) = true := decide_eq_true (by omega)
        have j3 : decide (b ≤ t2) = true := decide_eq_true (by rw [HT2.out]; omega)
        have j4 : decide (b < d.size) = true := decide_eq_true (by omega)
        have hf : f < d.size := by
          rcases hk.1 with e | ⟨_, _, e, _⟩
          · omega
          · omega
        have j5 : (b : Int) < (d.size : Int) := by omega
        have j6 : (f : Int) < (d.size : Int) := by omega
        have j7 : IntKind.i64.wrap ((b : Int) + 1) = ((b + 1 : Nat) : Int) := by rw [IntKind.wrap_i64]; omega
        have HS2 : Hid (∀ W, Below wr.heap.size wr W → W.cell? ⟨g, b * 3, none⟩ = some (.int .i64 d'[b]!.1) ∧ W.cell? ⟨g, b * 3 + 1, none⟩ = some (.int .i64 d'[b]!.2.1) ∧ W.cell? ⟨g, b * 3 + 2, none⟩ = some (.int .u64 d'[b]!.2.2) ∧ W.cell? ⟨g, f * 3, none⟩ = some (.int .i64 d'[f]!.1) ∧ W.cell? ⟨g, f * 3 + 1, none⟩ = some (.int .i64 d'[f]!.2.1) ∧ W.cell? ⟨g, f * 3 + 2, none⟩ = some (.int .u64 d'[f]!.2.2)) := Lib.hid fun W hW =>
          ⟨(hr'.below hW (Nat.le_refl _)).c1 b (by omega), (hr'.below hW (Nat.le_refl _)).c2 b (by omega), (hr'.below hW (Nat.le_refl _)).c3 b (by omega), (hr'.below hW (Nat.le_refl _)).c1 f (by omega), (hr'.below hW (Nat.le_refl _)).c2 f (by omega), (hr'.below hW (Nat.le_refl _)).c3 f (by omega)⟩
        have HC2 : Hid (∀ W, Below wr.heap.size wr W → Calls Try.prog 34 #[.pointer (some ⟨hb, 0, none⟩), tE d'[b]!, tE d'[f]!] W fun e w' => e = .returned (.int .i64 (cf d'[b]! d'[f]!)) ∧ Below wr.heap.size wr w') :=
          Lib.hid fun W hW => (HC.out W _ _ (ho.on hW)).mono fun e w' ⟨he, hb'⟩ => ⟨he, hW.trans (hb'.mono hW.size)⟩
        have HR := Lib.hid hr'
        have HO := Lib.hid ho
        have HK := Lib.hid hk
        have HD := Lib.hid hD'
        have HP := Lib.hid hp
        have hl : lf cf d'[b]! d'[f]! = decide (cf d'[b]! d'[f]! < 0) := rfl
        clear hr' ho hk hD' hp
        obtain ⟨q0, q1, q2, q3, q4, q5⟩ := HS2.out wr (Below.refl _ _)
        generalize hx : d'[b]! = x at hl q0 q1 q2 q3 q4 q5 HS2 HC2
        generalize hy : d'[f]! = y at hl q0 q1 q2 q3 q4 q5 HS2 HC2
        generalize cf x y = r at hl HC2
        unfold tE at HC2
        have HX := Lib.hid hx
        have HY := Lib.hid hy
        have HL := Lib.hid hl
        clear hx hy hl
        obtain ⟨o, hd⟩ : ∃ o, decide (r < 0) = o := ⟨_, rfl⟩
        rw [hd] at HL
        go_wp2_with (fail)
        go_region_held3 (fun W => W.cell? ⟨g, b * 3, none⟩ = some (.int .i64 x.1) ∧ W.cell? ⟨g, b * 3 + 1, none⟩ = some (.int .i64 x.2.1) ∧ W.cell? ⟨g, b * 3 + 2, none⟩ = some (.int .u64 x.2.2) ∧ W.cell? ⟨g, f * 3, none⟩ = some (.int .i64 y.1) ∧ W.cell? ⟨g, f * 3 + 1, none⟩ = some (.int .i64 y.2.1) ∧ W.cell? ⟨g, f * 3 + 2, none⟩ = some (.int .u64 y.2.2)) ((refine HS2.out _ ?_; repeat' (first | (with_reducible exact Below.refl _ _) | (with_reducible assumption) | (with_reducible refine Below.drew ?_) | (with_reducible refine below_drewN' ?_ _))))
          (first
            | (go_at_call 34; (with_reducible refine (HC2.out _ (by repeat' (first | (with_reducible exact Below.refl _ _) | (with_reducible assumption) | (with_reducible refine Below.drew ?_) | (with_reducible refine below_drewN' ?_ _)))).mono ?_); rintro e w2 ⟨rfl, hb2⟩))
        have HR2 := Lib.hid (HR.out.below hb2 (Nat.le_refl _))
        have HO2 := Lib.hid (HO.out.on hb2)
        have hx := HX.out
        have hy := HY.out
        have hl := HL.out
        subst hx hy
        clear hb2 HC2 HS2 HR q0 q1 q2 q3 q4 q5 HX HY HL
        cases o with
        | true =>
          have HK2 := Lib.hid (HK.out.yes hS hb1 (by omega) hl)
          clear hl hd
          go_wp2_with (fail)
          go_roundg (2 * a + 3 - (b + 1))
          case measure => omega
          case rel => exact ⟨b, b + 1, rfl, rfl, rfl, by omega, by omega, HK2.out, HR2.out, HO2.out⟩
        | false =>
          have HK2 := Lib.hid (HK.out.no hl)
          clear hl hd
          go_wp2_with (fail)
          go_roundg (2 * a + 3 - (b + 1))
          case measure => omega
          case rel => exact ⟨f, b + 1, rfl, rfl, rfl, by omega, by omega, HK2.out, HR2.out, HO2.out⟩
      · have hend : b = 2 * a + 3 ∨ d'.size ≤ b := by omega
        have HR2 := Lib.hid hr'
        have HO2 := Lib.hid ho
        have HK := Lib.hid hk
        have HD := Lib.hid hD'
        have HP := Lib.hid hp
        have HE := Lib.hid hend
        have j0 : (decide ((b : Int) ≤ (t2 : Int)) && decide ((b : Int) < (d.size : Int))) = false := by
          rw [HT2.out]
          by_cases e : b ≤ 2 * a + 2
          · rw [decide_eq_false (p := (b : Int) < (d.size : Int)) (by omega)]; simp
          · rw [decide_eq_false (p := (b : Int) ≤ ((2 * a + 2 : Nat) : Int)) (by omega)]; simp
        clear hr' ho hk hD' hp hend
        by_cases e : f = a
        · have k0 : ((f : Int) == (a : Int)) = true := by rw [e]; simp
          have HH := Lib.hid (HK.out.stop HE.out HD.out e)
          by_cases e2 : b ≤ 2 * a + 2
          · have j1 : (b : Int) ≤ (t2 : Int) := by rw [HT2.out]; omega
            have j2 : ¬ (b : Int) < (d.size : Int) := by omega
            go_wp2_with (fail)
            refine bodyPost_ret (results_none rfl _ _ _) rfl ?_
            exact ⟨rfl, HO2.out, d', hds, HP.out, HH.out, HR2.out⟩
          · have j1 : ¬ (b : Int) ≤ (t2 : Int) := by rw [HT2.out]; omega
            go_wp2_with (fail)
            refine bodyPost_ret (results_none rfl _ _ _) rfl ?_
            exact ⟨rfl, HO2.out, d', hds, HP.out, HH.out, HR2.out⟩
        · have k0 : ((f : Int) == (a : Int)) = false := by rw [beq_eq_false_iff_ne]; omega
          have HH := Lib.hid (HK.out.step hS HE.out hb2 HD.out e)
          obtain ⟨m1, m2, m3⟩ := HK.out.place hb2 e
          have j6 : (f : Int) < (d.size : Int) := by omega
          have j7 : (a : Int) < (d.size : Int) := by omega
          have q0 := HR2.out.c1 a (by omega)
          have q1 := HR2.out.c2 a (by omega)
          have q2 := HR2.out.c3 a (by omega)
          have q3 := HR2.out.c1 f (by omega)
          have q4 := HR2.out.c2 f (by omega)
          have q5 := HR2.out.c3 f (by omega)
          have f0 := HR2.out.frozen (a * 3)
          have f1 := HR2.out.frozen (a * 3 + 1)
          have f2 := HR2.out.frozen (a * 3 + 2)
          have f3 := HR2.out.frozen (f * 3)
          have f4 := HR2.out.frozen (f * 3 + 1)
          have f5 := HR2.out.frozen (f * 3 + 2)
          have HRS := Lib.hid (HR2.out.swap a f (by omega) (by omega)).drew_
          have HOS : Hid (Only (· = g) w ((((((wr.setCell ⟨g, a * 3, none⟩ (.int .i64 d'[f]!.1)).setCell ⟨g, a * 3 + 1, none⟩ (.int .i64 d'[f]!.2.1)).setCell ⟨g, a * 3 + 2, none⟩ (.int .u64 d'[f]!.2.2)).setCell ⟨g, f * 3, none⟩ (.int .i64 d'[a]!.1)).setCell ⟨g, f * 3 + 1, none⟩ (.int .i64 d'[a]!.2.1)).setCell ⟨g, f * 3 + 2, none⟩ (.int .u64 d'[a]!.2.2)).drew) := Lib.hid (((((((HO2.out.setCell (.inl rfl) _).setCell (.inl rfl) _).setCell (.inl rfl) _).setCell (.inl rfl) _).setCell (.inl rfl) _).setCell (.inl rfl) _).drew)
          have HP2 := Lib.hid ((swp_perm d' a f (by omega) (by omega)).trans HP.out)
          generalize d'[a]! = x at q0 q1 q2 HRS HOS
          generalize d'[f]! = y at q3 q4 q5 HRS HOS
          by_cases e2 : b ≤ 2 * a + 2
          · have j1 : (b : Int) ≤ (t2 : Int) := by rw [HT2.out]; omega
            have j2 : ¬ (b : Int) < (d.size : Int) := by omega
            go_wp2_with (fail)
            go_region
            go_wp2_with (fail)
            go_roundg (d.size - f)
            case measure => omega
            case rel => exact ⟨f, swp d' a f, rfl, rfl, by omega, by rw [size_swp]; exact hds, HH.out, HP2.out, HRS.out, HOS.out⟩
          · have j1 : ¬ (b : Int) ≤ (t2 : Int) := by rw [HT2.out]; omega
            go_wp2_with (fail)
            go_region
            go_wp2_with (fail)
            go_roundg (d.size - f)
            case measure => omega
            case rel => exact ⟨f, swp d' a f, rfl, rfl, by omega, by rw [size_swp]; exact hds, HH.out, HP2.out, HRS.out, HOS.out⟩
end Go.Proofs.Ytjahgiplaogmlaa.fro
