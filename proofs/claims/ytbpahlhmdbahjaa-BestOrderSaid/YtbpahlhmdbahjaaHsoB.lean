/-
  The contract of breakPatternsCmpFunc: places exchanged within the part.
-/
import Derived.Test.YtbpahlhmdbahjaaHsoC
import Derived.Test.YtbpahlhmdbahjaaShelf
import Derived.Laws.Bits64
import Derived.Laws.Bits64b
import Derived.Sort.Walk7a
import Derived.Sort.WalkA14
namespace Go.Proofs.Ytbpahlhmdbahjaa.hso
open Go.RowKit law bytes only flat hit heapM best Go.Sort Go.Shelf
set_option linter.unusedVariables false

/-- the generator's number at block s -/
def Xs (w : World) (s : Nat) (x : Nat) : Prop := Blk w s 72 #[.int .u64 x]
theorem u64_nat (n : Nat) (h : n < 18446744073709551616) : IntKind.u64.wrap (n : Int) = (n : Int) := by rw [IntKind.wrap_u64]; omega
set_option maxRecDepth 100000 in
set_option maxHeartbeats 1600000 in
theorem next_any {s : Nat} {x : Nat} {w : World} (hx : Xs w s x) (h1 : x < 18446744073709551616) :
    Calls Try.prog 55 #[.pointer (some ⟨s, 0, none⟩)] w fun e w' =>
      ∃ y : Nat, y < 18446744073709551616 ∧ e = .returned (.int .u64 y) ∧ Only (· = s) w w' ∧ Xs w' s y := by
  obtain ⟨A, hA⟩ : ∃ A : Nat, A = x ^^^ (x * 8192 % 18446744073709551616) := ⟨_, rfl⟩
  obtain ⟨B, hB⟩ : ∃ B : Nat, B = A ^^^ (A / 128) := ⟨_, rfl⟩
  obtain ⟨C, hC⟩ : ∃ C : Nat, C = B ^^^ (B * 131072 % 18446744073709551616) := ⟨_, rfl⟩
  have lA : A < 18446744073709551616 := by rw [hA]; exact Nat.xor_lt_two_pow (n := 64) (by omega) (by omega)
  have lB : B < 18446744073709551616 := by rw [hB]; exact Nat.xor_lt_two_pow (n := 64) (by omega) (by omega)
  have lC : C < 18446744073709551616 := by rw [hC]; exact Nat.xor_lt_two_pow (n := 64) (by omega) (by omega)
  have e1 : bits .xor .u64 (x : Int) (IntKind.u64.wrap ((x : Int) * 8192)) = (A : Int) := by
    rw [IntKind.wrap_u64, show ((x : Int) * 8192 % 18446744073709551616) = ((x * 8192 % 18446744073709551616 : Nat) : Int) by omega, bits_xor_u64_nat _ _ h1 (by omega), hA]
  have e2 : bits .xor .u64 (A : Int) ((A : Int) / 128) = (B : Int) := by
    rw [show ((A : Int) / 128) = ((A / 128 : Nat) : Int) by omega, bits_xor_u64_nat _ _ lA (by omega), hB]
  have e3 : bits .xor .u64 (B : Int) (IntKind.u64.wrap ((B : Int) * 131072)) = (C : Int) := by
    rw [IntKind.wrap_u64, show ((B : Int) * 131072 % 18446744073709551616) = ((B * 131072 % 18446744073709551616 : Nat) : Int) by omega, bits_xor_u64_nat _ _ lB (by omega), hC]
  have LC := Lib.hid lC
  clear hA hB hC lA lB lC h1
  have c0 : w.cell? ⟨s, 0, none⟩ = some (.int .u64 x) := hx.cell 0
  have f0 : w.frozen? ⟨s, 0, none⟩ = false := hx.frozen 0
  have HX0 := Lib.hid hx
  clear hx
  go_enter Try.func55, Try.ntmps55
  go_wp2_with (fail)
  go_region
  have HX1 : Hid (Xs (w.setCell ⟨s, 0, none⟩ (.int .u64 A)).drew s A) := Lib.hid (HX0.out.set_ 0 _)
  have HO1 : Hid (Only (· = s) w (w.setCell ⟨s, 0, none⟩ (.int .u64 A)).drew) := Lib.hid (((Only.refl (· = s) w).setCell (p := ⟨s, 0, none⟩) (.inl rfl) _).drew)
  clear c0 f0 HX0
  generalize (w.setCell ⟨s, 0, none⟩ (.int .u64 A)).drew = w1 at HX1 HO1 ⊢
  have c0 : w1.cell? ⟨s, 0, none⟩ = some (.int .u64 A) := HX1.out.cell 0
  have f0 : w1.frozen? ⟨s, 0, none⟩ = false := HX1.out.frozen 0
  go_wp2_with (fail)
  go_region
  have HX2 : Hid (Xs (w1.setCell ⟨s, 0, none⟩ (.int .u64 B)).drew s B) := Lib.hid (HX1.out.set_ 0 _)
  have HO2 : Hid (Only (· = s) w (w1.setCell ⟨s, 0, none⟩ (.int .u64 B)).drew) := Lib.hid ((HO1.out.setCell (p := ⟨s, 0, none⟩) (.inl rfl) _).drew)
  clear c0 f0 HX1 HO1
  generalize (w1.setCell ⟨s, 0, none⟩ (.int .u64 B)).drew = w2 at HX2 HO2 ⊢
  have c0 : w2.cell? ⟨s, 0, none⟩ = some (.int .u64 B) := HX2.out.cell 0
  have f0 : w2.frozen? ⟨s, 0, none⟩ = false := HX2.out.frozen 0
  go_wp2_with (fail)
  go_region
  have HX3 : Hid (Xs (w2.setCell ⟨s, 0, none⟩ (.int .u64 C)).drew s C) := Lib.hid (HX2.out.set_ 0 _)
  have HO3 : Hid (Only (· = s) w (w2.setCell ⟨s, 0, none⟩ (.int .u64 C)).drew) := Lib.hid ((HO2.out.setCell (p := ⟨s, 0, none⟩) (.inl rfl) _).drew)
  clear c0 f0 HX2 HO2
  generalize (w2.setCell ⟨s, 0, none⟩ (.int .u64 C)).drew = w3 at HX3 HO3 ⊢
  have c0 : w3.cell? ⟨s, 0, none⟩ = some (.int .u64 C) := HX3.out.cell 0
  go_wp2_with (fail)
  refine bodyPost_ret (v := .int .u64 C) (by simp [results, Try.results55, go_sem]) rfl ?_
  exact ⟨C, LC.out, rfl, HO3.out, HX3.out⟩

set_option maxHeartbeats 1600000 in
theorem power_any (n : Nat) (hn : n < 4611686018427387904) (w : World) :
    Calls Try.prog 54 #[.int .i64 n] w fun e w' => e = .returned (.int .u64 ((1 <<< bitsLen n : Nat) : Int)) ∧ w = w' := by
  have HL : Hid (∀ w, Calls Try.prog 41 #[.int .u64 (n : Int)] w fun e w' => e = .returned (.int .i64 (bitsLen n : Nat)) ∧ w' = w) := Lib.hid fun w => by
    have h := Try.bits_Len (n : Int) w (by omega) (by omega)
    rwa [Int.toNat_natCast, bitLen_eq _ (by omega)] at h
  have hk : bitsLen n ≤ 62 := (bitsLen_le_iff n 62).2 (by omega)
  have hp := wrap_two_pow (bitsLen n) hk
  have wr : IntKind.u64.wrap (n : Int) = n := u64_nat n (by omega)
  go_enter Try.func54, Try.ntmps54
  go_wp2_with (fail)
  refine (HL.out _).mono ?_
  rintro e w' ⟨rfl, rfl⟩
  go_wp2_with (fail)
  refine bodyPost_ret (v := .int .u64 ((1 <<< bitsLen n : Nat) : Int)) (by simp [results, Try.results54, go_sem]) rfl ?_
  exact ⟨rfl, rfl⟩

set_option maxRecDepth 100000 in
set_option maxHeartbeats 6400000 in
theorem break_any {hb K : Nat} {v : Value} {cf : Hit → Hit → Int} {base g c : Nat} {d : Array Hit} {w : World} (hr : HRow w base g c d) (fv : Value) (a b : Nat) (hab : a + 12 < b) (hb2 : b ≤ d.size) (hsz : d.size < 2305843009213693952) :
    Calls Try.prog 45 #[.slice (some ⟨g, 0, none⟩) d.size c, .int .i64 a, .int .i64 b, fv] w fun e w' =>
      e = .returned (.tuple #[]) ∧ Only (· = g) w w' ∧ ∃ d', PermIn a b d d' ∧ HRow w' base g c d' := by
  obtain ⟨l, hl⟩ : ∃ l, l = b - a := ⟨_, rfl⟩
  obtain ⟨M, hM⟩ : ∃ M : Nat, M = 1 <<< bitsLen l := ⟨_, rfl⟩
  have hM1 : 1 ≤ M := by rw [hM, Nat.one_shiftLeft]; exact Nat.two_pow_pos _
  have hM2 : M ≤ 2 * l := by rw [hM, Nat.one_shiftLeft]; exact two_pow_bitsLen_le (by omega)
  have HNP : Hid (∀ w, Calls Try.prog 54 #[.int .i64 (l : Int)] w fun e w' => e = .returned (.int .u64 (M : Int)) ∧ w = w') := Lib.hid (by rw [hM]; exact fun w => power_any l (by omega) w)
  clear hM
  obtain ⟨s, hs⟩ : ∃ s, s = w.heap.size := ⟨_, rfl⟩
  have hsg : s ≠ g := by have := hr.lt; omega
  obtain ⟨q, hq⟩ : ∃ q, q = l / 4 := ⟨_, rfl⟩
  obtain ⟨qq, hqq⟩ : ∃ qq, qq = q * 2 := ⟨_, rfl⟩
  obtain ⟨aq, haq⟩ : ∃ aq, aq = a + qq := ⟨_, rfl⟩
  obtain ⟨ap, hap⟩ : ∃ ap, ap = aq + 1 := ⟨_, rfl⟩
  obtain ⟨am, ham⟩ : ∃ am, am = aq - 1 := ⟨_, rfl⟩
  obtain ⟨M1, hM1e⟩ : ∃ M1, M1 = M - 1 := ⟨_, rfl⟩
  have i1 : IntKind.i64.wrap ((b : Int) - (a : Int)) = (l : Int) := w64 (by omega) (by omega) (by omega)
  have i2 : ((l : Int) / 4) = (q : Int) := by omega
  have i4 : IntKind.i64.wrap ((q : Int) * 2) = (qq : Int) := w64 (by omega) (by omega) (by omega)
  have i5 : IntKind.i64.wrap ((a : Int) + (qq : Int)) = (aq : Int) := w64 (by omega) (by omega) (by omega)
  have i6 : IntKind.i64.wrap ((aq : Int) + 1) = (ap : Int) := w64 (by omega) (by omega) (by omega)
  have i7 : IntKind.i64.wrap ((aq : Int) - 1) = (am : Int) := w64 (by omega) (by omega) (by omega)
  have i8 : (8 : Int) ≤ (l : Int) := by omega
  have i9 : IntKind.u64.wrap (l : Int) = (l : Int) := u64_nat l (by omega)
  have i10 : IntKind.u64.wrap ((M : Int) - 1) = (M1 : Int) := by rw [IntKind.wrap_u64]; omega
  have HF : Hid (a + l = b ∧ a ≤ am ∧ am + 2 = ap ∧ ap < b ∧ M1 < 2 * l ∧ l < 2305843009213693952 ∧ b ≤ d.size ∧ s = w.heap.size ∧ s ≠ g) := Lib.hid ⟨by omega, by omega, by omega, by omega, by omega, by omega, by omega, hs, hsg⟩
  have HX0 : Hid (Xs (w.alloc (.cells #[.int .u64 (l : Int)] 72)) s l) := Lib.hid (hs ▸ Blk.new w _ _)
  have HR0 : Hid (HRow (w.alloc (.cells #[.int .u64 (l : Int)] 72)) base g c d) := Lib.hid (hr.below ((Below.refl _ _).alloc (Nat.le_refl _) _) (Nat.le_refl _))
  have HO0 : Hid (Only (· = g) w (w.alloc (.cells #[.int .u64 (l : Int)] 72))) := Lib.hid ((Only.refl _ w).alloc _)
  have hl64 : l < 18446744073709551616 := by omega
  clear hl hq hqq haq hap ham hM1e hM1 hM2 hr hab hb2 hsg
  go_enter Try.func45, Try.ntmps45
  go_wp2_with (fail)
  rw [← hs]
  generalize w.alloc (.cells #[.int .u64 (l : Int)] 72) = w1 at HX0 HR0 HO0 ⊢
  clear hs
  refine (HNP.out _).mono ?_
  rintro e w' ⟨rfl, rfl⟩
  go_wp2_with (fail)
  go_loopg [11, 12] 3 (fun gk s11 s12 wr => ∃ (t m z : Nat) (d' : Array Hit), t ≤ 3 ∧ gk = 3 - t ∧ s11 = .int .i64 m ∧ m = am + t ∧ z < 18446744073709551616 ∧ d'.size = d.size ∧ PermIn a b d d' ∧ HRow wr base g c d' ∧ Only (· = g) w wr ∧ Xs wr s z)
  case atStart => exact ⟨0, am, l, d, by omega, rfl, rfl, rfl, hl64, rfl, permIn_refl _ _ _, HR0.out, HO0.out, HX0.out⟩
  case round =>
    clear HX0 HR0 HO0
    obtain ⟨t, m, z0, d', ht, rfl, rfl, hm, hz0, hds, hp, hr, ho, hx⟩ := hrel
    have HP := Lib.hid hp
    have HR := Lib.hid hr
    have HO := Lib.hid ho
    have HM := Lib.hid hm
    by_cases ht3 : t < 3
    · have i11 : (m : Int) ≤ (ap : Int) := by have := HF.out; omega
      have HN := Lib.hid (next_any hx hz0)
      clear hp hr ho hx hz0 hm
      go_wp2_with (fail)
      refine HN.out.mono ?_
      rintro e w2 ⟨z, hz, rfl, ho2, hx2⟩
      have HR2 := Lib.hid (HR.out.only ho2 fun e => HF.out.2.2.2.2.2.2.2.2 e.symm)
      have HO2 : Hid (Only (· = g) w w2) := Lib.hid (HO.out.trans ho2 fun i e => .inr (by have h1 : i = s := e; rw [h1, HF.out.2.2.2.2.2.2.2.1]; exact Nat.le_refl _))
      have HX2 := Lib.hid hx2
      have HZ := Lib.hid hz
      obtain ⟨O, hO⟩ : ∃ O : Nat, O = z &&& M1 := ⟨_, rfl⟩
      have hO2 : O ≤ M1 := by rw [hO]; exact Nat.and_le_right
      have e1 : bits .and .u64 (z : Int) (M1 : Int) = (O : Int) := by
        rw [bits_and_u64_nat _ _ hz (by have := HF.out; omega), hO]
      have i12 : IntKind.i64.wrap (O : Int) = (O : Int) := w64 rfl (by omega) (by have := HF.out; omega)
      obtain ⟨m1, hm1⟩ : ∃ m1, m1 = m + 1 := ⟨_, rfl⟩
      have i16 : IntKind.i64.wrap ((m : Int) + 1) = (m1 : Int) := w64 (by omega) (by have := HF.out; omega) (by have := HF.out; have := HM.out; omega)
      have HM1 := Lib.hid hm1
      clear HN ho2 hx2 HR HO hO hz hm1
      by_cases hlo : (l : Int) ≤ (O : Int)
      · obtain ⟨OO, hOO⟩ : ∃ OO, OO = O - l := ⟨_, rfl⟩
        have i17 : IntKind.i64.wrap ((O : Int) - (l : Int)) = (OO : Int) := w64 (by omega) (by omega) (by have := HF.out; omega)
        have hm := HM.out
        obtain ⟨aj, haj⟩ : ∃ aj, aj = a + OO := ⟨_, rfl⟩
        have i13 : IntKind.i64.wrap ((a : Int) + (OO : Int)) = (aj : Int) := w64 (by omega) (by have := HF.out; omega) (by have := HF.out; omega)
        have i14 : (aj : Int) < (d.size : Int) := by have := HF.out; omega
        have i15 : (m : Int) < (d.size : Int) := by have := HF.out; omega
        obtain ⟨q0, q1, q2, q3, ⟨fz0, fz1, fz2, fz3⟩, ⟨u, uu, q4, q5, q6⟩, HRS, HOS⟩ := swap_step HR2.out m aj (by have := HF.out; omega) (by have := HF.out; omega) HO2.out rfl rfl
        generalize d'[m]! = x at q0 q1 q2 q3 q4 q5 q6 HRS HOS
        generalize d'[aj]! = y at q0 q1 q2 q3 q4 q5 q6 HRS HOS
        have HPS : Hid (PermIn a b d (swp d' m aj)) := Lib.hid (permIn_trans _ _ _ a b HP.out (swp_permIn d' a b m aj (by have := HF.out; omega) (by have := HF.out; omega) (by have := HF.out; omega) (by have := HF.out; omega) (by have := HF.out; omega)))
        have HXS : Hid (Xs ((((w2.setCell ⟨g, m * 2, none⟩ (.int .u64 y.1)).setCell ⟨g, m * 2 + 1, none⟩ (.int .i64 y.2)).setCell ⟨g, aj * 2, none⟩ (.int .u64 x.1)).setCell ⟨g, aj * 2 + 1, none⟩ (.int .i64 x.2)).drew s z) := Lib.hid (Blk.drewN (Blk.far (Blk.far (Blk.far (Blk.far HX2.out HF.out.2.2.2.2.2.2.2.2 _) HF.out.2.2.2.2.2.2.2.2 _) HF.out.2.2.2.2.2.2.2.2 _) HF.out.2.2.2.2.2.2.2.2 _) 1)
        clear HR2 HO2 HX2 HP hm haj hOO
        go_wp2_with (fail)
        go_region
        go_wp2_with (fail)
        go_roundg (2 - t)
        case measure => omega
        case rel => exact ⟨t + 1, m1, z, swp d' m aj, by omega, by omega, rfl, by have h1 := HM1.out; have h2 := HM.out; omega, HZ.out, by rw [size_swp]; exact hds, HPS.out, HRS.out, HOS.out, HXS.out⟩
      · obtain ⟨OO, hOO⟩ : ∃ OO, OO = O := ⟨_, rfl⟩
        have hm := HM.out
        rw [← hOO] at i12 e1 hlo hO2
        obtain ⟨aj, haj⟩ : ∃ aj, aj = a + OO := ⟨_, rfl⟩
        have i13 : IntKind.i64.wrap ((a : Int) + (OO : Int)) = (aj : Int) := w64 (by omega) (by have := HF.out; omega) (by have := HF.out; omega)
        have i14 : (aj : Int) < (d.size : Int) := by have := HF.out; omega
        have i15 : (m : Int) < (d.size : Int) := by have := HF.out; omega
        obtain ⟨q0, q1, q2, q3, ⟨fz0, fz1, fz2, fz3⟩, ⟨u, uu, q4, q5, q6⟩, HRS, HOS⟩ := swap_step HR2.out m aj (by have := HF.out; omega) (by have := HF.out; omega) HO2.out rfl rfl
        generalize d'[m]! = x at q0 q1 q2 q3 q4 q5 q6 HRS HOS
        generalize d'[aj]! = y at q0 q1 q2 q3 q4 q5 q6 HRS HOS
        have HPS : Hid (PermIn a b d (swp d' m aj)) := Lib.hid (permIn_trans _ _ _ a b HP.out (swp_permIn d' a b m aj (by have := HF.out; omega) (by have := HF.out; omega) (by have := HF.out; omega) (by have := HF.out; omega) (by have := HF.out; omega)))
        have HXS : Hid (Xs ((((w2.setCell ⟨g, m * 2, none⟩ (.int .u64 y.1)).setCell ⟨g, m * 2 + 1, none⟩ (.int .i64 y.2)).setCell ⟨g, aj * 2, none⟩ (.int .u64 x.1)).setCell ⟨g, aj * 2 + 1, none⟩ (.int .i64 x.2)).drew s z) := Lib.hid (Blk.drewN (Blk.far (Blk.far (Blk.far (Blk.far HX2.out HF.out.2.2.2.2.2.2.2.2 _) HF.out.2.2.2.2.2.2.2.2 _) HF.out.2.2.2.2.2.2.2.2 _) HF.out.2.2.2.2.2.2.2.2 _) 1)
        clear HR2 HO2 HX2 HP hm haj hOO
        go_wp2_with (fail)
        go_region
        go_wp2_with (fail)
        go_roundg (2 - t)
        case measure => omega
        case rel => exact ⟨t + 1, m1, z, swp d' m aj, by omega, by omega, rfl, by have h1 := HM1.out; have h2 := HM.out; omega, HZ.out, by rw [size_swp]; exact hds, HPS.out, HRS.out, HOS.out, HXS.out⟩
    · have i11 : ¬ (m : Int) ≤ (ap : Int) := by have := HF.out; omega
      clear hp hr ho hx hz0 hm
      go_wp2_with (fail)
      go_end0
      exact ⟨rfl, HO.out, d', HP.out, HR.out⟩
end Go.Proofs.Ytbpahlhmdbahjaa.hso
