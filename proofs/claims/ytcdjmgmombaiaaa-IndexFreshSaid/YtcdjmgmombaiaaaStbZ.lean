/-
  The contracts of stableCmpFunc, slices.SortStableFunc at items: a row is put in stable order by the items' numbers.
-/
import Derived.Test.YtcdjmgmombaiaaaStbT
namespace Go.Proofs.Ytcdjmgmombaiaaa.stb
open Go.RowKit law bytes only flat ord obj
open aro (Kept zK kV)
open store (iE iE_len)
set_option linter.unusedVariables false

set_option maxRecDepth 100000 in
set_option maxHeartbeats 6400000 in
theorem stable_any {base g n c : Nat} {l : List (Int × Kept)} {w : World} (hr : IRow w base g n c l) (hsz : n < 1152921504606846976) :
    Calls Try.prog 22 #[.slice (some ⟨g, 0, none⟩) n c, .int .i64 n, FV] w fun e w' =>
      e = .returned (.tuple #[]) ∧ Only (· = g) w w' ∧ ∃ l', Stb ky l l' ∧ IRow w' base g n c l' := by
  have HI : Hid (∀ (X U Y : List (Int × Kept)) (a b : Nat) (W : World), Only (· = g) w W → IRow W base g n c (X ++ (U ++ Y)) → X.length = a → a + U.length = b →
      Calls Try.prog 25 #[.slice (some ⟨g, 0, none⟩) n c, .int .i64 a, .int .i64 b, FV] W fun e w' => e = .returned (.tuple #[]) ∧ Only (· = g) w w' ∧ ∃ U', Stb ky U U' ∧ IRow w' base g n c (X ++ (U' ++ Y))) := Lib.hid fun X U Y a b W ho hr h1 h2 =>
    (insertion_any hr h1 h2 (by omega)).mono fun e w' ⟨he, ho', hU⟩ => ⟨he, ho.trans ho' fun _ e => .inl e, hU⟩
  have HM : Hid (∀ (X U V Y : List (Int × Kept)) (a m b : Nat) (W : World), Only (· = g) w W → IRow W base g n c (X ++ (U ++ (V ++ Y))) → 0 < U.length → 0 < V.length → Srt ky U → Srt ky V → X.length = a → a + U.length = m → m + V.length = b →
      Calls Try.prog 26 #[.slice (some ⟨g, 0, none⟩) n c, .int .i64 a, .int .i64 m, .int .i64 b, FV] W fun e w' => e = .returned (.tuple #[]) ∧ Only (· = g) w w' ∧ ∃ S, Stb ky (U ++ V) S ∧ IRow w' base g n c (X ++ (S ++ Y))) := Lib.hid fun X U V Y a m b W ho hr h1 h2 h3 h4 h5 h6 h7 =>
    (sym_any base g n c (by omega) _ X U V Y a m b W (Nat.le_refl _) h1 h2 h3 h4 h5 h6 h7 hr).mono fun e w' ⟨he, ho', hS⟩ => ⟨he, ho.trans ho' fun _ e => .inl e, hS⟩
  unfold FV at HI HM ⊢
  have hl := hr.len
  go_enter Try.func22, Try.ntmps22
  go_wp2_with (fail)
  go_loopg [7, 8] n (fun gk s7 s8 wr => ∃ (a b t : Nat) (D R : List (Int × Kept)), gk = n - a ∧ s7 = .int .i64 a ∧ s8 = .int .i64 b ∧ b = a + 20 ∧ D.length = a ∧ a = t * 20 ∧ a ≤ n ∧ Chk ky 20 D ∧ Eqf ky l (D ++ R) ∧ IRow wr base g n c (D ++ R) ∧ Only (· = g) w wr)
  case atStart => exact ⟨0, 20, 0, [], l, rfl, rfl, rfl, rfl, rfl, rfl, Nat.zero_le _, Chk.nil, Eqf.refl _, hr, Only.refl _ _⟩
  case round =>
    clear hr
    obtain ⟨a, b, t, D, R, rfl, rfl, rfl, hb, hDa, hat, han, hD, he, hr, ho⟩ := hrel
    have hRl : a + R.length = n := by have := hr.len; rw [List.length_append] at this; omega
    by_cases hlt : b ≤ n
    · have k0 : (b : Int) ≤ (n : Int) := by omega
      obtain ⟨b2, hb2⟩ : ∃ b2, b2 = b + 20 := ⟨_, rfl⟩
      have k1 : IntKind.i64.wrap ((b : Int) + 20) = (b2 : Int) := w64 (by omega) (by omega) (by omega)
      have e0 : R = R.take 20 ++ R.drop 20 := (List.take_append_drop 20 R).symm
      rw [e0] at hr he
      have HC := Lib.hid (HI.out D (R.take 20) (R.drop 20) a b wr ho hr hDa (by simp; omega))
      have HT := Lib.hid (And.intro hDa (And.intro hat (And.intro hD he)))
      have HF : Hid (b = a + 20 ∧ b2 = b + 20) := Lib.hid ⟨hb, hb2⟩
      clear hr ho hDa hat hD he e0 hb hb2
      go_wp2_with (fail)
      refine HC.out.mono ?_
      rintro e w2 ⟨rfl, ho2, U', hU', hr2⟩
      have HO2 := Lib.hid ho2
      have HN : Hid (Chk ky 20 (D ++ U') ∧ Eqf ky l ((D ++ U') ++ R.drop 20) ∧ IRow w2 base g n c ((D ++ U') ++ R.drop 20) ∧ (D ++ U').length = b ∧ b = (t + 1) * 20) := Lib.hid (by
        obtain ⟨h1, h2, h3, h4⟩ := HT.out
        have h5 := HF.out
        have h6 : U'.length = 20 := by rw [hU'.len]; simp; omega
        refine ⟨h3.snoc (t := t) (by omega) hU'.srt (by omega), ?_, by simpa using hr2, by simp; omega, by omega⟩
        rw [List.append_assoc]
        exact h4.trans ((Eqf.refl D).append (hU'.eqf.append (Eqf.refl _))))
      clear HC ho2 hr2 hU'
      go_wp2_with (fail)
      go_roundg (n - b)
      case measure => have := HF.out; omega
      case rel => exact ⟨b, b2, t + 1, _, _, rfl, rfl, rfl, HF.out.2, HN.out.2.2.2.1, HN.out.2.2.2.2, hlt, HN.out.1, HN.out.2.1, HN.out.2.2.1, HO2.out⟩
    · have k0 : ¬ (b : Int) ≤ (n : Int) := by omega
      have HC := Lib.hid (HI.out D R [] a n wr ho (by simpa using hr) hDa (by omega))
      have HT := Lib.hid (And.intro hDa (And.intro hat (And.intro hD (And.intro he (show R.length ≤ 20 by omega)))))
      clear hr ho hDa hat hD he hb
      go_wp2_with (fail)
      refine HC.out.mono ?_
      rintro e w2 ⟨rfl, ho2, U', hU', hr2⟩
      have HO2 := Lib.hid ho2
      have HN : Hid (Chk ky 20 (D ++ U') ∧ Eqf ky l (D ++ U') ∧ IRow w2 base g n c (D ++ U')) := Lib.hid (by
        obtain ⟨h1, h2, h3, h4, h5⟩ := HT.out
        exact ⟨h3.snoc (t := t) (by omega) hU'.srt (by rw [hU'.len]; omega), h4.trans ((Eqf.refl D).append hU'.eqf), by simpa using hr2⟩)
      clear HC ho2 hr2 hU' HT HI
      obtain ⟨l1, hl1⟩ : ∃ l1, l1 = D ++ U' := ⟨_, rfl⟩
      rw [← hl1] at HN
      clear hl1
      go_wp2_with (fail)
      go_loopg [6, 7, 8, 9] (n - 20) (fun gk s6 s7 s8 s9 wr => ∃ (q : Nat) (l2 : List (Int × Kept)), gk = n - q ∧ s6 = .int .i64 q ∧ 0 < q ∧ q ≤ 2 * n + 20 ∧ Chk ky q l2 ∧ Eqf ky l l2 ∧ IRow wr base g n c l2 ∧ Only (· = g) w wr)
      case atStart => exact ⟨20, l1, rfl, rfl, by omega, by omega, HN.out.1, HN.out.2.1, HN.out.2.2, HO2.out⟩
      case round =>
        clear HN HO2
        obtain ⟨q, l2, rfl, rfl, hq0, hqn, hch, he, hr, ho⟩ := hrel
        by_cases hlt : q < n
        · have k1 : (q : Int) < (n : Int) := by omega
          obtain ⟨qq, hqq⟩ : ∃ qq, qq = 2 * q := ⟨_, rfl⟩
          have k2 : IntKind.i64.wrap (2 * (q : Int)) = (qq : Int) := w64 (by omega) (by omega) (by omega)
          have k2' : IntKind.i64.wrap ((q : Int) * 2) = (qq : Int) := w64 (by omega) (by omega) (by omega)
          have HQ := Lib.hid hqq
          clear hqq
          have HN : Hid (Chk ky q l2 ∧ Eqf ky l l2 ∧ IRow wr base g n c l2 ∧ Only (· = g) w wr) := Lib.hid ⟨hch, he, hr, ho⟩
          clear hch he hr ho
          obtain ⟨w0, hw0⟩ : ∃ w0, w0 = wr := ⟨_, rfl⟩
          subst hw0
          go_wp2_with (fail)
          go_loopg [7, 8] n (fun gk s7 s8 wr => ∃ (a b t : Nat) (D R : List (Int × Kept)), gk = n - a ∧ s7 = .int .i64 a ∧ s8 = .int .i64 b ∧ b = a + qq ∧ D.length = a ∧ a = t * qq ∧ a ≤ n ∧ Chk ky qq D ∧ Chk ky q R ∧ Eqf ky l (D ++ R) ∧ IRow wr base g n c (D ++ R) ∧ Only (· = g) w wr)
          case atStart => exact ⟨0, qq, 0, [], l2, rfl, rfl, rfl, by omega, rfl, by omega, Nat.zero_le _, Chk.nil, HN.out.1, HN.out.2.1, HN.out.2.2.1, HN.out.2.2.2⟩
          case round =>
            clear HN
            obtain ⟨a, b, t, D, R, rfl, rfl, rfl, hb, hDa, hat, han, hD, hR, he, hr, ho⟩ := hrel
            have hRl : a + R.length = n := by have := hr.len; rw [List.length_append] at this; omega
            have hqq := HQ.out
            obtain ⟨m, hm⟩ : ∃ m, m = a + q := ⟨_, rfl⟩
            have k3 : IntKind.i64.wrap ((a : Int) + (q : Int)) = (m : Int) := w64 (by omega) (by omega) (by omega)
            by_cases hle : b ≤ n
            · have k4 : (b : Int) ≤ (n : Int) := by omega
              obtain ⟨b2, hb2⟩ : ∃ b2, b2 = b + qq := ⟨_, rfl⟩
              have k5 : IntKind.i64.wrap ((b : Int) + (qq : Int)) = (b2 : Int) := w64 (by omega) (by omega) (by omega)
              have e0 : R = R.take q ++ ((R.drop q).take q ++ (R.drop q).drop q) := by rw [List.take_append_drop, List.take_append_drop]
              have hlu : (R.take q).length = q := by simp; omega
              have hlv : ((R.drop q).take q).length = q := by simp; omega
              rw [e0] at hr he
              have HC := Lib.hid (HM.out D (R.take q) ((R.drop q).take q) ((R.drop q).drop q) a m b wr ho hr (by omega) (by omega) hR.first hR.rest.first hDa (by omega) (by omega))
              have HT := Lib.hid (And.intro hDa (And.intro hat (And.intro hD (And.intro hR.rest.rest (And.intro he (And.intro hlu hlv))))))
              have HF : Hid (b = a + qq ∧ b2 = b + qq) := Lib.hid ⟨hb, hb2⟩
              clear hr ho hDa hat hD hR he e0 hlu hlv hb hb2 hm hqq
              go_wp2_with (fail)
              refine HC.out.mono ?_
              rintro e w2 ⟨rfl, ho2, S, hS, hr2⟩
              have HO2 := Lib.hid ho2
              have HN : Hid (Chk ky qq (D ++ S) ∧ Chk ky q ((R.drop q).drop q) ∧ Eqf ky l ((D ++ S) ++ (R.drop q).drop q) ∧ IRow w2 base g n c ((D ++ S) ++ (R.drop q).drop q) ∧ (D ++ S).length = b ∧ b = (t + 1) * qq) := Lib.hid (by
                obtain ⟨h1, h2, h3, h4, h5, h6, h7⟩ := HT.out
                have h8 := HF.out
                have h9 := HQ.out
                have h10 : S.length = qq := by rw [hS.len, List.length_append]; omega
                refine ⟨h3.snoc (t := t) (by omega) hS.srt (by omega), h4, ?_, by simpa using hr2, by rw [List.length_append]; omega, by rw [Nat.add_mul]; omega⟩
                rw [List.append_assoc]
                refine h5.trans ((Eqf.refl D).append ?_)
                rw [← List.append_assoc]
                exact hS.eqf.append (Eqf.refl _))
              clear HC ho2 hr2 hS
              go_wp2_with (fail)
              go_roundg (n - b)
              case measure => have := HF.out; have := HQ.out; omega
              case rel => exact ⟨b, b2, t + 1, _, _, rfl, rfl, rfl, HF.out.2, HN.out.2.2.2.2.1, HN.out.2.2.2.2.2, hle, HN.out.1, HN.out.2.1, HN.out.2.2.1, HN.out.2.2.2.1, HO2.out⟩
            · have k4 : ¬ (b : Int) ≤ (n : Int) := by omega
              by_cases hmn : m < n
              · have k5 : (m : Int) < (n : Int) := by omega
                have e0 : R = R.take q ++ R.drop q := (List.take_append_drop q R).symm
                have hlu : (R.take q).length = q := by simp; omega
                have hlv : (R.drop q).length + m = n := by simp; omega
                rw [e0] at hr he
                have HC := Lib.hid (HM.out D (R.take q) (R.drop q) [] a m n wr ho (by simpa using hr) (by omega) (by omega) hR.first (hR.rest.short (by simp; omega)) hDa (by omega) (by omega))
                have HT := Lib.hid (And.intro hDa (And.intro hat (And.intro hD (And.intro he (show (R.take q ++ R.drop q).length ≤ qq by rw [List.length_append]; omega)))))
                clear hr ho hDa hat hD hR he e0 hlu hlv hb hm hqq
                go_wp2_with (fail)
                refine HC.out.mono ?_
                rintro e w2 ⟨rfl, ho2, S, hS, hr2⟩
                have HO2 := Lib.hid ho2
                have HN : Hid (Chk ky qq (D ++ S) ∧ Eqf ky l (D ++ S) ∧ IRow w2 base g n c (D ++ S)) := Lib.hid (by
                  obtain ⟨h1, h2, h3, h4, h5⟩ := HT.out
                  exact ⟨h3.snoc (t := t) (by omega) hS.srt (by rw [hS.len]; omega), h4.trans ((Eqf.refl D).append hS.eqf), by simpa using hr2⟩)
                clear HC ho2 hr2 hS HT
                go_wp2_with (fail)
                go_roundg (n - qq)
                case measure => have := HQ.out; omega
                case rel => exact ⟨qq, D ++ S, rfl, rfl, by have := HQ.out; omega, by have := HQ.out; omega, HN.out.1, HN.out.2.1, HN.out.2.2, HO2.out⟩
              · have k5 : ¬ (m : Int) < (n : Int) := by omega
                have HN : Hid (Chk ky qq (D ++ R) ∧ Eqf ky l (D ++ R) ∧ IRow wr base g n c (D ++ R) ∧ Only (· = g) w wr) := Lib.hid ⟨hD.snoc (t := t) (by omega) (hR.short (by omega)) (by omega), he, hr, ho⟩
                clear hr ho hDa hat hD hR he hb hm hqq
                go_wp2_with (fail)
                go_roundg (n - qq)
                case measure => have := HQ.out; omega
                case rel => exact ⟨qq, D ++ R, rfl, rfl, by have := HQ.out; omega, by have := HQ.out; omega, HN.out.1, HN.out.2.1, HN.out.2.2.1, HN.out.2.2.2⟩
        · have k1 : ¬ (q : Int) < (n : Int) := by omega
          have hl2 := hr.len
          have HE : Hid (Only (· = g) w wr ∧ ∃ l', Stb ky l l' ∧ IRow wr base g n c l') := Lib.hid ⟨ho, l2, ⟨hch.short (by omega), he, by omega⟩, hr⟩
          clear hr ho hch he hl2
          go_wp2_with (fail)
          go_end0
          exact ⟨rfl, HE.out⟩
set_option maxRecDepth 100000 in
theorem sortStable_any {base g n c : Nat} {l : List (Int × Kept)} {w : World} (hr : IRow w base g n c l) (hsz : n < 1152921504606846976) :
    Calls Try.prog 16 #[.slice (some ⟨g, 0, none⟩) n c, FV] w fun e w' =>
      e = .returned (.tuple #[]) ∧ Only (· = g) w w' ∧ ∃ l', Stb ky l l' ∧ IRow w' base g n c l' := by
  have HC := Lib.hid (stable_any hr hsz)
  unfold FV at HC ⊢
  clear hr
  go_enter Try.func16, Try.ntmps16
  go_wp2_with (fail)
  refine HC.out.mono ?_
  rintro e w2 ⟨rfl, h2⟩
  have HE := Lib.hid h2
  clear h2 HC
  go_wp2_with (fail)
  go_end0
  exact ⟨rfl, HE.out⟩
end Go.Proofs.Ytcdjmgmombaiaaa.stb
