/-
  The contract of symMergeCmpFunc at items: two sorted parts of a row, one behind the other, are merged in stable order.
-/
import Derived.Test.YtcdjmgmombaiaaaStbS
namespace Go.Proofs.Ytcdjmgmombaiaaa.stb
open Go.RowKit law bytes only flat ord obj
open aro (Kept zK kV)
open store (iE iE_len)
set_option linter.unusedVariables false

/-- the contract, for parts of at most N items in all -/
def SymC (N base g n c : Nat) : Prop := ∀ (X U V Y : List (Int × Kept)) (a m b : Nat) (w : World), U.length + V.length ≤ N → 0 < U.length → 0 < V.length → Srt ky U → Srt ky V → X.length = a → a + U.length = m → m + V.length = b → IRow w base g n c (X ++ (U ++ (V ++ Y))) →
  Calls Try.prog 26 #[.slice (some ⟨g, 0, none⟩) n c, .int .i64 a, .int .i64 m, .int .i64 b, FV] w (Merged base g n c X U V Y w)
/-- what the walk has behind the search: where the parts are cut -/
structure Cut (U V : List (Int × Kept)) (a m b mid s en su tv : Nat) : Prop where
  hs : s = a + su
  he : en = m + tv
  hsu : su ≤ U.length
  htv : tv ≤ V.length
  hm : a + U.length = m
  hb : m + V.length = b
  hmid : su + tv + a = mid
  hmb : mid < b
  ham : a < mid
  h1 : su = 0 ∨ tv = V.length ∨ ∃ x y, U[su - 1]? = some x ∧ V[tv]? = some y ∧ ky x ≤ ky y
  h2 : su = U.length ∨ tv = 0 ∨ ∃ x y, U[su]? = some x ∧ V[tv - 1]? = some y ∧ ky y < ky x
theorem Cut.still {U V : List (Int × Kept)} {a m b mid s en su tv : Nat} (h : Cut U V a m b mid s en su tv) {X Y : List (Int × Kept)} {w : World} {base g n c : Nat} (hn : ¬ (s < m ∧ m < en)) (hr : IRow w base g n c ((X ++ U.take su) ++ (U.drop su ++ (V.take tv ++ (V.drop tv ++ Y))))) : IRow w base g n c (X ++ (U.take su ++ (V.take tv ++ (U.drop su ++ (V.drop tv ++ Y))))) := by
  have a1 := h.hs; have a2 := h.he; have a3 := h.hsu; have a4 := h.htv; have a5 := h.hm
  by_cases e : s < m
  · obtain rfl : tv = 0 := by omega
    simpa using hr
  · rw [List.drop_of_length_le (l := U) (by omega)] at hr ⊢
    simpa using hr
theorem Cut.left {U V : List (Int × Kept)} {a m b mid s en su tv : Nat} (h : Cut U V a m b mid s en su tv) (hU : Srt ky U) (hV : Srt ky V) (hn : ¬ (a < s ∧ s < mid)) : Srt ky (U.take su ++ V.take tv) := by
  have a1 := h.hs; have a2 := h.hmid
  by_cases e : a < s
  · obtain rfl : tv = 0 := by omega
    simpa using hU.take su
  · obtain rfl : su = 0 := by omega
    simpa using hV.take tv
theorem Cut.right {U V : List (Int × Kept)} {a m b mid s en su tv : Nat} (h : Cut U V a m b mid s en su tv) (hU : Srt ky U) (hV : Srt ky V) (hn : ¬ (mid < en ∧ en < b)) : Srt ky (U.drop su ++ V.drop tv) := by
  have a1 := h.hs; have a2 := h.hmid; have a3 := h.he; have a4 := h.hm; have a5 := h.hb; have a6 := h.htv
  by_cases e : mid < en
  · rw [List.drop_of_length_le (l := V) (by omega)]
    simpa using hU.drop su
  · rw [List.drop_of_length_le (l := U) (by omega)]
    simpa using hV.drop tv
set_option maxRecDepth 100000 in
set_option maxHeartbeats 25600000 in
theorem sym_main {N base g n c : Nat} (HI : SymC N base g n c) (hsz : n < 2305843009213693952) {X U V Y : List (Int × Kept)} {a m b : Nat} {w : World} (hN : U.length + V.length ≤ N + 1) (hU2 : 1 < U.length) (hV2 : 1 < V.length) (hU : Srt ky U) (hV : Srt ky V) (ha : X.length = a) (hm : a + U.length = m) (hb : m + V.length = b) (hr : IRow w base g n c (X ++ (U ++ (V ++ Y)))) :
    Calls Try.prog 26 #[.slice (some ⟨g, 0, none⟩) n c, .int .i64 a, .int .i64 m, .int .i64 b, FV] w (Merged base g n c X U V Y w) := by
  have hbn : b ≤ n := by have := hr.len; simp at this; omega
  have HSYM : Hid (∀ (X U V Y : List (Int × Kept)) (a m b : Nat) (W : World), U.length + V.length ≤ N → 0 < U.length → 0 < V.length → Srt ky U → Srt ky V → X.length = a → a + U.length = m → m + V.length = b → Only (· = g) w W → IRow W base g n c (X ++ (U ++ (V ++ Y))) →
      Calls Try.prog 26 #[.slice (some ⟨g, 0, none⟩) n c, .int .i64 a, .int .i64 m, .int .i64 b, FV] W fun e w' => e = .returned (.tuple #[]) ∧ Only (· = g) w w' ∧ ∃ S, Stb ky (U ++ V) S ∧ IRow w' base g n c (X ++ (S ++ Y))) := Lib.hid fun X U V Y a m b W h1 h2 h3 h4 h5 h6 h7 h8 ho hr =>
    (HI X U V Y a m b W h1 h2 h3 h4 h5 h6 h7 h8 hr).mono fun e w' ⟨he, ho', hS⟩ => ⟨he, ho.trans ho' fun _ e => .inl e, hS⟩
  clear HI
  unfold FV at HSYM ⊢
  obtain ⟨ma, hma⟩ : ∃ ma, ma = U.length := ⟨_, rfl⟩
  obtain ⟨bm, hbm⟩ : ∃ bm, bm = V.length := ⟨_, rfl⟩
  have i0 : IntKind.i64.wrap ((m : Int) - (a : Int)) = (ma : Int) := w64 (by omega) (by omega) (by omega)
  have i1 : IntKind.i64.wrap ((b : Int) - (m : Int)) = (bm : Int) := w64 (by omega) (by omega) (by omega)
  have i2 : ((ma : Int) == 1) = false := by simp; omega
  have i2' : (ma == 1) = false := by simp; omega
  have i3 : ((bm : Int) == 1) = false := by simp; omega
  have i3' : (bm == 1) = false := by simp; omega
  obtain ⟨ab, hab⟩ : ∃ ab, ab = a + b := ⟨_, rfl⟩
  obtain ⟨mid, hmid⟩ : ∃ mid, mid = ab / 2 := ⟨_, rfl⟩
  obtain ⟨nn, hnn⟩ : ∃ nn, nn = mid + m := ⟨_, rfl⟩
  obtain ⟨p, hp⟩ : ∃ p, p = nn - 1 := ⟨_, rfl⟩
  have i4 : IntKind.i64.wrap ((a : Int) + (b : Int)) = (ab : Int) := w64 (by omega) (by omega) (by omega)
  have i5 : IntKind.u64.wrap (ab : Int) = (ab : Int) := u64_nat ab (by omega)
  have i6 : (ab : Int) / 2 = (mid : Int) := by omega
  have i6' : ab / 2 = mid := hmid.symm
  have i7 : IntKind.u64.wrap (mid : Int) = (mid : Int) := u64_nat mid (by omega)
  have i8 : IntKind.i64.wrap (mid : Int) = (mid : Int) := w64 rfl (by omega) (by omega)
  have i9 : IntKind.i64.wrap ((mid : Int) + (m : Int)) = (nn : Int) := w64 (by omega) (by omega) (by omega)
  have i10 : IntKind.i64.wrap ((nn : Int) - 1) = (p : Int) := w64 (by omega) (by omega) (by omega)
  obtain ⟨s0, r0, hbr, hsr, hs0, hr0, hcase⟩ : ∃ s0 r0 : Nat, ((mid < m ∧ IntKind.i64.wrap ((nn : Int) - (b : Int)) = (s0 : Int) ∧ r0 = mid) ∨ (¬ mid < m ∧ s0 = a ∧ r0 = m)) ∧ s0 ≤ r0 ∧ a ≤ s0 ∧ (r0 ≤ m ∧ r0 ≤ mid ∧ r0 + m ≤ nn ∧ nn ≤ s0 + b) ∧ ((s0 + b = nn ∧ r0 = mid) ∨ (s0 = a ∧ r0 = m)) := by
    by_cases h : mid < m
    · exact ⟨nn - b, mid, .inl ⟨h, w64 (by omega) (by omega) (by omega), rfl⟩, by omega, by omega, ⟨by omega, by omega, by omega, by omega⟩, .inl ⟨by omega, rfl⟩⟩
    · exact ⟨a, m, .inr ⟨h, rfl, rfl⟩, by omega, by omega, ⟨by omega, by omega, by omega, by omega⟩, .inr ⟨rfl, rfl⟩⟩
  have HA : Hid (X.length = a ∧ a + U.length = m ∧ m + V.length = b ∧ U.length + V.length ≤ N + 1 ∧ 1 < U.length ∧ 1 < V.length) := Lib.hid ⟨ha, hm, hb, hN, hU2, hV2⟩
  have HD : Hid (mid = (a + b) / 2 ∧ nn = mid + m ∧ p + 1 = nn ∧ (r0 ≤ m ∧ r0 ≤ mid ∧ r0 + m ≤ nn ∧ nn ≤ s0 + b) ∧ a ≤ s0 ∧ a < mid ∧ mid < b) := Lib.hid ⟨by omega, hnn, by omega, hr0, hs0, by omega, by omega⟩
  have HCS := Lib.hid hcase
  have HSRT := Lib.hid (And.intro hU hV)
  have HROT : Hid (∀ (X U V Y : List (Int × Kept)) (a m b : Nat) (W : World), Only (· = g) w W → IRow W base g n c (X ++ (U ++ (V ++ Y))) → X.length = a → a + U.length = m → m + V.length = b → 0 < U.length → 0 < V.length →
      Calls Try.prog 27 #[.slice (some ⟨g, 0, none⟩) n c, .int .i64 a, .int .i64 m, .int .i64 b, .func (.func 17) #[] #[]] W fun e w' => e = .returned (.tuple #[]) ∧ Only (· = g) w w' ∧ IRow w' base g n c (X ++ (V ++ (U ++ Y)))) := Lib.hid fun X U V Y a m b W ho hr h1 h2 h3 h4 h5 =>
    (rotate_any hr h1 h2 h3 h4 h5 _ hsz).mono fun e w' ⟨he, ho', hr'⟩ => ⟨he, ho.trans ho' fun _ e => .inl e, hr'⟩
  have hbs : b < 2305843009213693952 := by omega
  have hnns : nn < 4611686018427387904 := by omega
  have hnn1 : 1 ≤ nn := by omega
  clear hU hV ha hm hb hN hU2 hV2 hma hbm hab hmid hnn hp hs0 hr0 hcase
  go_enter Try.func26, Try.ntmps26
  rcases hbr with ⟨hmm, hb1, hb2⟩ | ⟨hmm, hb1, hb2⟩
  case inl =>
    have k0 : (mid : Int) < (m : Int) := by omega
    have hb3 := hb2.symm
    subst hb3
    go_wp2_with (fail)
    go_loopg [20, 21, 23] (mid - s0) (fun gk s20 s21 s23 wr => ∃ (s r : Nat), gk = r - s ∧ s20 = .int .i64 s ∧ s21 = .int .i64 r ∧ s0 ≤ s ∧ s ≤ r ∧ r ≤ mid ∧ (s = s0 ∨ ∃ x y, U[s - 1 - a]? = some x ∧ V[nn - s - m]? = some y ∧ ky x ≤ ky y) ∧ (r = mid ∨ ∃ x y, U[r - a]? = some x ∧ V[nn - r - 1 - m]? = some y ∧ ky y < ky x) ∧ IRow wr base g n c (X ++ (U ++ (V ++ Y))) ∧ Only (· = g) w wr)
    case atStart => exact ⟨_, _, rfl, rfl, rfl, Nat.le_refl _, hsr, Nat.le_refl _, .inl rfl, .inl rfl, hr, Only.refl _ _⟩
    case round =>
      clear hr
      obtain ⟨s, r, rfl, rfl, rfl, hs, hsr2, hrr, h1, h2, hr, ho⟩ := hrel
      by_cases hlt : s < r
      · have k1 : (s : Int) < (r : Int) := by omega
        obtain ⟨sr, hsrs⟩ : ∃ sr, sr = s + r := ⟨_, rfl⟩
        obtain ⟨h, hh⟩ : ∃ h, h = sr / 2 := ⟨_, rfl⟩
        have hD := HD.out
        have hA := HA.out
        have k2 : IntKind.i64.wrap ((s : Int) + (r : Int)) = (sr : Int) := w64 (by omega) (by omega) (by omega)
        have k3 : IntKind.u64.wrap (sr : Int) = (sr : Int) := u64_nat sr (by omega)
        have k4 : (sr : Int) / 2 = (h : Int) := by omega
        have k4' : sr / 2 = h := hh.symm
        have k5 : IntKind.u64.wrap (h : Int) = (h : Int) := u64_nat h (by omega)
        have k6 : IntKind.i64.wrap (h : Int) = (h : Int) := w64 rfl (by omega) (by omega)
        obtain ⟨q, hq⟩ : ∃ q, q + h = p := ⟨p - h, by omega⟩
        have k7 : IntKind.i64.wrap ((p : Int) - (h : Int)) = (q : Int) := w64 (by omega) (by omega) (by omega)
        have k8 : IntKind.i64.wrap ((h : Int) + 1) = ((h + 1 : Nat) : Int) := w64 (by omega) (by omega) (by omega)
        have k9 : (h : Int) < (n : Int) := by omega
        have k10 : (q : Int) < (n : Int) := by omega
        obtain ⟨hu, hhu⟩ : ∃ hu, hu + a = h := ⟨h - a, by omega⟩
        obtain ⟨qv, hqv⟩ : ∃ qv, qv + m = q := ⟨q - m, by omega⟩
        have hhU : hu < U.length := by omega
        have hqV : qv < V.length := by omega
        obtain ⟨x, hx⟩ : ∃ x, U[hu]? = some x := ⟨_, List.getElem?_eq_getElem hhU⟩
        obtain ⟨y, hy⟩ : ∃ y, V[qv]? = some y := ⟨_, List.getElem?_eq_getElem hqV⟩
        have hxh : (X ++ (U ++ (V ++ Y)))[h]? = some x := by rw [show h = X.length + hu by omega, at_part _ _ _ _ hhU, hx]
        have hyq : (X ++ (U ++ (V ++ Y)))[q]? = some y := by
          have e : X ++ (U ++ (V ++ Y)) = (X ++ U) ++ (V ++ Y) := by simp
          rw [e, show q = (X ++ U).length + qv by simp; omega, at_part _ _ _ _ hqV, hy]
        obtain ⟨hn1, hn2, rr, hl, HS, HCC, q0, q1, q2, q3, q4, q5, q6, q7⟩ := cmp_step hr hyq hxh
        have HR := Lib.hid hr
        have HO := Lib.hid ho
        have HL := Lib.hid hl
        have HT := Lib.hid (And.intro h1 h2)
        have HX : Hid (U[h - a]? = some x ∧ V[nn - h - 1 - m]? = some y) := Lib.hid ⟨by rw [show h - a = hu by omega]; exact hx, by rw [show nn - h - 1 - m = qv by omega]; exact hy⟩
        have HF : Hid (s ≤ h ∧ h < r) := Lib.hid ⟨by omega, by omega⟩
        clear hr ho hl h1 h2 hyq hxh hx hy hsrs hh hq hhu hqv hD hA hhU hqV
        obtain ⟨o, hd⟩ : ∃ o, decide (rr < 0) = o := ⟨_, rfl⟩
        rw [hd] at HL
        go_wp2_with (fail)
        go_region_held3 (fun W => W.cell? ⟨g, q * 4, none⟩ = some (.int .u64 y.1) ∧ W.cell? ⟨g, q * 4 + 1, none⟩ = some (.int .i64 y.2.x.tag) ∧ W.cell? ⟨g, q * 4 + 2, none⟩ = some (.slice y.2.A y.2.x.vec.length y.2.c) ∧ W.cell? ⟨g, q * 4 + 3, none⟩ = some (.string y.2.x.str) ∧ W.cell? ⟨g, h * 4, none⟩ = some (.int .u64 x.1) ∧ W.cell? ⟨g, h * 4 + 1, none⟩ = some (.int .i64 x.2.x.tag) ∧ W.cell? ⟨g, h * 4 + 2, none⟩ = some (.slice x.2.A x.2.x.vec.length x.2.c) ∧ W.cell? ⟨g, h * 4 + 3, none⟩ = some (.string x.2.x.str)) ((refine HS.out _ ?_; repeat' (first | (with_reducible exact Below.refl _ _) | (with_reducible assumption) | (with_reducible refine Below.drew ?_) | (with_reducible refine below_drewN' ?_ _))))
          (first
            | (go_at_call 17; (with_reducible refine (HCC.out _ (by repeat' (first | (with_reducible exact Below.refl _ _) | (with_reducible assumption) | (with_reducible refine Below.drew ?_) | (with_reducible refine below_drewN' ?_ _)))).mono ?_); rintro e w2 ⟨rfl, hb2⟩))
        have HR2 := Lib.hid (HR.out.below hb2 (Nat.le_refl _))
        have HO2 := Lib.hid (HO.out.on hb2)
        clear hb2 HCC HS HR q0 q1 q2 q3 q4 q5 q6 q7
        cases o with
        | true =>
          have hxy : ky y < ky x := by simpa using HL.out
          have HXY := Lib.hid hxy
          clear hd hxy
          go_wp2_with (fail)
          go_roundg (h - s)
          case measure => have := HF.out; omega
          case rel => exact ⟨s, h, rfl, rfl, rfl, hs, HF.out.1, by have := HF.out; omega, HT.out.1, .inr ⟨x, y, HX.out.1, HX.out.2, HXY.out⟩, HR2.out, HO2.out⟩
        | false =>
          have hxy : ky x ≤ ky y := by have := HL.out; simp at this; exact this
          have HXY := Lib.hid hxy
          clear hd hxy
          go_wp2_with (fail)
          go_roundg (r - (h + 1))
          case measure => have := HF.out; omega
          case rel => exact ⟨h + 1, r, rfl, by go_num, rfl, by have := HF.out; omega, by have := HF.out; omega, hrr, .inr ⟨x, y, HX.out.1, by rw [show nn - (h + 1) - m = nn - h - 1 - m by omega]; exact HX.out.2, HXY.out⟩, HT.out.2, HR2.out, HO2.out⟩
      · obtain rfl : s = r := by omega
        have k1 : ¬ (s : Int) < (s : Int) := by omega
        have hD := HD.out
        have hA := HA.out
        obtain ⟨en, hen⟩ : ∃ en, en + s = nn := ⟨nn - s, by omega⟩
        have k2 : IntKind.i64.wrap ((nn : Int) - (s : Int)) = (en : Int) := w64 (by omega) (by omega) (by omega)
        obtain ⟨su, hsu⟩ : ∃ su, a + su = s := ⟨s - a, by omega⟩
        obtain ⟨tv, htv⟩ : ∃ tv, m + tv = en := ⟨en - m, by omega⟩
        have hcs := HCS.out
        have hcut : Cut U V a m b mid s en su tv := by
          refine ⟨hsu.symm, htv.symm, by omega, by omega, hA.2.1, hA.2.2.1, by omega, hD.2.2.2.2.2.2, hD.2.2.2.2.2.1, ?_, ?_⟩
          · rcases h1 with e | ⟨x, y, e1, e2, e3⟩
            · rcases hcs with ⟨f1, f2⟩ | ⟨f1, f2⟩
              · exact .inr (.inl (by omega))
              · exact .inl (by omega)
            · exact .inr (.inr ⟨x, y, by rw [← e1]; congr 1; omega, by rw [← e2]; congr 1; omega, e3⟩)
          · rcases h2 with e | ⟨x, y, e1, e2, e3⟩
            · rcases hcs with ⟨f1, f2⟩ | ⟨f1, f2⟩
              · exact .inr (.inl (by omega))
              · exact .inl (by omega)
            · exact .inr (.inr ⟨x, y, by rw [← e1]; congr 1; omega, by rw [← e2]; congr 1; omega, e3⟩)
        have HCUT := Lib.hid hcut
        have HO := Lib.hid ho
        have hrL : IRow wr base g n c ((X ++ U.take su) ++ (U.drop su ++ (V.take tv ++ (V.drop tv ++ Y)))) := by
          rw [← List.append_assoc (V.take tv), List.take_append_drop, List.append_assoc X, ← List.append_assoc (U.take su), List.take_append_drop]; exact hr
        have HR := Lib.hid hrL
        clear hr ho hrL h1 h2 hcs hcut hen hsu htv hD hA
        have hleaf : (su < U.length ∧ 0 < tv ∧ 0 < su ∧ tv < V.length) ∨ (su < U.length ∧ 0 < tv ∧ 0 < su ∧ tv = V.length) ∨ (su < U.length ∧ 0 < tv ∧ su = 0 ∧ tv < V.length) ∨ (su < U.length ∧ 0 < tv ∧ su = 0 ∧ tv = V.length) ∨ (su < U.length ∧ tv = 0) ∨ (su = U.length ∧ 0 < tv) ∨ (su = U.length ∧ tv = 0) := by
          have h := HCUT.out
          have c3 := h.hsu; have c4 := h.htv; have c8 := HA.out
          omega
        rcases hleaf with hlf | hlf | hlf | hlf | hlf | hlf | hlf
        · have hq := hlf
          have hC := HCUT.out
          have c1 := hC.hs; have c2 := hC.he; have c3 := hC.hsu; have c4 := hC.htv; have c5 := hC.hm; have c6 := hC.hb; have c7 := hC.hmid; have c9 := hC.ham; have c10 := hC.hmb; have c8 := HA.out
          have t0 : s < m := by omega
          have k3 : (s : Int) < (m : Int) := by omega
          have t1 : m < en := by omega
          have k4 : (m : Int) < (en : Int) := by omega
          have t2 : a < s := by omega
          have k5 : (a : Int) < (s : Int) := by omega
          have t3 : s < mid := by omega
          have k6 : (s : Int) < (mid : Int) := by omega
          have t4 : mid < en := by omega
          have k7 : (mid : Int) < (en : Int) := by omega
          have t5 : en < b := by omega
          have k8 : (en : Int) < (b : Int) := by omega
          clear hq hlf hC c1 c2 c3 c4 c5 c6 c7 c8 c9 c10
          have HC := Lib.hid (HROT.out (X ++ U.take su) (U.drop su) (V.take tv) (V.drop tv ++ Y) s m en wr HO.out HR.out (by have h := HCUT.out; have := h.hs; have := h.hsu; have := HA.out; simp; omega) (by have h := HCUT.out; have := h.hs; have := h.hm; have := h.hsu; simp; omega) (by have h := HCUT.out; have := h.he; have := h.htv; simp; omega) (by have h := HCUT.out; have := h.hs; have := h.hm; simp; omega) (by have h := HCUT.out; have := h.he; have := h.htv; simp; omega))
          clear HO HR
          go_wp2_with (fail)
          refine HC.out.mono ?_
          rintro e w2 ⟨rfl, ho2, hr2⟩
          have HO2 := Lib.hid ho2
          have HR2 : Hid (IRow w2 base g n c (X ++ (U.take su ++ (V.take tv ++ (U.drop su ++ (V.drop tv ++ Y)))))) := Lib.hid (by simpa using hr2)
          clear HC ho2 hr2
          have HC := Lib.hid (HSYM.out X (U.take su) (V.take tv) (U.drop su ++ (V.drop tv ++ Y)) a s mid w2 (by have h := HCUT.out; have := h.hs; have := h.hsu; have := h.htv; have := h.hmid; have := h.hmb; have := h.hm; have := h.hb; have := HA.out; simp; omega) (by have h := HCUT.out; have := h.hs; have := h.hsu; have := HA.out; simp; omega) (by have h := HCUT.out; have := h.hs; have := h.htv; have := h.hmid; simp; omega) (HSRT.out.1.take _) (HSRT.out.2.take _) HA.out.1 (by have h := HCUT.out; have := h.hs; have := h.hsu; simp; omega) (by have h := HCUT.out; have := h.hs; have := h.htv; have := h.hmid; simp; omega) HO2.out HR2.out)
          clear HO2 HR2
          go_wp2_with (fail)
          refine HC.out.mono ?_
          rintro e w3 ⟨rfl, ho3, S1, hS1, hr3⟩
          have HO3 := Lib.hid ho3
          have HR3 := Lib.hid hr3
          have HS1 := Lib.hid hS1
          clear HC ho3 hr3 hS1
          have HXL : Hid ((X ++ S1).length = mid) := Lib.hid (by have h := HCUT.out; have h1 := HS1.out.len; have := h.hmid; have := h.hsu; have := h.htv; have := HA.out; rw [List.length_append] at h1 ⊢; rw [List.length_take, List.length_take] at h1; omega)
          have HC := Lib.hid (HSYM.out (X ++ S1) (U.drop su) (V.drop tv) Y mid en b w3 (by have h := HCUT.out; have := h.hs; have := h.hsu; have := h.htv; have := h.hmid; have := h.ham; have := h.hm; have := h.hb; have := HA.out; simp; omega) (by have h := HCUT.out; have := h.hs; have := h.hmid; have := h.he; have := h.hm; simp; omega) (by have h := HCUT.out; have := h.he; have := h.hb; simp; omega) (HSRT.out.1.drop _) (HSRT.out.2.drop _) HXL.out (by have h := HCUT.out; have := h.hs; have := h.hmid; have := h.he; have := h.hm; have := h.hsu; simp; omega) (by have h := HCUT.out; have := h.he; have := h.hb; have := h.htv; simp; omega) HO3.out (by simpa using HR3.out))
          clear HO3 HR3
          go_wp2_with (fail)
          refine HC.out.mono ?_
          rintro e w4 ⟨rfl, ho4, S2, hS2, hr4⟩
          have HE : Hid (Merged base g n c X U V Y w (.returned (.tuple #[])) w4) := Lib.hid ⟨rfl, ho4, S1 ++ S2, stb_sym HSRT.out.1 HSRT.out.2 HCUT.out.hsu HCUT.out.htv HCUT.out.h1 HCUT.out.h2 HS1.out hS2, by simpa using hr4⟩
          clear ho4 hr4 hS2 HC
          go_wp2_with (fail)
          first
            | (go_end0; exact HE.out)
            | exact HE.out
        · have hq := hlf
          have hC := HCUT.out
          have c1 := hC.hs; have c2 := hC.he; have c3 := hC.hsu; have c4 := hC.htv; have c5 := hC.hm; have c6 := hC.hb; have c7 := hC.hmid; have c9 := hC.ham; have c10 := hC.hmb; have c8 := HA.out
          have t0 : s < m := by omega
          have k3 : (s : Int) < (m : Int) := by omega
          have t1 : m < en := by omega
          have k4 : (m : Int) < (en : Int) := by omega
          have t2 : a < s := by omega
          have k5 : (a : Int) < (s : Int) := by omega
          have t3 : s < mid := by omega
          have k6 : (s : Int) < (mid : Int) := by omega
          have t4 : mid < en := by omega
          have k7 : (mid : Int) < (en : Int) := by omega
          have t5 : ¬ en < b := by omega
          have k8 : ¬ (en : Int) < (b : Int) := by omega
          clear hq hlf hC c1 c2 c3 c4 c5 c6 c7 c8 c9 c10
          have HC := Lib.hid (HROT.out (X ++ U.take su) (U.drop su) (V.take tv) (V.drop tv ++ Y) s m en wr HO.out HR.out (by have h := HCUT.out; have := h.hs; have := h.hsu; have := HA.out; simp; omega) (by have h := HCUT.out; have := h.hs; have := h.hm; have := h.hsu; simp; omega) (by have h := HCUT.out; have := h.he; have := h.htv; simp; omega) (by have h := HCUT.out; have := h.hs; have := h.hm; simp; omega) (by have h := HCUT.out; have := h.he; have := h.htv; simp; omega))
          clear HO HR
          go_wp2_with (fail)
          refine HC.out.mono ?_
          rintro e w2 ⟨rfl, ho2, hr2⟩
          have HO2 := Lib.hid ho2
          have HR2 : Hid (IRow w2 base g n c (X ++ (U.take su ++ (V.take tv ++ (U.drop su ++ (V.drop tv ++ Y)))))) := Lib.hid (by simpa using hr2)
          clear HC ho2 hr2
          have HC := Lib.hid (HSYM.out X (U.take su) (V.take tv) (U.drop su ++ (V.drop tv ++ Y)) a s mid w2 (by have h := HCUT.out; have := h.hs; have := h.hsu; have := h.htv; have := h.hmid; have := h.hmb; have := h.hm; have := h.hb; have := HA.out; simp; omega) (by have h := HCUT.out; have := h.hs; have := h.hsu; have := HA.out; simp; omega) (by have h := HCUT.out; have := h.hs; have := h.htv; have := h.hmid; simp; omega) (HSRT.out.1.take _) (HSRT.out.2.take _) HA.out.1 (by have h := HCUT.out; have := h.hs; have := h.hsu; simp; omega) (by have h := HCUT.out; have := h.hs; have := h.htv; have := h.hmid; simp; omega) HO2.out HR2.out)
          clear HO2 HR2
          go_wp2_with (fail)
          refine HC.out.mono ?_
          rintro e w3 ⟨rfl, ho3, S1, hS1, hr3⟩
          have HO3 := Lib.hid ho3
          have HR3 := Lib.hid hr3
          have HS1 := Lib.hid hS1
          clear HC ho3 hr3 hS1
          have HE : Hid (Merged base g n c X U V Y w (.returned (.tuple #[])) w3) := Lib.hid ⟨rfl, HO3.out, S1 ++ (U.drop su ++ V.drop tv), stb_sym HSRT.out.1 HSRT.out.2 HCUT.out.hsu HCUT.out.htv HCUT.out.h1 HCUT.out.h2 HS1.out (Stb.of_srt (HCUT.out.right HSRT.out.1 HSRT.out.2 (by omega))), by simpa using HR3.out⟩
          clear HO3 HR3
          go_wp2_with (fail)
          first
            | (go_end0; exact HE.out)
            | exact HE.out
        · have hq := hlf
          have hC := HCUT.out
          have c1 := hC.hs; have c2 := hC.he; have c3 := hC.hsu; have c4 := hC.htv; have c5 := hC.hm; have c6 := hC.hb; have c7 := hC.hmid; have c9 := hC.ham; have c10 := hC.hmb; have c8 := HA.out
          have t0 : s < m := by omega
          have k3 : (s : Int) < (m : Int) := by omega
          have t1 : m < en := by omega
          have k4 : (m : Int) < (en : Int) := by omega
          have t2 : ¬ a < s := by omega
          have k5 : ¬ (a : Int) < (s : Int) := by omega
          have t4 : mid < en := by omega
          have k7 : (mid : Int) < (en : Int) := by omega
          have t5 : en < b := by omega
          have k8 : (en : Int) < (b : Int) := by omega
          clear hq hlf hC c1 c2 c3 c4 c5 c6 c7 c8 c9 c10
          have HC := Lib.hid (HROT.out (X ++ U.take su) (U.drop su) (V.take tv) (V.drop tv ++ Y) s m en wr HO.out HR.out (by have h := HCUT.out; have := h.hs; have := h.hsu; have := HA.out; simp; omega) (by have h := HCUT.out; have := h.hs; have := h.hm; have := h.hsu; simp; omega) (by have h := HCUT.out; have := h.he; have := h.htv; simp; omega) (by have h := HCUT.out; have := h.hs; have := h.hm; simp; omega) (by have h := HCUT.out; have := h.he; have := h.htv; simp; omega))
          clear HO HR
          go_wp2_with (fail)
          refine HC.out.mono ?_
          rintro e w2 ⟨rfl, ho2, hr2⟩
          have HO2 := Lib.hid ho2
          have HR2 : Hid (IRow w2 base g n c (X ++ (U.take su ++ (V.take tv ++ (U.drop su ++ (V.drop tv ++ Y)))))) := Lib.hid (by simpa using hr2)
          clear HC ho2 hr2
          have HS1 : Hid (Stb ky (U.take su ++ V.take tv) (U.take su ++ V.take tv)) := Lib.hid (Stb.of_srt (HCUT.out.left HSRT.out.1 HSRT.out.2 (by omega)))
          have HO3 := HO2
          have HR3 : Hid (IRow w2 base g n c (X ++ ((U.take su ++ V.take tv) ++ (U.drop su ++ (V.drop tv ++ Y))))) := Lib.hid (by simpa using HR2.out)
          obtain ⟨S1, HSE⟩ : ∃ S1, S1 = U.take su ++ V.take tv := ⟨_, rfl⟩
          have HS1 : Hid (Stb ky (U.take su ++ V.take tv) S1) := Lib.hid (by rw [HSE]; exact HS1.out)
          have HR3 : Hid (IRow w2 base g n c (X ++ (S1 ++ (U.drop su ++ (V.drop tv ++ Y))))) := Lib.hid (by rw [HSE]; exact HR3.out)
          clear HO2 HR2 HSE
          have HXL : Hid ((X ++ S1).length = mid) := Lib.hid (by have h := HCUT.out; have h1 := HS1.out.len; have := h.hmid; have := h.hsu; have := h.htv; have := HA.out; rw [List.length_append] at h1 ⊢; rw [List.length_take, List.length_take] at h1; omega)
          have HC := Lib.hid (HSYM.out (X ++ S1) (U.drop su) (V.drop tv) Y mid en b w2 (by have h := HCUT.out; have := h.hs; have := h.hsu; have := h.htv; have := h.hmid; have := h.ham; have := h.hm; have := h.hb; have := HA.out; simp; omega) (by have h := HCUT.out; have := h.hs; have := h.hmid; have := h.he; have := h.hm; simp; omega) (by have h := HCUT.out; have := h.he; have := h.hb; simp; omega) (HSRT.out.1.drop _) (HSRT.out.2.drop _) HXL.out (by have h := HCUT.out; have := h.hs; have := h.hmid; have := h.he; have := h.hm; have := h.hsu; simp; omega) (by have h := HCUT.out; have := h.he; have := h.hb; have := h.htv; simp; omega) HO3.out (by simpa using HR3.out))
          clear HO3 HR3
          go_wp2_with (fail)
          refine HC.out.mono ?_
          rintro e w4 ⟨rfl, ho4, S2, hS2, hr4⟩
          have HE : Hid (Merged base g n c X U V Y w (.returned (.tuple #[])) w4) := Lib.hid ⟨rfl, ho4, S1 ++ S2, stb_sym HSRT.out.1 HSRT.out.2 HCUT.out.hsu HCUT.out.htv HCUT.out.h1 HCUT.out.h2 HS1.out hS2, by simpa using hr4⟩
          clear ho4 hr4 hS2 HC
          go_wp2_with (fail)
          first
            | (go_end0; exact HE.out)
            | exact HE.out
        · have hq := hlf
          have hC := HCUT.out
          have c1 := hC.hs; have c2 := hC.he; have c3 := hC.hsu; have c4 := hC.htv; have c5 := hC.hm; have c6 := hC.hb; have c7 := hC.hmid; have c9 := hC.ham; have c10 := hC.hmb; have c8 := HA.out
          have t0 : s < m := by omega
          have k3 : (s : Int) < (m : Int) := by omega
          have t1 : m < en := by omega
          have k4 : (m : Int) < (en : Int) := by omega
          have t2 : ¬ a < s := by omega
          have k5 : ¬ (a : Int) < (s : Int) := by omega
          have t4 : mid < en := by omega
          have k7 : (mid : Int) < (en : Int) := by omega
          have t5 : ¬ en < b := by omega
          have k8 : ¬ (en : Int) < (b : Int) := by omega
          clear hq hlf hC c1 c2 c3 c4 c5 c6 c7 c8 c9 c10
          have HC := Lib.hid (HROT.out (X ++ U.take su) (U.drop su) (V.take tv) (V.drop tv ++ Y) s m en wr HO.out HR.out (by have h := HCUT.out; have := h.hs; have := h.hsu; have := HA.out; simp; omega) (by have h := HCUT.out; have := h.hs; have := h.hm; have := h.hsu; simp; omega) (by have h := HCUT.out; have := h.he; have := h.htv; simp; omega) (by have h := HCUT.out; have := h.hs; have := h.hm; simp; omega) (by have h := HCUT.out; have := h.he; have := h.htv; simp; omega))
          clear HO HR
          go_wp2_with (fail)
          refine HC.out.mono ?_
          rintro e w2 ⟨rfl, ho2, hr2⟩
          have HO2 := Lib.hid ho2
          have HR2 : Hid (IRow w2 base g n c (X ++ (U.take su ++ (V.take tv ++ (U.drop su ++ (V.drop tv ++ Y)))))) := Lib.hid (by simpa using hr2)
          clear HC ho2 hr2
          have HS1 : Hid (Stb ky (U.take su ++ V.take tv) (U.take su ++ V.take tv)) := Lib.hid (Stb.of_srt (HCUT.out.left HSRT.out.1 HSRT.out.2 (by omega)))
          have HO3 := HO2
          have HR3 : Hid (IRow w2 base g n c (X ++ ((U.take su ++ V.take tv) ++ (U.drop su ++ (V.drop tv ++ Y))))) := Lib.hid (by simpa using HR2.out)
          obtain ⟨S1, HSE⟩ : ∃ S1, S1 = U.take su ++ V.take tv := ⟨_, rfl⟩
          have HS1 : Hid (Stb ky (U.take su ++ V.take tv) S1) := Lib.hid (by rw [HSE]; exact HS1.out)
          have HR3 : Hid (IRow w2 base g n c (X ++ (S1 ++ (U.drop su ++ (V.drop tv ++ Y))))) := Lib.hid (by rw [HSE]; exact HR3.out)
          clear HO2 HR2 HSE
          have HE : Hid (Merged base g n c X U V Y w (.returned (.tuple #[])) w2) := Lib.hid ⟨rfl, HO3.out, S1 ++ (U.drop su ++ V.drop tv), stb_sym HSRT.out.1 HSRT.out.2 HCUT.out.hsu HCUT.out.htv HCUT.out.h1 HCUT.out.h2 HS1.out (Stb.of_srt (HCUT.out.right HSRT.out.1 HSRT.out.2 (by omega))), by simpa using HR3.out⟩
          clear HO3 HR3
          go_wp2_with (fail)
          first
            | (go_end0; exact HE.out)
            | exact HE.out
        · have hq := hlf
          have hC := HCUT.out
          have c1 := hC.hs; have c2 := hC.he; have c3 := hC.hsu; have c4 := hC.htv; have c5 := hC.hm; have c6 := hC.hb; have c7 := hC.hmid; have c9 := hC.ham; have c10 := hC.hmb; have c8 := HA.out
          have t0 : s < m := by omega
          have k3 : (s : Int) < (m : Int) := by omega
          have t1 : ¬ m < en := by omega
          have k4 : ¬ (m : Int) < (en : Int) := by omega
          have t2 : a < s := by omega
          have k5 : (a : Int) < (s : Int) := by omega
          have t3 : ¬ s < mid := by omega
          have k6 : ¬ (s : Int) < (mid : Int) := by omega
          have t4 : mid < en := by omega
          have k7 : (mid : Int) < (en : Int) := by omega
          have t5 : en < b := by omega
          have k8 : (en : Int) < (b : Int) := by omega
          clear hq hlf hC c1 c2 c3 c4 c5 c6 c7 c8 c9 c10
          have HO2 := HO
          have HR2 : Hid (IRow wr base g n c (X ++ (U.take su ++ (V.take tv ++ (U.drop su ++ (V.drop tv ++ Y)))))) := Lib.hid (HCUT.out.still (by omega) HR.out)
          clear HR HO
          have HS1 : Hid (Stb ky (U.take su ++ V.take tv) (U.take su ++ V.take tv)) := Lib.hid (Stb.of_srt (HCUT.out.left HSRT.out.1 HSRT.out.2 (by omega)))
          have HO3 := HO2
          have HR3 : Hid (IRow wr base g n c (X ++ ((U.take su ++ V.take tv) ++ (U.drop su ++ (V.drop tv ++ Y))))) := Lib.hid (by simpa using HR2.out)
          obtain ⟨S1, HSE⟩ : ∃ S1, S1 = U.take su ++ V.take tv := ⟨_, rfl⟩
          have HS1 : Hid (Stb ky (U.take su ++ V.take tv) S1) := Lib.hid (by rw [HSE]; exact HS1.out)
          have HR3 : Hid (IRow wr base g n c (X ++ (S1 ++ (U.drop su ++ (V.drop tv ++ Y))))) := Lib.hid (by rw [HSE]; exact HR3.out)
          clear HO2 HR2 HSE
          have HXL : Hid ((X ++ S1).length = mid) := Lib.hid (by have h := HCUT.out; have h1 := HS1.out.len; have := h.hmid; have := h.hsu; have := h.htv; have := HA.out; rw [List.length_append] at h1 ⊢; rw [List.length_take, List.length_take] at h1; omega)
          have HC := Lib.hid (HSYM.out (X ++ S1) (U.drop su) (V.drop tv) Y mid en b wr (by have h := HCUT.out; have := h.hs; have := h.hsu; have := h.htv; have := h.hmid; have := h.ham; have := h.hm; have := h.hb; have := HA.out; simp; omega) (by have h := HCUT.out; have := h.hs; have := h.hmid; have := h.he; have := h.hm; simp; omega) (by have h := HCUT.out; have := h.he; have := h.hb; simp; omega) (HSRT.out.1.drop _) (HSRT.out.2.drop _) HXL.out (by have h := HCUT.out; have := h.hs; have := h.hmid; have := h.he; have := h.hm; have := h.hsu; simp; omega) (by have h := HCUT.out; have := h.he; have := h.hb; have := h.htv; simp; omega) HO3.out (by simpa using HR3.out))
          clear HO3 HR3
          go_wp2_with (fail)
          refine HC.out.mono ?_
          rintro e w4 ⟨rfl, ho4, S2, hS2, hr4⟩
          have HE : Hid (Merged base g n c X U V Y w (.returned (.tuple #[])) w4) := Lib.hid ⟨rfl, ho4, S1 ++ S2, stb_sym HSRT.out.1 HSRT.out.2 HCUT.out.hsu HCUT.out.htv HCUT.out.h1 HCUT.out.h2 HS1.out hS2, by simpa using hr4⟩
          clear ho4 hr4 hS2 HC
          go_wp2_with (fail)
          first
            | (go_end0; exact HE.out)
            | exact HE.out
        · have hq := hlf
          have hC := HCUT.out
          have c1 := hC.hs; have c2 := hC.he; have c3 := hC.hsu; have c4 := hC.htv; have c5 := hC.hm; have c6 := hC.hb; have c7 := hC.hmid; have c9 := hC.ham; have c10 := hC.hmb; have c8 := HA.out
          have t0 : ¬ s < m := by omega
          have k3 : ¬ (s : Int) < (m : Int) := by omega
          have t2 : a < s := by omega
          have k5 : (a : Int) < (s : Int) := by omega
          have t3 : s < mid := by omega
          have k6 : (s : Int) < (mid : Int) := by omega
          have t4 : ¬ mid < en := by omega
          have k7 : ¬ (mid : Int) < (en : Int) := by omega
          clear hq hlf hC c1 c2 c3 c4 c5 c6 c7 c8 c9 c10
          have HO2 := HO
          have HR2 : Hid (IRow wr base g n c (X ++ (U.take su ++ (V.take tv ++ (U.drop su ++ (V.drop tv ++ Y)))))) := Lib.hid (HCUT.out.still (by omega) HR.out)
          clear HR HO
          have HC := Lib.hid (HSYM.out X (U.take su) (V.take tv) (U.drop su ++ (V.drop tv ++ Y)) a s mid wr (by have h := HCUT.out; have := h.hs; have := h.hsu; have := h.htv; have := h.hmid; have := h.hmb; have := h.hm; have := h.hb; have := HA.out; simp; omega) (by have h := HCUT.out; have := h.hs; have := h.hsu; have := HA.out; simp; omega) (by have h := HCUT.out; have := h.hs; have := h.htv; have := h.hmid; simp; omega) (HSRT.out.1.take _) (HSRT.out.2.take _) HA.out.1 (by have h := HCUT.out; have := h.hs; have := h.hsu; simp; omega) (by have h := HCUT.out; have := h.hs; have := h.htv; have := h.hmid; simp; omega) HO2.out HR2.out)
          clear HO2 HR2
          go_wp2_with (fail)
          refine HC.out.mono ?_
          rintro e w3 ⟨rfl, ho3, S1, hS1, hr3⟩
          have HO3 := Lib.hid ho3
          have HR3 := Lib.hid hr3
          have HS1 := Lib.hid hS1
          clear HC ho3 hr3 hS1
          have HE : Hid (Merged base g n c X U V Y w (.returned (.tuple #[])) w3) := Lib.hid ⟨rfl, HO3.out, S1 ++ (U.drop su ++ V.drop tv), stb_sym HSRT.out.1 HSRT.out.2 HCUT.out.hsu HCUT.out.htv HCUT.out.h1 HCUT.out.h2 HS1.out (Stb.of_srt (HCUT.out.right HSRT.out.1 HSRT.out.2 (by omega))), by simpa using HR3.out⟩
          clear HO3 HR3
          go_wp2_with (fail)
          first
            | (go_end0; exact HE.out)
            | exact HE.out
        · have hq := hlf
          have hC := HCUT.out
          have c1 := hC.hs; have c2 := hC.he; have c3 := hC.hsu; have c4 := hC.htv; have c5 := hC.hm; have c6 := hC.hb; have c7 := hC.hmid; have c9 := hC.ham; have c10 := hC.hmb; have c8 := HA.out
          have t0 : ¬ s < m := by omega
          have k3 : ¬ (s : Int) < (m : Int) := by omega
          have t2 : a < s := by omega
          have k5 : (a : Int) < (s : Int) := by omega
          have t3 : ¬ s < mid := by omega
          have k6 : ¬ (s : Int) < (mid : Int) := by omega
          have t4 : ¬ mid < en := by omega
          have k7 : ¬ (mid : Int) < (en : Int) := by omega
          clear hq hlf hC c1 c2 c3 c4 c5 c6 c7 c8 c9 c10
          have HO2 := HO
          have HR2 : Hid (IRow wr base g n c (X ++ (U.take su ++ (V.take tv ++ (U.drop su ++ (V.drop tv ++ Y)))))) := Lib.hid (HCUT.out.still (by omega) HR.out)
          clear HR HO
          have HS1 : Hid (Stb ky (U.take su ++ V.take tv) (U.take su ++ V.take tv)) := Lib.hid (Stb.of_srt (HCUT.out.left HSRT.out.1 HSRT.out.2 (by omega)))
          have HO3 := HO2
          have HR3 : Hid (IRow wr base g n c (X ++ ((U.take su ++ V.take tv) ++ (U.drop su ++ (V.drop tv ++ Y))))) := Lib.hid (by simpa using HR2.out)
          obtain ⟨S1, HSE⟩ : ∃ S1, S1 = U.take su ++ V.take tv := ⟨_, rfl⟩
          have HS1 : Hid (Stb ky (U.take su ++ V.take tv) S1) := Lib.hid (by rw [HSE]; exact HS1.out)
          have HR3 : Hid (IRow wr base g n c (X ++ (S1 ++ (U.drop su ++ (V.drop tv ++ Y))))) := Lib.hid (by rw [HSE]; exact HR3.out)
          clear HO2 HR2 HSE
          have HE : Hid (Merged base g n c X U V Y w (.returned (.tuple #[])) wr) := Lib.hid ⟨rfl, HO3.out, S1 ++ (U.drop su ++ V.drop tv), stb_sym HSRT.out.1 HSRT.out.2 HCUT.out.hsu HCUT.out.htv HCUT.out.h1 HCUT.out.h2 HS1.out (Stb.of_srt (HCUT.out.right HSRT.out.1 HSRT.out.2 (by omega))), by simpa using HR3.out⟩
          clear HO3 HR3
          go_wp2_with (fail)
          first
            | (go_end0; exact HE.out)
            | exact HE.out
  case inr =>
    have k0 : ¬ (mid : Int) < (m : Int) := by omega
    have hb3 := hb1.symm
    have hb4 := hb2.symm
    subst hb3 hb4
    go_wp2_with (fail)
    go_loopg [20, 21, 23] (m - a) (fun gk s20 s21 s23 wr => ∃ (s r : Nat), gk = r - s ∧ s20 = .int .i64 s ∧ s21 = .int .i64 r ∧ a ≤ s ∧ s ≤ r ∧ r ≤ m ∧ (s = a ∨ ∃ x y, U[s - 1 - a]? = some x ∧ V[nn - s - m]? = some y ∧ ky x ≤ ky y) ∧ (r = m ∨ ∃ x y, U[r - a]? = some x ∧ V[nn - r - 1 - m]? = some y ∧ ky y < ky x) ∧ IRow wr base g n c (X ++ (U ++ (V ++ Y))) ∧ Only (· = g) w wr)
    case atStart => exact ⟨_, _, rfl, rfl, rfl, Nat.le_refl _, hsr, Nat.le_refl _, .inl rfl, .inl rfl, hr, Only.refl _ _⟩
    case round =>
      clear hr
      obtain ⟨s, r, rfl, rfl, rfl, hs, hsr2, hrr, h1, h2, hr, ho⟩ := hrel
      by_cases hlt : s < r
      · have k1 : (s : Int) < (r : Int) := by omega
        obtain ⟨sr, hsrs⟩ : ∃ sr, sr = s + r := ⟨_, rfl⟩
        obtain ⟨h, hh⟩ : ∃ h, h = sr / 2 := ⟨_, rfl⟩
        have hD := HD.out
        have hA := HA.out
        have k2 : IntKind.i64.wrap ((s : Int) + (r : Int)) = (sr : Int) := w64 (by omega) (by omega) (by omega)
        have k3 : IntKind.u64.wrap (sr : Int) = (sr : Int) := u64_nat sr (by omega)
        have k4 : (sr : Int) / 2 = (h : Int) := by omega
        have k4' : sr / 2 = h := hh.symm
        have k5 : IntKind.u64.wrap (h : Int) = (h : Int) := u64_nat h (by omega)
        have k6 : IntKind.i64.wrap (h : Int) = (h : Int) := w64 rfl (by omega) (by omega)
        obtain ⟨q, hq⟩ : ∃ q, q + h = p := ⟨p - h, by omega⟩
        have k7 : IntKind.i64.wrap ((p : Int) - (h : Int)) = (q : Int) := w64 (by omega) (by omega) (by omega)
        have k8 : IntKind.i64.wrap ((h : Int) + 1) = ((h + 1 : Nat) : Int) := w64 (by omega) (by omega) (by omega)
        have k9 : (h : Int) < (n : Int) := by omega
        have k10 : (q : Int) < (n : Int) := by omega
        obtain ⟨hu, hhu⟩ : ∃ hu, hu + a = h := ⟨h - a, by omega⟩
        obtain ⟨qv, hqv⟩ : ∃ qv, qv + m = q := ⟨q - m, by omega⟩
        have hhU : hu < U.length := by omega
        have hqV : qv < V.length := by omega
        obtain ⟨x, hx⟩ : ∃ x, U[hu]? = some x := ⟨_, List.getElem?_eq_getElem hhU⟩
        obtain ⟨y, hy⟩ : ∃ y, V[qv]? = some y := ⟨_, List.getElem?_eq_getElem hqV⟩
        have hxh : (X ++ (U ++ (V ++ Y)))[h]? = some x := by rw [show h = X.length + hu by omega, at_part _ _ _ _ hhU, hx]
        have hyq : (X ++ (U ++ (V ++ Y)))[q]? = some y := by
          have e : X ++ (U ++ (V ++ Y)) = (X ++ U) ++ (V ++ Y) := by simp
          rw [e, show q = (X ++ U).length + qv by simp; omega, at_part _ _ _ _ hqV, hy]
        obtain ⟨hn1, hn2, rr, hl, HS, HCC, q0, q1, q2, q3, q4, q5, q6, q7⟩ := cmp_step hr hyq hxh
        have HR := Lib.hid hr
        have HO := Lib.hid ho
        have HL := Lib.hid hl
        have HT := Lib.hid (And.intro h1 h2)
        have HX : Hid (U[h - a]? = some x ∧ V[nn - h - 1 - m]? = some y) := Lib.hid ⟨by rw [show h - a = hu by omega]; exact hx, by rw [show nn - h - 1 - m = qv by omega]; exact hy⟩
        have HF : Hid (s ≤ h ∧ h < r) := Lib.hid ⟨by omega, by omega⟩
        clear hr ho hl h1 h2 hyq hxh hx hy hsrs hh hq hhu hqv hD hA hhU hqV
        obtain ⟨o, hd⟩ : ∃ o, decide (rr < 0) = o := ⟨_, rfl⟩
        rw [hd] at HL
        go_wp2_with (fail)
        go_region_held3 (fun W => W.cell? ⟨g, q * 4, none⟩ = some (.int .u64 y.1) ∧ W.cell? ⟨g, q * 4 + 1, none⟩ = some (.int .i64 y.2.x.tag) ∧ W.cell? ⟨g, q * 4 + 2, none⟩ = some (.slice y.2.A y.2.x.vec.length y.2.c) ∧ W.cell? ⟨g, q * 4 + 3, none⟩ = some (.string y.2.x.str) ∧ W.cell? ⟨g, h * 4, none⟩ = some (.int .u64 x.1) ∧ W.cell? ⟨g, h * 4 + 1, none⟩ = some (.int .i64 x.2.x.tag) ∧ W.cell? ⟨g, h * 4 + 2, none⟩ = some (.slice x.2.A x.2.x.vec.length x.2.c) ∧ W.cell? ⟨g, h * 4 + 3, none⟩ = some (.string x.2.x.str)) ((refine HS.out _ ?_; repeat' (first | (with_reducible exact Below.refl _ _) | (with_reducible assumption) | (with_reducible refine Below.drew ?_) | (with_reducible refine below_drewN' ?_ _))))
          (first
            | (go_at_call 17; (with_reducible refine (HCC.out _ (by repeat' (first | (with_reducible exact Below.refl _ _) | (with_reducible assumption) | (with_reducible refine Below.drew ?_) | (with_reducible refine below_drewN' ?_ _)))).mono ?_); rintro e w2 ⟨rfl, hb2⟩))
        have HR2 := Lib.hid (HR.out.below hb2 (Nat.le_refl _))
        have HO2 := Lib.hid (HO.out.on hb2)
        clear hb2 HCC HS HR q0 q1 q2 q3 q4 q5 q6 q7
        cases o with
        | true =>
          have hxy : ky y < ky x := by simpa using HL.out
          have HXY := Lib.hid hxy
          clear hd hxy
          go_wp2_with (fail)
          go_roundg (h - s)
          case measure => have := HF.out; omega
          case rel => exact ⟨s, h, rfl, rfl, rfl, hs, HF.out.1, by have := HF.out; omega, HT.out.1, .inr ⟨x, y, HX.out.1, HX.out.2, HXY.out⟩, HR2.out, HO2.out⟩
        | false =>
          have hxy : ky x ≤ ky y := by have := HL.out; simp at this; exact this
          have HXY := Lib.hid hxy
          clear hd hxy
          go_wp2_with (fail)
          go_roundg (r - (h + 1))
          case measure => have := HF.out; omega
          case rel => exact ⟨h + 1, r, rfl, by go_num, rfl, by have := HF.out; omega, by have := HF.out; omega, hrr, .inr ⟨x, y, HX.out.1, by rw [show nn - (h + 1) - m = nn - h - 1 - m by omega]; exact HX.out.2, HXY.out⟩, HT.out.2, HR2.out, HO2.out⟩
      · obtain rfl : s = r := by omega
        have k1 : ¬ (s : Int) < (s : Int) := by omega
        have hD := HD.out
        have hA := HA.out
        obtain ⟨en, hen⟩ : ∃ en, en + s = nn := ⟨nn - s, by omega⟩
        have k2 : IntKind.i64.wrap ((nn : Int) - (s : Int)) = (en : Int) := w64 (by omega) (by omega) (by omega)
        obtain ⟨su, hsu⟩ : ∃ su, a + su = s := ⟨s - a, by omega⟩
        obtain ⟨tv, htv⟩ : ∃ tv, m + tv = en := ⟨en - m, by omega⟩
        have hcs := HCS.out
        have hcut : Cut U V a m b mid s en su tv := by
          refine ⟨hsu.symm, htv.symm, by omega, by omega, hA.2.1, hA.2.2.1, by omega, hD.2.2.2.2.2.2, hD.2.2.2.2.2.1, ?_, ?_⟩
          · rcases h1 with e | ⟨x, y, e1, e2, e3⟩
            · rcases hcs with ⟨f1, f2⟩ | ⟨f1, f2⟩
              · exact .inr (.inl (by omega))
              · exact .inl (by omega)
            · exact .inr (.inr ⟨x, y, by rw [← e1]; congr 1; omega, by rw [← e2]; congr 1; omega, e3⟩)
          · rcases h2 with e | ⟨x, y, e1, e2, e3⟩
            · rcases hcs with ⟨f1, f2⟩ | ⟨f1, f2⟩
              · exact .inr (.inl (by omega))
              · exact .inl (by omega)
            · exact .inr (.inr ⟨x, y, by rw [← e1]; congr 1; omega, by rw [← e2]; congr 1; omega, e3⟩)
        have HCUT := Lib.hid hcut
        have HO := Lib.hid ho
        have hrL : IRow wr base g n c ((X ++ U.take su) ++ (U.drop su ++ (V.take tv ++ (V.drop tv ++ Y)))) := by
          rw [← List.append_assoc (V.take tv), List.take_append_drop, List.append_assoc X, ← List.append_assoc (U.take su), List.take_append_drop]; exact hr
        have HR := Lib.hid hrL
        clear hr ho hrL h1 h2 hcs hcut hen hsu htv hD hA
        have hleaf : (su < U.length ∧ 0 < tv ∧ 0 < su ∧ tv < V.length) ∨ (su < U.length ∧ 0 < tv ∧ 0 < su ∧ tv = V.length) ∨ (su < U.length ∧ 0 < tv ∧ su = 0 ∧ tv < V.length) ∨ (su < U.length ∧ 0 < tv ∧ su = 0 ∧ tv = V.length) ∨ (su < U.length ∧ tv = 0) ∨ (su = U.length ∧ 0 < tv) ∨ (su = U.length ∧ tv = 0) := by
          have h := HCUT.out
          have c3 := h.hsu; have c4 := h.htv; have c8 := HA.out
          omega
        rcases hleaf with hlf | hlf | hlf | hlf | hlf | hlf | hlf
        · have hq := hlf
          have hC := HCUT.out
          have c1 := hC.hs; have c2 := hC.he; have c3 := hC.hsu; have c4 := hC.htv; have c5 := hC.hm; have c6 := hC.hb; have c7 := hC.hmid; have c9 := hC.ham; have c10 := hC.hmb; have c8 := HA.out
          have t0 : s < m := by omega
          have k3 : (s : Int) < (m : Int) := by omega
          have t1 : m < en := by omega
          have k4 : (m : Int) < (en : Int) := by omega
          have t2 : a < s := by omega
          have k5 : (a : Int) < (s : Int) := by omega
          have t3 : s < mid := by omega
          have k6 : (s : Int) < (mid : Int) := by omega
          have t4 : mid < en := by omega
          have k7 : (mid : Int) < (en : Int) := by omega
          have t5 : en < b := by omega
          have k8 : (en : Int) < (b : Int) := by omega
          clear hq hlf hC c1 c2 c3 c4 c5 c6 c7 c8 c9 c10
          have HC := Lib.hid (HROT.out (X ++ U.take su) (U.drop su) (V.take tv) (V.drop tv ++ Y) s m en wr HO.out HR.out (by have h := HCUT.out; have := h.hs; have := h.hsu; have := HA.out; simp; omega) (by have h := HCUT.out; have := h.hs; have := h.hm; have := h.hsu; simp; omega) (by have h := HCUT.out; have := h.he; have := h.htv; simp; omega) (by have h := HCUT.out; have := h.hs; have := h.hm; simp; omega) (by have h := HCUT.out; have := h.he; have := h.htv; simp; omega))
          clear HO HR
          go_wp2_with (fail)
          refine HC.out.mono ?_
          rintro e w2 ⟨rfl, ho2, hr2⟩
          have HO2 := Lib.hid ho2
          have HR2 : Hid (IRow w2 base g n c (X ++ (U.take su ++ (V.take tv ++ (U.drop su ++ (V.drop tv ++ Y)))))) := Lib.hid (by simpa using hr2)
          clear HC ho2 hr2
          have HC := Lib.hid (HSYM.out X (U.take su) (V.take tv) (U.drop su ++ (V.drop tv ++ Y)) a s mid w2 (by have h := HCUT.out; have := h.hs; have := h.hsu; have := h.htv; have := h.hmid; have := h.hmb; have := h.hm; have := h.hb; have := HA.out; simp; omega) (by have h := HCUT.out; have := h.hs; have := h.hsu; have := HA.out; simp; omega) (by have h := HCUT.out; have := h.hs; have := h.htv; have := h.hmid; simp; omega) (HSRT.out.1.take _) (HSRT.out.2.take _) HA.out.1 (by have h := HCUT.out; have := h.hs; have := h.hsu; simp; omega) (by have h := HCUT.out; have := h.hs; have := h.htv; have := h.hmid; simp; omega) HO2.out HR2.out)
          clear HO2 HR2
          go_wp2_with (fail)
          refine HC.out.mono ?_
          rintro e w3 ⟨rfl, ho3, S1, hS1, hr3⟩
          have HO3 := Lib.hid ho3
          have HR3 := Lib.hid hr3
          have HS1 := Lib.hid hS1
          clear HC ho3 hr3 hS1
          have HXL : Hid ((X ++ S1).length = mid) := Lib.hid (by have h := HCUT.out; have h1 := HS1.out.len; have := h.hmid; have := h.hsu; have := h.htv; have := HA.out; rw [List.length_append] at h1 ⊢; rw [List.length_take, List.length_take] at h1; omega)
          have HC := Lib.hid (HSYM.out (X ++ S1) (U.drop su) (V.drop tv) Y mid en b w3 (by have h := HCUT.out; have := h.hs; have := h.hsu; have := h.htv; have := h.hmid; have := h.ham; have := h.hm; have := h.hb; have := HA.out; simp; omega) (by have h := HCUT.out; have := h.hs; have := h.hmid; have := h.he; have := h.hm; simp; omega) (by have h := HCUT.out; have := h.he; have := h.hb; simp; omega) (HSRT.out.1.drop _) (HSRT.out.2.drop _) HXL.out (by have h := HCUT.out; have := h.hs; have := h.hmid; have := h.he; have := h.hm; have := h.hsu; simp; omega) (by have h := HCUT.out; have := h.he; have := h.hb; have := h.htv; simp; omega) HO3.out (by simpa using HR3.out))
          clear HO3 HR3
          go_wp2_with (fail)
          refine HC.out.mono ?_
          rintro e w4 ⟨rfl, ho4, S2, hS2, hr4⟩
          have HE : Hid (Merged base g n c X U V Y w (.returned (.tuple #[])) w4) := Lib.hid ⟨rfl, ho4, S1 ++ S2, stb_sym HSRT.out.1 HSRT.out.2 HCUT.out.hsu HCUT.out.htv HCUT.out.h1 HCUT.out.h2 HS1.out hS2, by simpa using hr4⟩
          clear ho4 hr4 hS2 HC
          go_wp2_with (fail)
          first
            | (go_end0; exact HE.out)
            | exact HE.out
        · have hq := hlf
          have hC := HCUT.out
          have c1 := hC.hs; have c2 := hC.he; have c3 := hC.hsu; have c4 := hC.htv; have c5 := hC.hm; have c6 := hC.hb; have c7 := hC.hmid; have c9 := hC.ham; have c10 := hC.hmb; have c8 := HA.out
          have t0 : s < m := by omega
          have k3 : (s : Int) < (m : Int) := by omega
          have t1 : m < en := by omega
          have k4 : (m : Int) < (en : Int) := by omega
          have t2 : a < s := by omega
          have k5 : (a : Int) < (s : Int) := by omega
          have t3 : s < mid := by omega
          have k6 : (s : Int) < (mid : Int) := by omega
          have t4 : mid < en := by omega
          have k7 : (mid : Int) < (en : Int) := by omega
          have t5 : ¬ en < b := by omega
          have k8 : ¬ (en : Int) < (b : Int) := by omega
          clear hq hlf hC c1 c2 c3 c4 c5 c6 c7 c8 c9 c10
          have HC := Lib.hid (HROT.out (X ++ U.take su) (U.drop su) (V.take tv) (V.drop tv ++ Y) s m en wr HO.out HR.out (by have h := HCUT.out; have := h.hs; have := h.hsu; have := HA.out; simp; omega) (by have h := HCUT.out; have := h.hs; have := h.hm; have := h.hsu; simp; omega) (by have h := HCUT.out; have := h.he; have := h.htv; simp; omega) (by have h := HCUT.out; have := h.hs; have := h.hm; simp; omega) (by have h := HCUT.out; have := h.he; have := h.htv; simp; omega))
          clear HO HR
          go_wp2_with (fail)
          refine HC.out.mono ?_
          rintro e w2 ⟨rfl, ho2, hr2⟩
          have HO2 := Lib.hid ho2
          have HR2 : Hid (IRow w2 base g n c (X ++ (U.take su ++ (V.take tv ++ (U.drop su ++ (V.drop tv ++ Y)))))) := Lib.hid (by simpa using hr2)
          clear HC ho2 hr2
          have HC := Lib.hid (HSYM.out X (U.take su) (V.take tv) (U.drop su ++ (V.drop tv ++ Y)) a s mid w2 (by have h := HCUT.out; have := h.hs; have := h.hsu; have := h.htv; have := h.hmid; have := h.hmb; have := h.hm; have := h.hb; have := HA.out; simp; omega) (by have h := HCUT.out; have := h.hs; have := h.hsu; have := HA.out; simp; omega) (by have h := HCUT.out; have := h.hs; have := h.htv; have := h.hmid; simp; omega) (HSRT.out.1.take _) (HSRT.out.2.take _) HA.out.1 (by have h := HCUT.out; have := h.hs; have := h.hsu; simp; omega) (by have h := HCUT.out; have := h.hs; have := h.htv; have := h.hmid; simp; omega) HO2.out HR2.out)
          clear HO2 HR2
          go_wp2_with (fail)
          refine HC.out.mono ?_
          rintro e w3 ⟨rfl, ho3, S1, hS1, hr3⟩
          have HO3 := Lib.hid ho3
          have HR3 := Lib.hid hr3
          have HS1 := Lib.hid hS1
          clear HC ho3 hr3 hS1
          have HE : Hid (Merged base g n c X U V Y w (.returned (.tuple #[])) w3) := Lib.hid ⟨rfl, HO3.out, S1 ++ (U.drop su ++ V.drop tv), stb_sym HSRT.out.1 HSRT.out.2 HCUT.out.hsu HCUT.out.htv HCUT.out.h1 HCUT.out.h2 HS1.out (Stb.of_srt (HCUT.out.right HSRT.out.1 HSRT.out.2 (by omega))), by simpa using HR3.out⟩
          clear HO3 HR3
          go_wp2_with (fail)
          first
            | (go_end0; exact HE.out)
            | exact HE.out
        · have hq := hlf
          have hC := HCUT.out
          have c1 := hC.hs; have c2 := hC.he; have c3 := hC.hsu; have c4 := hC.htv; have c5 := hC.hm; have c6 := hC.hb; have c7 := hC.hmid; have c9 := hC.ham; have c10 := hC.hmb; have c8 := HA.out
          have t0 : s < m := by omega
          have k3 : (s : Int) < (m : Int) := by omega
          have t1 : m < en := by omega
          have k4 : (m : Int) < (en : Int) := by omega
          have t2 : ¬ a < s := by omega
          have k5 : ¬ (a : Int) < (s : Int) := by omega
          have t4 : mid < en := by omega
          have k7 : (mid : Int) < (en : Int) := by omega
          have t5 : en < b := by omega
          have k8 : (en : Int) < (b : Int) := by omega
          clear hq hlf hC c1 c2 c3 c4 c5 c6 c7 c8 c9 c10
          have HC := Lib.hid (HROT.out (X ++ U.take su) (U.drop su) (V.take tv) (V.drop tv ++ Y) s m en wr HO.out HR.out (by have h := HCUT.out; have := h.hs; have := h.hsu; have := HA.out; simp; omega) (by have h := HCUT.out; have := h.hs; have := h.hm; have := h.hsu; simp; omega) (by have h := HCUT.out; have := h.he; have := h.htv; simp; omega) (by have h := HCUT.out; have := h.hs; have := h.hm; simp; omega) (by have h := HCUT.out; have := h.he; have := h.htv; simp; omega))
          clear HO HR
          go_wp2_with (fail)
          refine HC.out.mono ?_
          rintro e w2 ⟨rfl, ho2, hr2⟩
          have HO2 := Lib.hid ho2
          have HR2 : Hid (IRow w2 base g n c (X ++ (U.take su ++ (V.take tv ++ (U.drop su ++ (V.drop tv ++ Y)))))) := Lib.hid (by simpa using hr2)
          clear HC ho2 hr2
          have HS1 : Hid (Stb ky (U.take su ++ V.take tv) (U.take su ++ V.take tv)) := Lib.hid (Stb.of_srt (HCUT.out.left HSRT.out.1 HSRT.out.2 (by omega)))
          have HO3 := HO2
          have HR3 : Hid (IRow w2 base g n c (X ++ ((U.take su ++ V.take tv) ++ (U.drop su ++ (V.drop tv ++ Y))))) := Lib.hid (by simpa using HR2.out)
          obtain ⟨S1, HSE⟩ : ∃ S1, S1 = U.take su ++ V.take tv := ⟨_, rfl⟩
          have HS1 : Hid (Stb ky (U.take su ++ V.take tv) S1) := Lib.hid (by rw [HSE]; exact HS1.out)
          have HR3 : Hid (IRow w2 base g n c (X ++ (S1 ++ (U.drop su ++ (V.drop tv ++ Y))))) := Lib.hid (by rw [HSE]; exact HR3.out)
          clear HO2 HR2 HSE
          have HXL : Hid ((X ++ S1).length = mid) := Lib.hid (by have h := HCUT.out; have h1 := HS1.out.len; have := h.hmid; have := h.hsu; have := h.htv; have := HA.out; rw [List.length_append] at h1 ⊢; rw [List.length_take, List.length_take] at h1; omega)
          have HC := Lib.hid (HSYM.out (X ++ S1) (U.drop su) (V.drop tv) Y mid en b w2 (by have h := HCUT.out; have := h.hs; have := h.hsu; have := h.htv; have := h.hmid; have := h.ham; have := h.hm; have := h.hb; have := HA.out; simp; omega) (by have h := HCUT.out; have := h.hs; have := h.hmid; have := h.he; have := h.hm; simp; omega) (by have h := HCUT.out; have := h.he; have := h.hb; simp; omega) (HSRT.out.1.drop _) (HSRT.out.2.drop _) HXL.out (by have h := HCUT.out; have := h.hs; have := h.hmid; have := h.he; have := h.hm; have := h.hsu; simp; omega) (by have h := HCUT.out; have := h.he; have := h.hb; have := h.htv; simp; omega) HO3.out (by simpa using HR3.out))
          clear HO3 HR3
          go_wp2_with (fail)
          refine HC.out.mono ?_
          rintro e w4 ⟨rfl, ho4, S2, hS2, hr4⟩
          have HE : Hid (Merged base g n c X U V Y w (.returned (.tuple #[])) w4) := Lib.hid ⟨rfl, ho4, S1 ++ S2, stb_sym HSRT.out.1 HSRT.out.2 HCUT.out.hsu HCUT.out.htv HCUT.out.h1 HCUT.out.h2 HS1.out hS2, by simpa using hr4⟩
          clear ho4 hr4 hS2 HC
          go_wp2_with (fail)
          first
            | (go_end0; exact HE.out)
            | exact HE.out
        · have hq := hlf
          have hC := HCUT.out
          have c1 := hC.hs; have c2 := hC.he; have c3 := hC.hsu; have c4 := hC.htv; have c5 := hC.hm; have c6 := hC.hb; have c7 := hC.hmid; have c9 := hC.ham; have c10 := hC.hmb; have c8 := HA.out
          have t0 : s < m := by omega
          have k3 : (s : Int) < (m : Int) := by omega
          have t1 : m < en := by omega
          have k4 : (m : Int) < (en : Int) := by omega
          have t2 : ¬ a < s := by omega
          have k5 : ¬ (a : Int) < (s : Int) := by omega
          have t4 : mid < en := by omega
          have k7 : (mid : Int) < (en : Int) := by omega
          have t5 : ¬ en < b := by omega
          have k8 : ¬ (en : Int) < (b : Int) := by omega
          clear hq hlf hC c1 c2 c3 c4 c5 c6 c7 c8 c9 c10
          have HC := Lib.hid (HROT.out (X ++ U.take su) (U.drop su) (V.take tv) (V.drop tv ++ Y) s m en wr HO.out HR.out (by have h := HCUT.out; have := h.hs; have := h.hsu; have := HA.out; simp; omega) (by have h := HCUT.out; have := h.hs; have := h.hm; have := h.hsu; simp; omega) (by have h := HCUT.out; have := h.he; have := h.htv; simp; omega) (by have h := HCUT.out; have := h.hs; have := h.hm; simp; omega) (by have h := HCUT.out; have := h.he; have := h.htv; simp; omega))
          clear HO HR
          go_wp2_with (fail)
          refine HC.out.mono ?_
          rintro e w2 ⟨rfl, ho2, hr2⟩
          have HO2 := Lib.hid ho2
          have HR2 : Hid (IRow w2 base g n c (X ++ (U.take su ++ (V.take tv ++ (U.drop su ++ (V.drop tv ++ Y)))))) := Lib.hid (by simpa using hr2)
          clear HC ho2 hr2
          have HS1 : Hid (Stb ky (U.take su ++ V.take tv) (U.take su ++ V.take tv)) := Lib.hid (Stb.of_srt (HCUT.out.left HSRT.out.1 HSRT.out.2 (by omega)))
          have HO3 := HO2
          have HR3 : Hid (IRow w2 base g n c (X ++ ((U.take su ++ V.take tv) ++ (U.drop su ++ (V.drop tv ++ Y))))) := Lib.hid (by simpa using HR2.out)
          obtain ⟨S1, HSE⟩ : ∃ S1, S1 = U.take su ++ V.take tv := ⟨_, rfl⟩
          have HS1 : Hid (Stb ky (U.take su ++ V.take tv) S1) := Lib.hid (by rw [HSE]; exact HS1.out)
          have HR3 : Hid (IRow w2 base g n c (X ++ (S1 ++ (U.drop su ++ (V.drop tv ++ Y))))) := Lib.hid (by rw [HSE]; exact HR3.out)
          clear HO2 HR2 HSE
          have HE : Hid (Merged base g n c X U V Y w (.returned (.tuple #[])) w2) := Lib.hid ⟨rfl, HO3.out, S1 ++ (U.drop su ++ V.drop tv), stb_sym HSRT.out.1 HSRT.out.2 HCUT.out.hsu HCUT.out.htv HCUT.out.h1 HCUT.out.h2 HS1.out (Stb.of_srt (HCUT.out.right HSRT.out.1 HSRT.out.2 (by omega))), by simpa using HR3.out⟩
          clear HO3 HR3
          go_wp2_with (fail)
          first
            | (go_end0; exact HE.out)
            | exact HE.out
        · have hq := hlf
          have hC := HCUT.out
          have c1 := hC.hs; have c2 := hC.he; have c3 := hC.hsu; have c4 := hC.htv; have c5 := hC.hm; have c6 := hC.hb; have c7 := hC.hmid; have c9 := hC.ham; have c10 := hC.hmb; have c8 := HA.out
          have t0 : s < m := by omega
          have k3 : (s : Int) < (m : Int) := by omega
          have t1 : ¬ m < en := by omega
          have k4 : ¬ (m : Int) < (en : Int) := by omega
          have t2 : a < s := by omega
          have k5 : (a : Int) < (s : Int) := by omega
          have t3 : ¬ s < mid := by omega
          have k6 : ¬ (s : Int) < (mid : Int) := by omega
          have t4 : mid < en := by omega
          have k7 : (mid : Int) < (en : Int) := by omega
          have t5 : en < b := by omega
          have k8 : (en : Int) < (b : Int) := by omega
          clear hq hlf hC c1 c2 c3 c4 c5 c6 c7 c8 c9 c10
          have HO2 := HO
          have HR2 : Hid (IRow wr base g n c (X ++ (U.take su ++ (V.take tv ++ (U.drop su ++ (V.drop tv ++ Y)))))) := Lib.hid (HCUT.out.still (by omega) HR.out)
          clear HR HO
          have HS1 : Hid (Stb ky (U.take su ++ V.take tv) (U.take su ++ V.take tv)) := Lib.hid (Stb.of_srt (HCUT.out.left HSRT.out.1 HSRT.out.2 (by omega)))
          have HO3 := HO2
          have HR3 : Hid (IRow wr base g n c (X ++ ((U.take su ++ V.take tv) ++ (U.drop su ++ (V.drop tv ++ Y))))) := Lib.hid (by simpa using HR2.out)
          obtain ⟨S1, HSE⟩ : ∃ S1, S1 = U.take su ++ V.take tv := ⟨_, rfl⟩
          have HS1 : Hid (Stb ky (U.take su ++ V.take tv) S1) := Lib.hid (by rw [HSE]; exact HS1.out)
          have HR3 : Hid (IRow wr base g n c (X ++ (S1 ++ (U.drop su ++ (V.drop tv ++ Y))))) := Lib.hid (by rw [HSE]; exact HR3.out)
          clear HO2 HR2 HSE
          have HXL : Hid ((X ++ S1).length = mid) := Lib.hid (by have h := HCUT.out; have h1 := HS1.out.len; have := h.hmid; have := h.hsu; have := h.htv; have := HA.out; rw [List.length_append] at h1 ⊢; rw [List.length_take, List.length_take] at h1; omega)
          have HC := Lib.hid (HSYM.out (X ++ S1) (U.drop su) (V.drop tv) Y mid en b wr (by have h := HCUT.out; have := h.hs; have := h.hsu; have := h.htv; have := h.hmid; have := h.ham; have := h.hm; have := h.hb; have := HA.out; simp; omega) (by have h := HCUT.out; have := h.hs; have := h.hmid; have := h.he; have := h.hm; simp; omega) (by have h := HCUT.out; have := h.he; have := h.hb; simp; omega) (HSRT.out.1.drop _) (HSRT.out.2.drop _) HXL.out (by have h := HCUT.out; have := h.hs; have := h.hmid; have := h.he; have := h.hm; have := h.hsu; simp; omega) (by have h := HCUT.out; have := h.he; have := h.hb; have := h.htv; simp; omega) HO3.out (by simpa using HR3.out))
          clear HO3 HR3
          go_wp2_with (fail)
          refine HC.out.mono ?_
          rintro e w4 ⟨rfl, ho4, S2, hS2, hr4⟩
          have HE : Hid (Merged base g n c X U V Y w (.returned (.tuple #[])) w4) := Lib.hid ⟨rfl, ho4, S1 ++ S2, stb_sym HSRT.out.1 HSRT.out.2 HCUT.out.hsu HCUT.out.htv HCUT.out.h1 HCUT.out.h2 HS1.out hS2, by simpa using hr4⟩
          clear ho4 hr4 hS2 HC
          go_wp2_with (fail)
          first
            | (go_end0; exact HE.out)
            | exact HE.out
        · have hq := hlf
          have hC := HCUT.out
          have c1 := hC.hs; have c2 := hC.he; have c3 := hC.hsu; have c4 := hC.htv; have c5 := hC.hm; have c6 := hC.hb; have c7 := hC.hmid; have c9 := hC.ham; have c10 := hC.hmb; have c8 := HA.out
          have t0 : ¬ s < m := by omega
          have k3 : ¬ (s : Int) < (m : Int) := by omega
          have t2 : a < s := by omega
          have k5 : (a : Int) < (s : Int) := by omega
          have t3 : s < mid := by omega
          have k6 : (s : Int) < (mid : Int) := by omega
          have t4 : ¬ mid < en := by omega
          have k7 : ¬ (mid : Int) < (en : Int) := by omega
          clear hq hlf hC c1 c2 c3 c4 c5 c6 c7 c8 c9 c10
          have HO2 := HO
          have HR2 : Hid (IRow wr base g n c (X ++ (U.take su ++ (V.take tv ++ (U.drop su ++ (V.drop tv ++ Y)))))) := Lib.hid (HCUT.out.still (by omega) HR.out)
          clear HR HO
          have HC := Lib.hid (HSYM.out X (U.take su) (V.take tv) (U.drop su ++ (V.drop tv ++ Y)) a s mid wr (by have h := HCUT.out; have := h.hs; have := h.hsu; have := h.htv; have := h.hmid; have := h.hmb; have := h.hm; have := h.hb; have := HA.out; simp; omega) (by have h := HCUT.out; have := h.hs; have := h.hsu; have := HA.out; simp; omega) (by have h := HCUT.out; have := h.hs; have := h.htv; have := h.hmid; simp; omega) (HSRT.out.1.take _) (HSRT.out.2.take _) HA.out.1 (by have h := HCUT.out; have := h.hs; have := h.hsu; simp; omega) (by have h := HCUT.out; have := h.hs; have := h.htv; have := h.hmid; simp; omega) HO2.out HR2.out)
          clear HO2 HR2
          go_wp2_with (fail)
          refine HC.out.mono ?_
          rintro e w3 ⟨rfl, ho3, S1, hS1, hr3⟩
          have HO3 := Lib.hid ho3
          have HR3 := Lib.hid hr3
          have HS1 := Lib.hid hS1
          clear HC ho3 hr3 hS1
          have HE : Hid (Merged base g n c X U V Y w (.returned (.tuple #[])) w3) := Lib.hid ⟨rfl, HO3.out, S1 ++ (U.drop su ++ V.drop tv), stb_sym HSRT.out.1 HSRT.out.2 HCUT.out.hsu HCUT.out.htv HCUT.out.h1 HCUT.out.h2 HS1.out (Stb.of_srt (HCUT.out.right HSRT.out.1 HSRT.out.2 (by omega))), by simpa using HR3.out⟩
          clear HO3 HR3
          go_wp2_with (fail)
          first
            | (go_end0; exact HE.out)
            | exact HE.out
        · have hq := hlf
          have hC := HCUT.out
          have c1 := hC.hs; have c2 := hC.he; have c3 := hC.hsu; have c4 := hC.htv; have c5 := hC.hm; have c6 := hC.hb; have c7 := hC.hmid; have c9 := hC.ham; have c10 := hC.hmb; have c8 := HA.out
          have t0 : ¬ s < m := by omega
          have k3 : ¬ (s : Int) < (m : Int) := by omega
          have t2 : a < s := by omega
          have k5 : (a : Int) < (s : Int) := by omega
          have t3 : ¬ s < mid := by omega
          have k6 : ¬ (s : Int) < (mid : Int) := by omega
          have t4 : ¬ mid < en := by omega
          have k7 : ¬ (mid : Int) < (en : Int) := by omega
          clear hq hlf hC c1 c2 c3 c4 c5 c6 c7 c8 c9 c10
          have HO2 := HO
          have HR2 : Hid (IRow wr base g n c (X ++ (U.take su ++ (V.take tv ++ (U.drop su ++ (V.drop tv ++ Y)))))) := Lib.hid (HCUT.out.still (by omega) HR.out)
          clear HR HO
          have HS1 : Hid (Stb ky (U.take su ++ V.take tv) (U.take su ++ V.take tv)) := Lib.hid (Stb.of_srt (HCUT.out.left HSRT.out.1 HSRT.out.2 (by omega)))
          have HO3 := HO2
          have HR3 : Hid (IRow wr base g n c (X ++ ((U.take su ++ V.take tv) ++ (U.drop su ++ (V.drop tv ++ Y))))) := Lib.hid (by simpa using HR2.out)
          obtain ⟨S1, HSE⟩ : ∃ S1, S1 = U.take su ++ V.take tv := ⟨_, rfl⟩
          have HS1 : Hid (Stb ky (U.take su ++ V.take tv) S1) := Lib.hid (by rw [HSE]; exact HS1.out)
          have HR3 : Hid (IRow wr base g n c (X ++ (S1 ++ (U.drop su ++ (V.drop tv ++ Y))))) := Lib.hid (by rw [HSE]; exact HR3.out)
          clear HO2 HR2 HSE
          have HE : Hid (Merged base g n c X U V Y w (.returned (.tuple #[])) wr) := Lib.hid ⟨rfl, HO3.out, S1 ++ (U.drop su ++ V.drop tv), stb_sym HSRT.out.1 HSRT.out.2 HCUT.out.hsu HCUT.out.htv HCUT.out.h1 HCUT.out.h2 HS1.out (Stb.of_srt (HCUT.out.right HSRT.out.1 HSRT.out.2 (by omega))), by simpa using HR3.out⟩
          clear HO3 HR3
          go_wp2_with (fail)
          first
            | (go_end0; exact HE.out)
            | exact HE.out
theorem sym_any (base g n c : Nat) (hsz : n < 2305843009213693952) : ∀ N, SymC N base g n c := by
  intro N
  induction N with
  | zero => intro X U V Y a m b w hN hU0 hV0; omega
  | succ N ih =>
    intro X U V Y a m b w hN hU0 hV0 hU hV ha hm hb hr
    by_cases h1 : U.length = 1
    · obtain ⟨x, rfl⟩ := List.length_eq_one_iff.1 h1
      exact sym_first hr ha (by simpa using hm) hb hV hsz
    · by_cases h2 : V.length = 1
      · obtain ⟨y, rfl⟩ := List.length_eq_one_iff.1 h2
        exact sym_last hr ha hm (by simpa using hb) (by omega) hU hsz
      · exact sym_main ih hsz hN (by omega) (by omega) hU hV ha hm hb hr
end Go.Proofs.Ytcdjmgmombaiaaa.stb
