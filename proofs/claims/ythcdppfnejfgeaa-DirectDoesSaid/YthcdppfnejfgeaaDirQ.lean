/-
  The contracts of Rank and At.
-/
import Derived.Test.YthcdppfnejfgeaaDirD
namespace Go.Proofs.Ythcdppfnejfgeaa.direct
open Go.RowKit law bytes only flat
set_option linter.unusedVariables false

set_option maxRecDepth 100000 in
set_option maxHeartbeats 3200000 in
theorem rank_any {w : World} {base db : Nat} {t : T} (h : Dr w base db t) (id : Int) (hn : t.n ≤ 1152921504606846976) : Calls Try.prog 18 #[.pointer (some ⟨db, 0, none⟩), .int .u64 id] w fun e w' => e = .returned (.int .i64 (rk t.flat id)) ∧ w = w' := by
  have HA := Lib.hid (all_any h)
  obtain ⟨q, hq⟩ : ∃ v, v = pa t := ⟨_, rfl⟩
  rw [← hq] at HA
  have HQ := Lib.hid hq
  have HT := Lib.hid h.tree
  have HRi := Lib.hid h.rise
  have HN := Lib.hid hn
  clear h hq hn
  go_enter Try.func18, Try.ntmps18
  go_wp2_with (go_at_call 24; (with_reducible refine HA.out.mono ?_); rintro e w' ⟨rfl, rfl⟩)
  go_loopg [5, 6] t.n (fun gk s5 s6 wr => ∃ (c : T) (x : Nat), w = wr ∧ s5 = .int .i64 x ∧ s6 = .pointer (pa c) ∧ Tr wr c ∧ Rise c.flat ∧ x + rk c.flat id = rk t.flat id ∧ x + c.n ≤ t.n ∧ c.n = gk)
  case atStart => exact ⟨t, 0, rfl, rfl, by rw [HQ.out], HT.out, HRi.out, by omega, by omega, rfl⟩
  case round =>
    clear HQ HT HRi HA
    obtain ⟨c, x, rfl, rfl, rfl, hc, hR, hf, hx, rfl⟩ := hrel
    cases c with
    | nil =>
      have hf2 : rk t.flat id = x := by rw [← hf]; rfl
      have HF := Lib.hid hf2
      have hpa : pa T.nil = none := rfl
      rw [hpa]
      clear hpa hc hR hf hf2
      go_wp2_with (fail)
      go_ret
      exact ⟨by rw [HF.out]; rfl, rfl⟩
    | node b l k s r =>
      have c0 : w.cell? ⟨b, 0, none⟩ = some (.int .u64 k) := hc.1.cell 0
      have hpa : pa (T.node b l k s r) = some ⟨b, 0, none⟩ := rfl
      rw [hpa]
      have hRp := Rise.parts hR
      have hcn : (T.node b l k s r).n = l.n + r.n + 1 := rfl
      have c3 : w.cell? ⟨b, 3, none⟩ = some (.pointer (pa l)) := hc.1.cell 3
      by_cases hlt : id ≤ k
      · have d0 : decide (id ≤ k) = true := decide_eq_true hlt
        have HR : Hid (∃ (c : T) (y : Nat), w = w ∧ (Value.int .i64 x) = .int .i64 y ∧ (Value.pointer (pa l)) = .pointer (pa c) ∧ Tr w c ∧ Rise c.flat ∧ y + rk c.flat id = rk t.flat id ∧ y + c.n ≤ t.n ∧ c.n = l.n) :=
          Lib.hid ⟨l, x, rfl, rfl, rfl, hc.2.1, hRp.1, by rw [← hf]; rw [T.flat, rk_low hR hlt], by omega, rfl⟩
        have HM : Hid (l.n < (T.node b l k s r).n) := Lib.hid (by omega)
        clear hpa hc hR hf hRp hlt hcn hx
        generalize pa l = ql at c3 HR
        go_wp2_with (fail)
        go_roundg l.n
        case measure => exact HM.out
        case rel =>
          obtain ⟨c, y, -, h1⟩ := HR.out
          exact ⟨c, y, rfl, h1⟩
      · have hgt : k < id := by omega
        have d0 : decide (id ≤ k) = false := decide_eq_false hlt
        have c4 : w.cell? ⟨b, 4, none⟩ = some (.pointer (pa r)) := hc.1.cell 4
        have HL := Lib.hid (len_any hc.2.1)
        have hp : pt l = .pointer (pa l) := rfl
        rw [hp] at HL
        obtain ⟨m1, hm1⟩ : ∃ m, l.n + 1 = m := ⟨_, rfl⟩
        obtain ⟨m2, hm2⟩ : ∃ m, x + m1 = m := ⟨_, rfl⟩
        have i1 : IntKind.i64.wrap ((l.n : Int) + 1) = (m1 : Int) := by rw [IntKind.wrap_i64]; have := HN.out; omega
        have i2 : IntKind.i64.wrap ((x : Int) + (m1 : Int)) = (m2 : Int) := by rw [IntKind.wrap_i64]; have := HN.out; omega
        have HR : Hid (∃ (c : T) (y : Nat), w = w ∧ (Value.int .i64 m2) = .int .i64 y ∧ (Value.pointer (pa r)) = .pointer (pa c) ∧ Tr w c ∧ Rise c.flat ∧ y + rk c.flat id = rk t.flat id ∧ y + c.n ≤ t.n ∧ c.n = r.n) :=
          Lib.hid ⟨r, m2, rfl, rfl, rfl, hc.2.2, hRp.2.1, by rw [← hf, T.flat, rk_high hR hgt, T.flat_length]; omega, by omega, rfl⟩
        have HM : Hid (r.n < (T.node b l k s r).n) := Lib.hid (by omega)
        clear hpa hc hR hf hRp hlt hgt hcn hx hp hm1 hm2
        generalize pa l = ql at c3 HL
        generalize pa r = qr at c4 HR
        go_wp2_with (go_at_call 25; (with_reducible refine HL.out.mono ?_); rintro e w' ⟨rfl, rfl⟩)
        go_roundg r.n
        case measure => exact HM.out
        case rel =>
          obtain ⟨c, y, -, h1⟩ := HR.out
          exact ⟨c, y, rfl, h1⟩
set_option maxRecDepth 100000 in
set_option maxHeartbeats 3200000 in
theorem at_any {w : World} {base db : Nat} {t : T} (h : Dr w base db t) (i : Int) (hi : -9223372036854775808 ≤ i ∧ i ≤ 9223372036854775807) (hn : t.n ≤ 1152921504606846976) :
    Calls Try.prog 14 #[.pointer (some ⟨db, 0, none⟩), .int .i64 i] w fun e w' => e = .returned (.tuple #[.int .u64 ((atp t.flat i).getD 0), .bool (atp t.flat i).isSome]) ∧ w = w' := by
  have HA := Lib.hid (all_any h)
  obtain ⟨q, hq⟩ : ∃ v, v = pa t := ⟨_, rfl⟩
  rw [← hq] at HA
  have HQ := Lib.hid hq
  have HT := Lib.hid h.tree
  have HRi := Lib.hid h.rise
  have HN := Lib.hid hn
  have HI := Lib.hid hi
  clear h hq hn hi
  go_enter Try.func14, Try.ntmps14
  go_wp2_with (go_at_call 24; (with_reducible refine HA.out.mono ?_); rintro e w' ⟨rfl, rfl⟩)
  go_loopg [1, 6, 7] t.n (fun gk s1 s6 s7 wr => ∃ (c : T) (j : Int), w = wr ∧ s1 = .int .i64 j ∧ s6 = .pointer (pa c) ∧ Tr wr c ∧ atp c.flat j = atp t.flat i ∧ (-9223372036854775808 ≤ j ∧ j ≤ 9223372036854775807) ∧ c.n ≤ t.n ∧ c.n = gk)
  case atStart => exact ⟨t, i, rfl, rfl, by rw [HQ.out], HT.out, rfl, HI.out, Nat.le_refl _, rfl⟩
  case round =>
    clear HQ HT HRi HA HI
    obtain ⟨c, j, rfl, rfl, rfl, hc, hf, hj, hx, rfl⟩ := hrel
    cases c with
    | nil =>
      have hf2 : atp t.flat i = none := by rw [← hf]; exact atp_nil j
      have HF := Lib.hid hf2
      have hpa : pa T.nil = none := rfl
      rw [hpa]
      clear hpa hc hf hf2 hj
      go_wp2_with (fail)
      refine bodyPost_ret (v := .tuple #[.int .u64 0, .bool false]) (by simp [results, Try.results14, go_sem]) rfl ?_
      exact ⟨by rw [HF.out]; rfl, rfl⟩
    | node b l k s r =>
      have c0 : w.cell? ⟨b, 0, none⟩ = some (.int .u64 k) := hc.1.cell 0
      have hpa : pa (T.node b l k s r) = some ⟨b, 0, none⟩ := rfl
      rw [hpa]
      have hcn : (T.node b l k s r).n = l.n + r.n + 1 := rfl
      have c3 : w.cell? ⟨b, 3, none⟩ = some (.pointer (pa l)) := hc.1.cell 3
      have HL := Lib.hid (len_any hc.2.1)
      have hp : pt l = .pointer (pa l) := rfl
      rw [hp] at HL
      have hll := T.flat_length l
      obtain ⟨m, hm⟩ : ∃ m, l.n = m := ⟨_, rfl⟩
      rw [hm] at HL
      rcases Int.lt_trichotomy j (m : Int) with hlt | heq | hgt
      · have d0 : decide (j < (m : Int)) = true := decide_eq_true hlt
        have HR : Hid (∃ (c : T) (j2 : Int), w = w ∧ (Value.int .i64 j) = .int .i64 j2 ∧ (Value.pointer (pa l)) = .pointer (pa c) ∧ Tr w c ∧ atp c.flat j2 = atp t.flat i ∧ (-9223372036854775808 ≤ j2 ∧ j2 ≤ 9223372036854775807) ∧ c.n ≤ t.n ∧ c.n = l.n) :=
          Lib.hid ⟨l, j, rfl, rfl, rfl, hc.2.1, by rw [← hf, T.flat, atp_low (by omega)], hj, by omega, rfl⟩
        have HM : Hid (l.n < (T.node b l k s r).n) := Lib.hid (by omega)
        clear hpa hc hf hlt hcn hx hp hm hll hj
        generalize pa l = ql at c3 HL HR
        go_wp2_with (go_at_call 25; (with_reducible refine HL.out.mono ?_); rintro e w' ⟨rfl, rfl⟩)
        go_roundg l.n
        case measure => exact HM.out
        case rel =>
          obtain ⟨c, y, -, h1⟩ := HR.out
          exact ⟨c, y, rfl, h1⟩
      · subst heq
        have hf2 : atp t.flat i = some k := by rw [← hf, T.flat, ← hm, ← hll]; exact atp_here
        have HF := Lib.hid hf2
        have d0 : decide ((m : Int) < (m : Int)) = false := decide_eq_false (by omega)
        have d1 : decide (m < m) = false := decide_eq_false (by omega)
        clear hpa hc hf hf2 hj hcn hx hp hm hll
        generalize pa l = ql at c3 HL
        go_wp2_with (go_at_call 25; (with_reducible refine HL.out.mono ?_); rintro e w' ⟨rfl, rfl⟩)
        refine bodyPost_ret (v := .tuple #[.int .u64 k, .bool true]) (by simp [results, Try.results14, go_sem]) rfl ?_
        exact ⟨by rw [HF.out]; rfl, rfl⟩
      · have d0 : decide (j < (m : Int)) = false := decide_eq_false (by omega)
        have d1 : decide ((m : Int) < j) = true := decide_eq_true hgt
        have c4 : w.cell? ⟨b, 4, none⟩ = some (.pointer (pa r)) := hc.1.cell 4
        obtain ⟨m1, hm1⟩ : ∃ v, m + 1 = v := ⟨_, rfl⟩
        obtain ⟨j2, hj2⟩ : ∃ v, j - (m1 : Int) = v := ⟨_, rfl⟩
        have i1 : IntKind.i64.wrap ((m : Int) + 1) = (m1 : Int) := by rw [IntKind.wrap_i64]; have := HN.out; omega
        have i2 : IntKind.i64.wrap (j - (m1 : Int)) = j2 := by rw [IntKind.wrap_i64]; have := HN.out; omega
        have HR : Hid (∃ (c : T) (j3 : Int), w = w ∧ (Value.int .i64 j2) = .int .i64 j3 ∧ (Value.pointer (pa r)) = .pointer (pa c) ∧ Tr w c ∧ atp c.flat j3 = atp t.flat i ∧ (-9223372036854775808 ≤ j3 ∧ j3 ≤ 9223372036854775807) ∧ c.n ≤ t.n ∧ c.n = r.n) :=
          Lib.hid ⟨r, j2, rfl, rfl, rfl, hc.2.2, by
            rw [← hf, T.flat, atp_high (by omega), hll, hm]
            congr 1
            omega, by omega, by omega, rfl⟩
        have HM : Hid (r.n < (T.node b l k s r).n) := Lib.hid (by omega)
        clear hpa hc hf hgt hcn hx hp hm hll hj hm1 hj2
        generalize pa l = ql at c3 HL
        generalize pa r = qr at c4 HR
        go_wp2_with (go_at_call 25; (with_reducible refine HL.out.mono ?_); rintro e w' ⟨rfl, rfl⟩)
        go_roundg r.n
        case measure => exact HM.out
        case rel =>
          obtain ⟨c, y, -, h1⟩ := HR.out
          exact ⟨c, y, rfl, h1⟩
end Go.Proofs.Ythcdppfnejfgeaa.direct
