/-
  The document's own answers of layer 21: In, Fresh; Same of two rows of numbers; the law's question; what lives.
-/
import Derived.Test.YtcdjmgmombaiaaaIdF
import Derived.Test.YtcdjmgmombaiaaaIdN
namespace Go.Proofs.Ytcdjmgmombaiaaa.idx
open Go.RowKit law bytes only flat ord obj
open aro (Kept zK kV)
open store (iE iE_len itemAt)
set_option linter.unusedVariables false

theorem us_at {w : World} {B k : Nat} {A : Option Addr} {l : List Int} (h : Sl w B A (us l)) (hk : k < l.length) : ∃ ad, A = some ad ∧ ad.block < B ∧ w.cell? (ad.add k) = some (.int .u64 l[k]) := by
  obtain ⟨ad, h1, h2, h3⟩ := h.at_ (k := k) (by rw [us_length]; exact hk)
  exact ⟨ad, h1, h2, by rw [h3]; simp [us]⟩
theorem in_any (A : Option Addr) (c B : Nat) (l : List Int) (id : Int) (w : World) (hs : Sl w B A (us l)) (hl : l.length ≤ 17592186044416) :
    Calls Try.prog 5 #[.slice A l.length c, .int .u64 id] w fun e w' => e = .returned (.bool (l.contains id)) ∧ w = w' := by
  have HS := Lib.hid hs
  obtain ⟨r, hr⟩ : ∃ r, r = l.contains id := ⟨_, rfl⟩
  rw [← hr]
  have HR := Lib.hid hr
  clear hs hr
  go_enter Try.func5, Try.ntmps5
  go_wp2_with (fail)
  go_loopg [5] l.length (fun gk s5 wr => ∃ (k : Nat), gk = l.length - k ∧ k ≤ l.length ∧ s5 = .int .i64 k ∧ (l.take k).contains id = false ∧ w = wr)
  case atStart => exact ⟨0, rfl, Nat.zero_le _, rfl, by simp, rfl⟩
  case round =>
    obtain ⟨k, rfl, hk, rfl, hno, rfl⟩ := hrel
    by_cases hlt : k < l.length
    · have i1 : (k : Int) < (l.length : Int) := by omega
      obtain ⟨ad, rfl, -, hc⟩ := us_at HS.out hlt
      have ht : l.take (k + 1) = l.take k ++ [l[k]] := List.take_succ_eq_append_getElem hlt
      obtain ⟨x, hx⟩ : ∃ x, l[k] = x := ⟨_, rfl⟩
      have hmem : x ∈ l := by rw [← hx]; exact List.getElem_mem hlt
      rw [hx] at hc ht
      by_cases he : x = id
      · have b1 : (x == id) = true := by simpa using he
        have HE : Hid (l.contains id = true) := Lib.hid (by rw [← he]; simpa using hmem)
        clear hno ht hmem hx he
        obtain rfl : r = true := HR.out.trans HE.out
        go_wp2_with (fail)
        go_ret
        exact ⟨rfl, rfl⟩
      · have b1 : (x == id) = false := by simpa using he
        have HE : Hid ((l.take (k + 1)).contains id = false) := Lib.hid (by
          rw [ht]
          simp only [List.contains_eq_mem, List.mem_append, List.mem_singleton, decide_eq_false_iff_not] at hno ⊢
          exact fun h => h.elim hno fun e => he e.symm)
        clear hno ht hmem hx he
        go_wp2_with (fail)
        go_roundg (l.length - (k + 1))
        case measure => omega
        case rel => exact ⟨k + 1, rfl, by omega, by go_num, HE.out, rfl⟩
    · obtain rfl : k = l.length := by omega
      have i1 : ¬ (l.length : Int) < (l.length : Int) := by omega
      rw [List.take_length] at hno
      obtain rfl : r = false := HR.out.trans hno
      clear hno
      go_wp2_with (fail)
      go_ret
      exact ⟨rfl, rfl⟩
/-- the numbers that are there -/
def isin (l : List Int) : Int → Bool := fun id => l.contains id
set_option maxRecDepth 100000 in
set_option maxHeartbeats 3200000 in
theorem rfresh_any (A A2 : Option Addr) (c c2 B B2 : Nat) (l : List (Int × Kept)) (there : List Int) (w : World) (hB : B ≤ w.heap.size) (hs : Sl w B A (l.flatMap iE)) (hB2 : B2 ≤ w.heap.size) (hs2 : Sl w B2 A2 (us there)) (hq : l.length ≤ 2513169434915) (hq2 : there.length ≤ 17592186044416) :
    Calls Try.prog 7 #[.slice A l.length c, .slice A2 there.length c2] w fun e w' => e = .returned (.tuple #[.int .i64 (fr (isin there) (ids l)), .int .i64 (fe (isin there) (ids l))]) ∧ Below w.heap.size w w' := by
  have HIN : Hid (∀ W id, Below w.heap.size w W → Calls Try.prog 5 #[.slice A2 there.length c2, .int .u64 id] W fun e w' => e = .returned (.bool (isin there id)) ∧ W = w') := Lib.hid fun W id hW => in_any A2 c2 B2 there id W (hs2.below (hW.mono hB2)) hq2
  have HS := Lib.hid (And.intro hs hB)
  clear hs hs2 hB2 hB
  go_enter Try.func7, Try.ntmps7
  go_wp2_with (fail)
  go_loopg [6, 7] l.length (fun gk s6 s7 wr => ∃ (i : Nat), gk = l.length - i ∧ i ≤ l.length ∧ s6 = .int .i64 i ∧ (∀ j, j < i → dup (isin there) (ids l) j = false) ∧ Below w.heap.size w wr)
  case atStart => exact ⟨0, rfl, Nat.zero_le _, rfl, fun j hj => by omega, Below.refl _ _⟩
  case round =>
    obtain ⟨i, rfl, hi, rfl, hno, hb⟩ := hrel
    by_cases hlt : i < l.length
    · have i1 : (i : Int) < (l.length : Int) := by omega
      have hx := ids_at hlt
      obtain ⟨x, hxx⟩ : ∃ x, l[i].1 = x := ⟨_, rfl⟩
      rw [hxx] at hx
      have hd := dup_at (p := isin there) hx
      have HD := Lib.hid (And.intro hno hd)
      have HA : Hid (∀ W, Below w.heap.size w W → ∃ b o, A = some ⟨b, o, none⟩ ∧ W.cell? ⟨b, o + i * 4, none⟩ = some (.int .u64 x) ∧ ∀ k, k < l.length → ∃ y, (ids l)[k]? = some y ∧ W.cell? ⟨b, o + k * 4, none⟩ = some (.int .u64 y)) := Lib.hid fun W hW => by
        obtain ⟨b, o, e, hb1, d0, -⟩ := itemAt (HS.out.1.below (hW.mono HS.out.2)) hlt
        refine ⟨b, o, e, by rw [← hxx]; exact d0, fun k hk => ?_⟩
        obtain ⟨b', o', e', hb1', d0', -⟩ := itemAt (HS.out.1.below (hW.mono HS.out.2)) hk
        rw [e] at e'
        injection e' with e'
        injection e' with e1 e2
        subst e1 e2
        exact ⟨_, ids_at hk, d0'⟩
      have HX := Lib.hid hxx
      clear hno hd hx hxx
      obtain ⟨w0, hw0⟩ : ∃ w0, w0 = wr := ⟨_, rfl⟩
      subst hw0
      go_wp2_with (fail)
      go_loopg [7] i (fun gk s7 wr => ∃ (k : Nat), gk = i - k ∧ k ≤ i ∧ s7 = .int .i64 k ∧ ((ids l).take k).contains x = false ∧ Below w.heap.size w wr)
      case atStart => exact ⟨0, rfl, Nat.zero_le _, rfl, by simp, hb⟩
      case round =>
        clear hb
        obtain ⟨k, rfl, hk, rfl, hnk, hb⟩ := hrel
        obtain ⟨b, o, rfl, d0, hat⟩ := HA.out wr hb
        by_cases hki : k < i
        · have k1 : (k : Int) < (i : Int) := by omega
          have k2 : (k : Int) < (l.length : Int) := by omega
          obtain ⟨y, hy, e0⟩ := hat k (by omega)
          have HB := Lib.hid (And.intro hb (And.intro hy hnk))
          clear hat hb hy hnk
          by_cases he : y = x
          · have b1 : (y == x) = true := by simpa using he
            have HE : Hid (fr (isin there) (ids l) = i ∧ fe (isin there) (ids l) = 4) := Lib.hid (by
              refine fr_here HD.out.1 ?_ (by rw [ids_length]; exact hlt)
              rw [HD.out.2]
              have h1 : x ∈ (ids l).take i := by
                obtain ⟨h2, h3⟩ := List.getElem?_eq_some_iff.1 HB.out.2.1
                rw [← he, ← h3]
                exact List.mem_take_iff_getElem.2 ⟨k, by omega, rfl⟩
              simp only [List.contains_eq_mem, h1, decide_true, Bool.true_or])
            clear he
            go_wp2_with (fail)
            go_region
            go_wp2_with (fail)
            refine bodyPost_ret (v := .tuple #[.int .i64 (i : Int), .int .i64 4]) (by simp [results, Try.results7, go_sem]) rfl ?_
            exact ⟨by rw [HE.out.1, HE.out.2], HB.out.1.drew⟩
          · have b1 : (y == x) = false := by simpa using he
            have HE : Hid (((ids l).take (k + 1)).contains x = false) := Lib.hid (by
              have h1 := HB.out.2.2
              rw [List.take_add_one, HB.out.2.1]
              simp only [Option.toList_some, List.contains_eq_mem, List.mem_append, List.mem_singleton, decide_eq_false_iff_not] at h1 ⊢
              exact fun h => h.elim h1 fun e => he e.symm)
            clear he
            go_wp2_with (fail)
            go_region
            go_wp2_with (fail)
            go_roundg (i - (k + 1))
            case measure => omega
            case rel => exact ⟨k + 1, rfl, by omega, by go_num, HE.out, HB.out.1.drew⟩
        · obtain rfl : k = i := by omega
          have k1 : ¬ (k : Int) < (k : Int) := by omega
          have HC := Lib.hid (HIN.out wr x hb)
          have HB := Lib.hid (And.intro hb hnk)
          clear hat hb hnk
          cases hp : isin there x with
          | true =>
            rw [hp] at HC
            have HE : Hid (fr (isin there) (ids l) = k ∧ fe (isin there) (ids l) = 4) := Lib.hid (fr_here HD.out.1 (by rw [HD.out.2, hp, Bool.or_true]) (by rw [ids_length]; exact hlt))
            clear hp
            go_wp2_with (fail)
            refine HC.out.mono ?_
            rintro e w2 ⟨rfl, rfl⟩
            clear HC
            go_wp2_with (fail)
            refine bodyPost_ret (v := .tuple #[.int .i64 (k : Int), .int .i64 4]) (by simp [results, Try.results7, go_sem]) rfl ?_
            exact ⟨by rw [HE.out.1, HE.out.2], HB.out.1⟩
          | false =>
            rw [hp] at HC
            have HE : Hid (∀ j, j < k + 1 → dup (isin there) (ids l) j = false) := Lib.hid fun j hj => by
              rcases Nat.lt_or_ge j k with h | h
              · exact HD.out.1 j h
              · rw [show j = k by omega, HD.out.2, hp, Bool.or_false]; exact HB.out.2
            clear hp
            go_wp2_with (fail)
            refine HC.out.mono ?_
            rintro e w2 ⟨rfl, rfl⟩
            clear HC
            go_wp2_with (fail)
            go_roundg (l.length - (k + 1))
            case measure => omega
            case rel => exact ⟨k + 1, rfl, by omega, by go_num, HE.out, HB.out.1⟩
    · obtain rfl : i = l.length := by omega
      have i1 : ¬ (l.length : Int) < (l.length : Int) := by omega
      have hf := fr_none (p := isin there) (l := ids l) (by rw [ids_length]; exact hno)
      rw [ids_length] at hf
      have HF := Lib.hid (And.intro hf hb)
      clear hf hb hno
      go_wp2_with (fail)
      refine bodyPost_ret (v := .tuple #[.int .i64 (l.length : Int), .int .i64 0]) (by simp [results, Try.results7, go_sem]) rfl ?_
      exact ⟨by rw [HF.out.1.1, HF.out.1.2], HF.out.2⟩
set_option maxRecDepth 100000 in
set_option maxHeartbeats 1600000 in
theorem rsameU_any (A A2 : Option Addr) (c c2 B B2 : Nat) (l : List Int) (w : World) (hB : B ≤ w.heap.size) (hs : Sl w B A (us l)) (hB2 : B2 ≤ w.heap.size) (hs2 : Sl w B2 A2 (us l)) (hq : l.length ≤ 17592186044416) :
    Calls Try.prog 8 #[.slice A l.length c, .slice A2 l.length c2] w fun e w' => e = .returned (.bool true) ∧ Below w.heap.size w w' := by
  have HS := Lib.hid (And.intro hs (And.intro hs2 (And.intro hB hB2)))
  clear hs hs2 hB hB2
  go_enter Try.func8, Try.ntmps8
  go_wp2_with (fail)
  go_loopg [5] l.length (fun gk s5 wr => ∃ (k : Nat), gk = l.length - k ∧ k ≤ l.length ∧ s5 = .int .i64 k ∧ Below w.heap.size w wr)
  case atStart => exact ⟨0, rfl, Nat.zero_le _, rfl, Below.refl _ _⟩
  case round =>
    obtain ⟨k, rfl, hk, rfl, hb⟩ := hrel
    by_cases hlt : k < l.length
    · have i1 : (k : Int) < (l.length : Int) := by omega
      obtain ⟨ad, rfl, -, hc⟩ := us_at (HS.out.1.below (hb.mono HS.out.2.2.1)) hlt
      obtain ⟨ad2, rfl, -, hc2⟩ := us_at (HS.out.2.1.below (hb.mono HS.out.2.2.2)) hlt
      obtain ⟨x, hx⟩ : ∃ x, l[k] = x := ⟨_, rfl⟩
      rw [hx] at hc hc2
      have b1 : (x != x) = false := by simp
      have HB := Lib.hid hb
      clear hb hx
      go_wp2_with (fail)
      go_region
      go_wp2_with (fail)
      go_roundg (l.length - (k + 1))
      case measure => omega
      case rel => exact ⟨k + 1, rfl, by omega, by go_num, HB.out.drew⟩
    · obtain rfl : k = l.length := by omega
      have i1 : ¬ (l.length : Int) < (l.length : Int) := by omega
      have HB := Lib.hid hb
      clear hb
      go_wp2_with (fail)
      go_ret
      exact ⟨rfl, HB.out⟩
/-! ### questions -/
/-- where the law's question stands: it reads a row of numbers through a box -/
def Jq (gb base : Nat) (A : Option Addr) (c : Nat) (there : List Int) (W : World) : Prop := Blk W gb 23 #[.slice A there.length c] ∧ Sl W base A (us there)
theorem has_there (gb base : Nat) (A : Option Addr) (c : Nat) (there : List Int) (hg : gb < base) (hl : there.length ≤ 17592186044416) : Has (.func (.func 4) #[] #[.pointer (some ⟨gb, 0, none⟩)]) base (Jq gb base A c there) (isin there) where
  keep W W' := fun ⟨h1, h2⟩ hb => ⟨h1.below hb hg, h2.below hb⟩
  tells := ⟨4, #[.pointer (some ⟨gb, 0, none⟩)], rfl, enters_of Try.func4 (by kernel_rfl) rfl, fun W id hJ hB => by
    have HC := Lib.hid (in_any A c base there id W hJ.2 hl)
    have c0 : W.cell? ⟨gb, 0, none⟩ = some (.slice A there.length c) := hJ.1.cell 0
    clear hJ
    show Calls Try.prog 4 #[.int .u64 id, .pointer (some ⟨gb, 0, none⟩)] W _
    unfold isin
    generalize there.contains id = r at HC ⊢
    go_enter Try.func4, Try.ntmps4
    go_wp2_with (fail)
    refine HC.out.mono ?_
    rintro e w2 ⟨rfl, rfl⟩
    clear HC
    go_wp2_with (fail)
    go_ret
    exact ⟨rfl, Below.refl _ _⟩⟩
theorem has_none : Has (.func (.func 19) #[] #[]) 0 (fun _ => True) (fun _ => false) where
  keep W W' _ _ := trivial
  tells := ⟨19, #[], rfl, enters_of Try.func19 (by kernel_rfl) rfl, fun W id _ _ => by
    show Calls Try.prog 19 #[.int .u64 id] W _
    go_enter Try.func19, Try.ntmps19
    go_wp2_with (fail)
    go_ret
    exact ⟨rfl, Below.refl _ _⟩⟩
def three : List (Int × Kept) := [(3, zK), (5, zK), (3, zK)]
set_option maxRecDepth 100000 in
theorem lives_any (w : World) : Calls Try.prog 12 #[] w fun e w' => e = .returned (.bool true) ∧ Below w.heap.size w w' := by
  obtain ⟨V, hV⟩ : ∃ V, V = w.alloc (.cells (three.flatMap iE).toArray 36) := ⟨_, rfl⟩
  have hB : Below w.heap.size w V := by rw [hV]; exact (Below.refl _ _).alloc (Nat.le_refl _) _
  have hS : Sl V V.heap.size (some ⟨w.heap.size, 0, none⟩) (three.flatMap iE) := by rw [hV]; exact Sl.lit w _ _
  have hF := fresh_any has_none (some ⟨w.heap.size, 0, none⟩) 3 V.heap.size three V trivial (Nat.zero_le _) (Nat.le_refl _) hS (fun p hp => by
    simp only [three, List.mem_cons, List.not_mem_nil, or_false] at hp
    rcases hp with rfl | rfl | rfl <;> rfl) (by decide)
  rw [show fr (fun _ => false) (ids three) = 2 by rfl, show fe (fun _ => false) (ids three) = 4 by rfl] at hF
  have HF : Hid (Calls Try.prog 6 #[.slice (some ⟨w.heap.size, 0, none⟩) 3 3, .func (.func 19) #[] #[]] V fun e w' => e = .returned (.tuple #[.int .i64 2, .int .i64 4]) ∧ Below w.heap.size w w') := Lib.hid (hF.mono fun e w' ⟨he, hb⟩ => ⟨he, hB.trans (hb.mono hB.size)⟩)
  rw [show (three.flatMap iE).toArray = #[.int .u64 3, .int .i64 0, .slice none 0 0, .string ⟨#[]⟩, .int .u64 5, .int .i64 0, .slice none 0 0, .string ⟨#[]⟩, .int .u64 3, .int .i64 0, .slice none 0 0, .string ⟨#[]⟩] by rfl] at hV
  have HV := Lib.hid hV
  clear hV hB hS hF
  go_enter Try.func12, Try.ntmps12
  go_wp2_with (fail)
  rw [← HV.out]
  refine HF.out.mono ?_
  rintro e w2 ⟨rfl, hb⟩
  have HB := Lib.hid hb
  clear hb HF
  go_wp2_with (fail)
  go_ret
  exact ⟨rfl, HB.out⟩
end Go.Proofs.Ytcdjmgmombaiaaa.idx
