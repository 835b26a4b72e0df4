/-
  The document's own answers: the contracts of its Find, Rank, Put, Cut, Ids and Same.
-/
import Derived.Test.YthcdppfnejfgeaaDirD
import Derived.Test.YthcdppfnejfgeaaAw
namespace Go.Proofs.Ythcdppfnejfgeaa.direct
open Go.RowKit law bytes only flat came
set_option linter.unusedVariables false

/-- a row's cells -/
def rE (x : Int × Int) : List Value := [.int .u64 x.1, .int .i64 x.2]
theorem rE_len (x : Int × Int) : (rE x).length = 2 := rfl
theorem rE_one (l : List (Int × Int)) : ∀ u ∈ l.flatMap rE, u.oneCell' = true := by
  intro u hu
  simp only [List.mem_flatMap, rE, List.mem_cons, List.not_mem_nil, or_false] at hu
  obtain ⟨a, -, rfl | rfl⟩ := hu <;> rfl
theorem rowK : ElemK Try.prog 54 2 16 := elemK_mk (z := .agg #[.int .u64 0, .int .i64 0]) (by kernel_rfl) rfl
theorem row_cells {w : World} {B : Nat} {A : Option Addr} {l : List (Int × Int)} (h : Sl w B A (l.flatMap rE)) (k : Nat) (hk : k < l.length) :
    ∃ b o, A = some ⟨b, o, none⟩ ∧ b < B ∧ w.cell? ⟨b, o + k * 2, none⟩ = some (.int .u64 l[k].1) ∧ w.cell? ⟨b, o + k * 2 + 1, none⟩ = some (.int .i64 l[k].2) := by
  have hl : (l.flatMap rE).length = l.length * 2 := flat_length rE_len l
  obtain ⟨b, o, rfl, hb, hc⟩ := Sl.place h (by omega)
  have h0 := flat_get rE_len l k 0 hk (by decide)
  have h1 := flat_get rE_len l k 1 hk (by decide)
  have c0 := hc (k * 2 + 0) (by omega)
  have c1 := hc (k * 2 + 1) (by omega)
  rw [List.getElem?_eq_getElem (by omega)] at h0 h1
  simp only [rE, List.getElem?_cons_zero, List.getElem?_cons_succ, Option.some.injEq] at h0 h1
  rw [h0] at c0
  rw [h1] at c1
  exact ⟨b, o, rfl, hb, c0, c1⟩
theorem fd_drop {r : List (Int × Int)} {k : Nat} (hk : k < r.length) (id : Int) : fd (r.drop k) id = if r[k].1 = id then some r[k].2 else fd (r.drop (k + 1)) id := by
  rw [List.drop_eq_getElem_cons hk]
  exact fd_cons r[k].1 r[k].2 (r.drop (k + 1)) id
set_option maxRecDepth 100000 in
set_option maxHeartbeats 1600000 in
theorem rfind_any {w : World} {A : Option Addr} {c : Nat} {r : List (Int × Int)} (h : Sl w w.heap.size A (r.flatMap rE)) (id : Int) (hn : r.length ≤ 8796093022208) :
    Calls Try.prog 12 #[.slice A r.length c, .int .u64 id] w fun e w' => e = .returned (.tuple #[.int .i64 ((fd r id).getD 0), .bool (fd r id).isSome]) ∧ w = w' := by
  have HS := Lib.hid h
  clear h
  go_enter Try.func12, Try.ntmps12
  go_wp2_with (fail)
  go_loopg [6] r.length (fun gk s6 wr => w = wr ∧ ∃ k : Nat, gk = r.length - k ∧ k ≤ r.length ∧ s6 = .int .i64 k ∧ fd (r.drop k) id = fd r id)
  case atStart => exact ⟨rfl, 0, rfl, Nat.zero_le _, rfl, rfl⟩
  case round =>
    obtain ⟨rfl, k, rfl, hk, rfl, hf⟩ := hrel
    by_cases hlt : k < r.length
    · obtain ⟨b, o, rfl, hb, c0, c1⟩ := row_cells HS.out k hlt
      have i1 : (k : Int) < (r.length : Int) := by omega
      have hfd := fd_drop hlt id
      rw [hf] at hfd
      by_cases he : r[k].1 = id
      · rw [if_pos he] at hfd
        obtain ⟨x, hx⟩ : ∃ x, r[k].2 = x := ⟨_, rfl⟩
        rw [he] at c0
        rw [hx] at c1 hfd
        have HF := Lib.hid hfd
        have d0 : (id == id) = true := by simp
        clear hf hx hfd he HS
        go_wp2_with (fail)
        refine bodyPost_ret (v := .tuple #[.int .i64 x, .bool true]) (by simp [results, Try.results12, go_sem]) rfl ?_
        exact ⟨by rw [HF.out]; rfl, rfl⟩
      · rw [if_neg he] at hfd
        have d0 : (r[k].1 == id) = false := by simpa using he
        have HF := Lib.hid hfd.symm
        obtain ⟨x, hx⟩ : ∃ x, r[k].1 = x := ⟨_, rfl⟩
        rw [hx] at c0 d0
        clear hf hx hfd he c1
        go_wp2_with (fail)
        go_roundg (r.length - (k + 1))
        case measure => omega
        case rel => exact ⟨rfl, k + 1, rfl, by omega, by go_num, HF.out⟩
    · obtain rfl : k = r.length := by omega
      have hf2 : fd r id = none := by rw [← hf, List.drop_length]; rfl
      have HF := Lib.hid hf2
      have i1 : ¬ (r.length : Int) < (r.length : Int) := by omega
      clear hf hf2 HS
      go_wp2_with (fail)
      refine bodyPost_ret (v := .tuple #[.int .i64 0, .bool false]) (by simp [results, Try.results12, go_sem]) rfl ?_
      exact ⟨by rw [HF.out]; rfl, rfl⟩
theorem rk_take {r : List (Int × Int)} {k : Nat} (hk : k < r.length) (id : Int) : rk (r.take (k + 1)) id = rk (r.take k) id + if r[k].1 < id then 1 else 0 := by
  rw [List.take_succ_eq_append_getElem hk, rk_append, rk_cons]
  simp [rk]
set_option maxRecDepth 100000 in
set_option maxHeartbeats 1600000 in
theorem rrank_any {w : World} {A : Option Addr} {c : Nat} {r : List (Int × Int)} (h : Sl w w.heap.size A (r.flatMap rE)) (id : Int) (hn : r.length ≤ 8796093022208) :
    Calls Try.prog 19 #[.slice A r.length c, .int .u64 id] w fun e w' => e = .returned (.int .i64 (rk r id)) ∧ w = w' := by
  have HS := Lib.hid h
  clear h
  go_enter Try.func19, Try.ntmps19
  go_wp2_with (fail)
  go_loopg [5, 6] r.length (fun gk s5 s6 wr => w = wr ∧ ∃ k x : Nat, gk = r.length - k ∧ k ≤ r.length ∧ s6 = .int .i64 k ∧ s5 = .int .i64 x ∧ x = rk (r.take k) id ∧ x ≤ k)
  case atStart => exact ⟨rfl, 0, 0, rfl, Nat.zero_le _, rfl, rfl, rfl, Nat.le_refl _⟩
  case round =>
    obtain ⟨rfl, k, x, rfl, hk, rfl, rfl, hx, hxk⟩ := hrel
    by_cases hlt : k < r.length
    · obtain ⟨b, o, rfl, hb, c0, -⟩ := row_cells HS.out k hlt
      have i1 : (k : Int) < (r.length : Int) := by omega
      have ht := rk_take hlt id
      by_cases he : r[k].1 < id
      · rw [if_pos he] at ht
        have d0 : decide (r[k].1 < id) = true := decide_eq_true he
        obtain ⟨y, hy⟩ : ∃ x, r[k].1 = x := ⟨_, rfl⟩
        rw [hy] at c0 d0
        have HX := Lib.hid (show x + 1 = rk (r.take (k + 1)) id by omega)
        clear he ht hy hx
        go_wp2_with (fail)
        go_roundg (r.length - (k + 1))
        case measure => omega
        case rel => exact ⟨rfl, k + 1, x + 1, rfl, by omega, by go_num, by go_num, HX.out, by omega⟩
      · rw [if_neg he] at ht
        have d0 : decide (r[k].1 < id) = false := decide_eq_false he
        obtain ⟨y, hy⟩ : ∃ x, r[k].1 = x := ⟨_, rfl⟩
        rw [hy] at c0 d0
        have HX := Lib.hid (show x = rk (r.take (k + 1)) id by omega)
        clear he ht hy hx
        go_wp2_with (fail)
        go_roundg (r.length - (k + 1))
        case measure => omega
        case rel => exact ⟨rfl, k + 1, x, rfl, by omega, by go_num, by go_num, HX.out, by omega⟩
    · obtain rfl : k = r.length := by omega
      rw [List.take_length] at hx
      have HX := Lib.hid hx
      have i1 : ¬ (r.length : Int) < (r.length : Int) := by omega
      clear hx HS
      go_wp2_with (fail)
      go_ret
      exact ⟨by rw [← HX.out]; rfl, rfl⟩
/-- a row of the call's own -/
def RPost (w : World) (r : List (Int × Int)) (b : Bool) (e : Ending) (w' : World) : Prop := ∃ A c, e = .returned (.tuple #[.slice A r.length c, .bool b]) ∧ w'.ownsRow w.heap.size 54 2 (.slice A r.length c) r.length (r.flatMap rE) ∧ Below w.heap.size w w'
theorem RPost.mk {w w' : World} {r : List (Int × Int)} {A : Option Addr} {m c : Nat} {b : Bool} {xs : List Value} (ho : w'.ownsRow w.heap.size 54 2 (.slice A m c) m xs) (hx : xs = r.flatMap rE) (hb : Below w.heap.size w w') : RPost w r b (.returned (.tuple #[.slice A m c, .bool b])) w' := by
  subst hx
  have : m = r.length := by have := ho.1; rw [flat_length rE_len] at this; omega
  subst this
  exact ⟨A, c, rfl, ho, hb⟩
set_option maxRecDepth 100000 in
set_option maxHeartbeats 3200000 in
theorem rput_no {w : World} {A : Option Addr} {c : Nat} {r : List (Int × Int)} (h : Sl w w.heap.size A (r.flatMap rE)) (id s : Int) (hn : r.length ≤ 5864062014806) (hf : (fd r id).isSome = true) :
    Calls Try.prog 10 #[.slice A r.length c, .int .u64 id, .int .i64 s] w fun e w' => e = .returned (.tuple #[.slice A r.length c, .bool false]) ∧ w = w' := by
  have HF := rfind_any (c := c) h id (by omega)
  rw [hf] at HF
  generalize (fd r id).getD 0 = x at HF
  have HF := Lib.hid HF
  clear h hf
  go_enter Try.func10, Try.ntmps10
  go_wp2_with (go_at_call 12; (with_reducible refine HF.out.mono ?_); rintro e w' ⟨rfl, rfl⟩)
  refine bodyPost_ret (v := .tuple #[.slice A r.length c, .bool false]) (by simp [results, Try.results10, go_sem]) rfl ?_
  exact ⟨rfl, rfl⟩
set_option maxRecDepth 100000 in
set_option maxHeartbeats 3200000 in
theorem rput_yes {w : World} {A : Option Addr} {c : Nat} {r : List (Int × Int)} (h : Sl w w.heap.size A (r.flatMap rE)) (id s : Int) (hn : r.length ≤ 5864062014806) (hf : fd r id = none) :
    Calls Try.prog 10 #[.slice A r.length c, .int .u64 id, .int .i64 s] w (RPost w (r ++ [(id, s)]) true) := by
  have HF := rfind_any (c := c) h id (by omega)
  rw [hf] at HF
  have HF : Hid (Calls Try.prog 12 #[.slice A r.length c, .int .u64 id] w fun e w' => e = .returned (.tuple #[.int .i64 0, .bool false]) ∧ w = w') := Lib.hid HF
  have HS := Lib.hid h
  have HX : Hid (r.flatMap rE ++ rE (id, s) = (r ++ [(id, s)]).flatMap rE) := Lib.hid (by simp [List.flatMap_append])
  clear h hf
  go_enter Try.func10, Try.ntmps10
  go_wp2_with (first
    | (go_at_call 12; (with_reducible refine HF.out.mono ?_); rintro e w' ⟨rfl, rfl⟩)
    | (at_builtin
       refine wpList_append_slk _ rfl _ (.tmp 18) _ rfl w.heap.size 54 2 16 Try.underlying25 rowK (by decide) (.slice none 0 0) 0 [] rfl (World.ownsRow_nil _ _ _ _) w.heap.size A r.length c (r.flatMap rE) rfl HS.out (flat_length rE_len r) (rE_one r) (by omega) (by unfold maxLen; omega) (Nat.le_refl _) ?_
       intro v1 w1 hown1 hg1 hat1
       rw [Nat.zero_add, List.nil_append] at hown1
       have hb1 : Below w.heap.size w w1 := (Below.refl _ _).grown hg1 (Nat.le_refl _) (fun k hk => by cases hk)
       obtain ⟨A1, c1, rfl, hc1⟩ := own_slice hown1
       clear hg1 hat1)
    | (at_builtin
       refine wpList_append_slk _ rfl (.tmp 19) (.tmp 23) _ rfl w.heap.size 54 2 16 Try.underlying25 rowK (by decide) (.slice A1 r.length c1) r.length (r.flatMap rE) rfl (World.ownsRow.alloc (w := w1) hown1 _) _ _ 1 1 (rE (id, s)) rfl (Sl.lit w1 (rE (id, s)) _) rfl (by simp [rE, Value.oneCell']) (by omega) (by unfold maxLen; omega) (by have := hb1.size; simp; omega) ?_
       intro v2 w2 hown2 hg2 hat2
       have hb2 := below_appendK1 hb1 hb1.size _ hown1 (Nat.le_refl _) hg2
       obtain ⟨A2, c2, rfl, hc2⟩ := own_slice hown2
       have HE := Lib.hid (RPost.mk (b := true) hown2 HX.out hb2)
       clear hown1 hown2 hg2 hat2 hb1 hb2))
  refine bodyPost_ret (v := .tuple #[.slice A2 (r.length + 1) c2, .bool true]) (by simp [results, Try.results10, go_sem]) rfl ?_
  exact HE.out
end Go.Proofs.Ythcdppfnejfgeaa.direct
