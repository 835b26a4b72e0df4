/-
  The document's own rows of items: Get.
-/
import Derived.Test.YtaickhhbdbbmjaaStA
import Derived.Test.YtaickhhbdbbmjaaAw
namespace Go.Proofs.Ytaickhhbdbbmjaa.store
open Go.RowKit law bytes only flat ord obj
open aro (Kept zK)
set_option linter.unusedVariables false

/-- what is of a number in a row of items -/
def gq (q : List (Int × Kept)) (id : Int) : Option Kept := (q.find? fun p => p.1 == id).map (·.2)
theorem gq_rM (q : List (Int × Kept)) (id : Int) : mf (rM q) id = (gq q id).map (·.x) := by
  unfold mf rM gq
  rw [List.find?_map]
  cases h : List.find? ((fun x : Int × Thing => x.1 == id) ∘ fun p : Int × Kept => (p.1, p.2.x)) q with
  | none =>
    have h2 : q.find? (fun p => p.1 == id) = none := h
    rw [h2]; rfl
  | some p =>
    have h2 : q.find? (fun p => p.1 == id) = some p := h
    rw [h2]; rfl
theorem itemAt {W : World} {B k : Nat} {A : Option Addr} {q : List (Int × Kept)} (h : Sl W B A (q.flatMap iE)) (hk : k < q.length) : ∃ b o, A = some ⟨b, o, none⟩ ∧ b < B ∧ W.cell? ⟨b, o + k * 4, none⟩ = some (.int .u64 q[k].1) ∧ W.cell? ⟨b, o + k * 4 + 1, none⟩ = some (.int .i64 q[k].2.x.tag) ∧
    W.cell? ⟨b, o + k * 4 + 2, none⟩ = some (.slice q[k].2.A q[k].2.x.vec.length q[k].2.c) ∧ W.cell? ⟨b, o + k * 4 + 3, none⟩ = some (.string q[k].2.x.str) := by
  have hl := flat_length iE_len q
  obtain ⟨b, o, e, hb, hc⟩ := Sl.place h (by rw [hl]; omega)
  have key : ∀ j, (hj : j < 4) → W.cell? ⟨b, o + (k * 4 + j), none⟩ = (iE q[k])[j]? := fun j hj => by
    have h1 := hc (k * 4 + j) (by rw [hl]; omega)
    have h2 := flat_get iE_len q k j hk hj
    rw [List.getElem?_eq_getElem (by rw [hl]; omega)] at h2
    rw [h1, h2]
  exact ⟨b, o, e, hb, key 0 (by decide), key 1 (by decide), key 2 (by decide), key 3 (by decide)⟩
theorem gq_take_none {q : List (Int × Kept)} {id : Int} (h : ∀ p ∈ q, p.1 ≠ id) : gq q id = none := by
  unfold gq
  rw [List.find?_eq_none.2 fun p hp => by simpa using h p hp]
  rfl
theorem gq_here {q : List (Int × Kept)} {id : Int} {k : Nat} (hk : k < q.length) (h : ∀ p ∈ q.take k, p.1 ≠ id) (he : q[k].1 = id) : gq q id = some q[k].2 := by
  unfold gq
  have e : q = q.take k ++ q[k] :: q.drop (k + 1) := by rw [← List.drop_eq_getElem_cons hk, List.take_append_drop]
  have h1 : (q.take k).find? (fun p => p.1 == id) = none := List.find?_eq_none.2 fun p hp => by simpa using h p hp
  have h2 : q.find? (fun p => p.1 == id) = some q[k] := by
    conv => lhs; rw [e]
    rw [List.find?_append, h1, List.find?_cons_of_pos (by simp [he])]
    rfl
  rw [h2]
  rfl
set_option maxRecDepth 100000 in
set_option maxHeartbeats 1600000 in
theorem rget_any (A : Option Addr) (c : Nat) (q : List (Int × Kept)) (id : Int) (w : World) (hs : Sl w w.heap.size A (q.flatMap iE)) (hq : q.length ≤ 2513169434915) :
    Calls Try.prog 13 #[.slice A q.length c, .int .u64 id] w fun e w' => e = .returned (.tuple #[aro.kV ((gq q id).getD zK), .bool (gq q id).isSome]) ∧ Below w.heap.size w w' := by
  have hb1 : Below w.heap.size w (w.alloc (.cells #[.int .i64 0, .slice none 0 0, .string ⟨#[]⟩] 29)) := (Below.refl _ _).alloc (Nat.le_refl _) _
  have hgr := Blk.new w 29 #[.int .i64 0, .slice none 0 0, .string ⟨#[]⟩]
  have hs1 := hs.below hb1
  generalize hV : w.alloc (.cells #[.int .i64 0, .slice none 0 0, .string ⟨#[]⟩] 29) = V at hb1 hgr hs1
  obtain ⟨g, hg⟩ : ∃ g, g = w.heap.size := ⟨_, rfl⟩
  rw [← hg] at hgr
  obtain ⟨q0, q1, q2, qf⟩ := cells3 hgr
  have HG := Lib.hid hg
  have HB := Lib.hid hb1
  have HS := Lib.hid hs1
  clear hs hs1 hb1 hgr hg
  go_enter Try.func13, Try.ntmps13
  go_wp2_with (fail)
  rw [← HG.out]
  go_loopg [6] q.length (fun gk s6 wr => ∃ k : Nat, gk = q.length - k ∧ k ≤ q.length ∧ s6 = .int .i64 k ∧ (∀ p ∈ q.take k, p.1 ≠ id) ∧ wr = V)
  case atStart => exact ⟨0, rfl, Nat.zero_le _, rfl, fun p hp => by simp at hp, rfl⟩
  case round =>
    obtain ⟨k, rfl, hk, rfl, hne, rfl⟩ := hrel
    by_cases hlt : k < q.length
    · have i1 : (k : Int) < (q.length : Int) := by omega
      obtain ⟨b, o, rfl, -, d0, d1, d2, d3⟩ := itemAt HS.out hlt
      by_cases he : q[k].1 = id
      · have hgq := gq_here hlt hne he
        have i2 : (id == id) = true := by simp
        rw [he] at d0
        generalize q[k].2 = kk at d1 d2 d3 hgq
        have HQ := Lib.hid hgq
        clear hgq he hne
        go_wp2_with (fail)
        refine bodyPost_ret (v := .tuple #[aro.kV kk, .bool true]) (by simp [results, Try.results13, go_sem, q0, q1, q2, aro.kV]) rfl ?_
        exact ⟨by rw [HQ.out]; rfl, box_below HB.out (Below.refl _ _) HG.out _ _ _⟩
      · have i2 : (q[k].1 == id) = false := by simpa using he
        have HN : Hid (∀ p ∈ q.take (k + 1), p.1 ≠ id) := Lib.hid fun p hp => by
          rw [List.take_add_one, List.getElem?_eq_getElem hlt] at hp
          rcases List.mem_append.1 hp with hp | hp
          · exact hne p hp
          · obtain rfl : p = q[k] := by simpa using hp
            exact he
        generalize q[k].1 = i at d0 i2
        clear he hne d1 d2 d3
        go_wp2_with (fail)
        go_roundg (q.length - (k + 1))
        case measure => omega
        case rel => exact ⟨k + 1, rfl, by omega, by go_num, HN.out, rfl⟩
    · obtain rfl : k = q.length := by omega
      have i1 : ¬ (q.length : Int) < (q.length : Int) := by omega
      rw [List.take_length] at hne
      have HQ := Lib.hid (gq_take_none hne)
      clear hne
      go_wp2_with (fail)
      refine bodyPost_ret (v := .tuple #[aro.kV zK, .bool false]) (by simp [results, Try.results13, go_sem, q0, q1, q2, aro.kV, zK, zeroO]) rfl ?_
      exact ⟨by rw [HQ.out]; rfl, box_below HB.out (Below.refl _ _) HG.out _ _ _⟩
end Go.Proofs.Ytaickhhbdbbmjaa.store
