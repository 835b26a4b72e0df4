/-
  The contract of ids: all numbers of a tree behind a row, rising.
-/
import Derived.Test.YtaickhhbdbbmjaaDirO
namespace Go.Proofs.Ytaickhhbdbbmjaa.direct
open Go.RowKit law bytes only flat
set_option linter.unusedVariables false

theorem u64E : Elem Try.prog 26 (.int .u64 0) 8 := elem_mk (by kernel_rfl) rfl
def kv (F : List (Int × Int)) : List Value := F.map fun x => Value.int .u64 x.1
theorem kv_append (F G : List (Int × Int)) : kv (F ++ G) = kv F ++ kv G := by simp [kv]
theorem kv_length (F : List (Int × Int)) : (kv F).length = F.length := by simp [kv]
def IdsPost (w : World) (base m : Nat) (xs : List Value) (e : Ending) (w' : World) : Prop := ∃ A c, e = .returned (.slice A m c) ∧ w'.ownsRow base 26 1 (.slice A m c) m xs ∧ Below base w w'
theorem IdsPost.cast {w w' : World} {base m m' : Nat} {xs xs' : List Value} {e : Ending} (h : IdsPost w base m xs e w') (hm : m = m') (hx : xs = xs') : IdsPost w base m' xs' e w' := by subst hm hx; exact h
set_option maxRecDepth 100000 in
set_option maxHeartbeats 3200000 in
theorem ids_any : ∀ (t : T) {w : World} {base m c : Nat} {A : Option Addr} {xs : List Value}, Tr w t → (∀ i ∈ t.bs, i < base) → w.ownsRow base 26 1 (.slice A m c) m xs → base ≤ w.heap.size → (m + t.n) * 8 ≤ 140737488355328 →
    Calls Try.prog 49 #[pt t, .slice A m c] w (IdsPost w base (m + t.n) (xs ++ kv t.flat)) := by
  intro t
  induction t with
  | nil =>
    intro w base m c A xs _ _ hown _ _
    have HE : Hid (IdsPost w base (m + T.nil.n) (xs ++ kv T.nil.flat) (.returned (.slice A m c)) w) := Lib.hid ⟨A, c, rfl, by simpa [T.flat, T.n, kv] using hown, Below.refl _ _⟩
    show Calls Try.prog 49 #[.pointer none, .slice A m c] w (IdsPost w base (m + T.nil.n) (xs ++ kv T.nil.flat))
    clear hown
    go_enter Try.func49, Try.ntmps49
    go_wp2_with (fail)
    go_ret
    exact HE.out
  | node b l k s r ihl ihr =>
    intro w base m c A xs h hlow hown hB hn
    have hnn : (T.node b l k s r).n = l.n + r.n + 1 := rfl
    have HL := Lib.hid (ihl h.2.1 (fun i hi => hlow i (by simp [T.bs, hi])) hown hB (by omega))
    obtain ⟨q3, hq3⟩ : ∃ v, v = pa l := ⟨_, rfl⟩
    obtain ⟨q4, hq4⟩ : ∃ v, v = pa r := ⟨_, rfl⟩
    have c3 : w.cell? ⟨b, 3, none⟩ = some (.pointer q3) := by rw [hq3]; exact h.1.cell 3
    have hb := hlow b (by simp [T.bs])
    show Calls Try.prog 49 #[.pointer (some ⟨b, 0, none⟩), .slice A m c] w (IdsPost w base (m + (T.node b l k s r).n) (xs ++ kv (T.node b l k s r).flat))
    have hptl : pt l = .pointer q3 := by rw [hq3]; rfl
    rw [hptl] at HL
    have HR : Hid (∀ (A2 : Option Addr) (c2 : Nat) (w2 : World) (ys : List Value), Below base w w2 → w2.ownsRow base 26 1 (.slice A2 (m + l.n + 1) c2) (m + l.n + 1) ys → ys = xs ++ kv l.flat ++ [.int .u64 k] →
        Calls Try.prog 49 #[.pointer q4, .slice A2 (m + l.n + 1) c2] w2 (IdsPost w base (m + (T.node b l k s r).n) (xs ++ kv (T.node b l k s r).flat))) := Lib.hid fun A2 c2 w2 ys hb2 ho2 hys => by
      have hr2 : Tr w2 r := Tr.only (S := fun i => base ≤ i) ⟨hb2.os, hb2.tape, hb2.output, hb2.size, fun i hi hs => hb2.block i (by omega)⟩ h.2.2 fun i hi e => by have := hlow i (by simp [T.bs, hi]); omega
      rw [hq4]
      refine (ihr hr2 (fun i hi => hlow i (by simp [T.bs, hi])) ho2 (Nat.le_trans hB hb2.size) (by omega)).mono fun e w3 ⟨A3, c3, he, ho3, hb3⟩ => ?_
      exact IdsPost.cast ⟨A3, c3, he, ho3, hb2.trans hb3⟩ (by omega) (by rw [hys, T.flat, kv_append]; simp [kv])
    have HC : Hid (∀ W, Below base w W → W.cell? ⟨b, 0, none⟩ = some (.int .u64 k) ∧ W.cell? ⟨b, 4, none⟩ = some (.pointer q4)) := Lib.hid fun W hW => by
      have h2 := h.1.below hW hb
      rw [hq4]
      exact ⟨h2.cell 0, h2.cell 4⟩
    obtain ⟨m1, hm1⟩ : ∃ v, m + l.n = v := ⟨_, rfl⟩
    have hm1b : (m1 + 1) * 8 ≤ 140737488355328 := by omega
    rw [hm1] at HR HL
    clear ihl ihr h hlow hown hn hnn hq3 hq4 hptl hm1
    go_enter Try.func49, Try.ntmps49
    go_wp2_with (fail)
    refine HL.out.mono ?_
    rintro e w1 ⟨A1, c1, rfl, hown1, hb1⟩
    obtain ⟨k0, k4⟩ := HC.out w1 hb1
    have hs1 := hb1.size
    clear HL c3
    go_wp2_with (at_builtin
                 refine wpList_append_sl _ rfl (.tmp 15) (.tmp 20) _ rfl base 26 _ 8 Try.underlying88 u64E (.slice A1 m1 c1) m1 (xs ++ kv l.flat) rfl (World.ownsRow.alloc (w := w1) hown1 _) _ _ 1 1 [.int .u64 k] rfl (Sl.one w1 _ _) rfl (by simp [Value.oneCell']) (by omega) (by unfold maxLen; omega) (by simp; omega) ?_
                 intro v4 w4 hown4 hg4 hat4
                 have hb4 := below_append hb1 (by omega) _ hown1 (Nat.le_refl _) hg4
                 obtain ⟨A4, c4, rfl, hc4⟩ := own_slice hown4
                 have j4 := (HC.out w4 hb4).2
                 have HR4 := Lib.hid (HR.out A4 c4 w4 _ hb4 hown4 rfl)
                 clear hown4 hg4 hat4 hb4 HR HC)
    refine HR4.out.mono ?_
    rintro e w5 hE
    have HE := Lib.hid hE
    obtain ⟨A5, c5, rfl, -⟩ := hE
    go_wp2_with (fail)
    go_ret
    exact HE.out
end Go.Proofs.Ytaickhhbdbbmjaa.direct
