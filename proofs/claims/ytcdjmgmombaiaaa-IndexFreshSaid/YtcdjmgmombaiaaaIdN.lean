/-
  The contract of index.Missing: the numbers that aren't there, in order.
-/
import Derived.Test.YtcdjmgmombaiaaaIdT
namespace Go.Proofs.Ytcdjmgmombaiaaa.idx
open Go.RowKit law bytes only flat ord obj Go.Maps
open aro (Kept zK kV)
open store (iE iE_len itemAt)
set_option linter.unusedVariables false

/-- a row of numbers, in memory of the call's own -/
def Nums (w : World) (l : List Int) (e : Ending) (w' : World) : Prop := ∃ A c, e = .returned (.slice A l.length c) ∧ w'.ownsRow w.heap.size 24 1 (.slice A l.length c) l.length (us l) ∧ Below w.heap.size w w'
set_option maxRecDepth 100000 in
set_option maxHeartbeats 3200000 in
theorem missing_any {F : Value} {base : Nat} {J : World → Prop} {p : Int → Bool} (H : Has F base J p) (A : Option Addr) (c B : Nat) (l : List (Int × Kept)) (w : World) (hJ : J w) (hB : base ≤ w.heap.size) (hBw : B ≤ w.heap.size) (hs : Sl w B A (l.flatMap iE)) (hq : l.length ≤ 2513169434915) :
    Calls Try.prog 9 #[.slice A l.length c, F] w (Nums w (ms p (ids l))) := by
  have HT : Hid (∀ W id, Below w.heap.size w W → Calls Try.prog 13 #[F, .int .u64 id] W fun e w' => e = .returned (.bool (p id)) ∧ Below W.heap.size W w') := Lib.hid fun W id hW => tells_any H id W (H.keep _ _ hJ (hW.mono hB)) (Nat.le_trans hB hW.size)
  have HS := Lib.hid (And.intro hs hBw)
  have HR0 : Hid (w.ownsRow w.heap.size 24 1 (.slice none 0 0) 0 (us (ms p ((ids l).take 0)))) := Lib.hid (World.ownsRow_nil _ _ _ _)
  clear hs hJ hBw H
  go_enter Try.func9, Try.ntmps9
  go_wp2_with (fail)
  go_loopg [5, 10] l.length (fun gk s5 s10 wr => ∃ (k m c' : Nat) (A' : Option Addr), gk = l.length - k ∧ k ≤ l.length ∧ s10 = .int .i64 k ∧ s5 = .slice A' m c' ∧ m = (ms p ((ids l).take k)).length ∧ wr.ownsRow w.heap.size 24 1 (.slice A' m c') m (us (ms p ((ids l).take k))) ∧ Below w.heap.size w wr)
  case atStart => exact ⟨0, 0, 0, none, rfl, Nat.zero_le _, rfl, rfl, rfl, HR0.out, Below.refl _ _⟩
  case round =>
    clear HR0
    obtain ⟨k, m, c', A', rfl, hk, rfl, rfl, hm, hown, hb⟩ := hrel
    by_cases hlt : k < l.length
    · have i1 : (k : Int) < (l.length : Int) := by omega
      have hmk : m ≤ k := by
        rw [hm]
        refine Nat.le_trans ms_le ?_
        simp
        omega
      obtain ⟨b, o, rfl, hb1, d0, d1, d2, d3⟩ := itemAt (HS.out.1.below (hb.mono HS.out.2)) hlt
      have hx := ms_snoc (p := p) (ids_at hlt)
      obtain ⟨id, hid⟩ : ∃ id, l[k].1 = id := ⟨_, rfl⟩
      rw [hid] at d0 hx
      generalize l[k].2 = kp at d1 d2 d3
      have hV2 : Below w.heap.size w (wr.alloc (.cells #[.int .u64 id, .int .i64 kp.x.tag, .slice kp.A kp.x.vec.length kp.c, .string kp.x.str] 36)) := hb.alloc hb.size _
      have HC := Lib.hid (HT.out _ id hV2)
      have hk2 := Blk.new wr 36 #[.int .u64 id, .int .i64 kp.x.tag, .slice kp.A kp.x.vec.length kp.c, .string kp.x.str]
      have ho2 := hown.alloc (.cells #[.int .u64 id, .int .i64 kp.x.tag, .slice kp.A kp.x.vec.length kp.c, .string kp.x.str] 36)
      have hVs : (wr.alloc (.cells #[.int .u64 id, .int .i64 kp.x.tag, .slice kp.A kp.x.vec.length kp.c, .string kp.x.str] 36)).heap.size = wr.heap.size + 1 := by simp
      have v0 : (wr.alloc (.cells #[.int .u64 id, .int .i64 kp.x.tag, .slice kp.A kp.x.vec.length kp.c, .string kp.x.str] 36)).cell? ⟨wr.heap.size, 0, none⟩ = some (.int .u64 id) := hk2.cell 0
      obtain ⟨V, hV⟩ : ∃ V, V = wr.alloc (.cells #[.int .u64 id, .int .i64 kp.x.tag, .slice kp.A kp.x.vec.length kp.c, .string kp.x.str] 36) := ⟨_, rfl⟩
      rw [← hV] at HC hV2 hk2 ho2 hVs
      have HV := Lib.hid hV
      have HK := Lib.hid (And.intro hk2 (And.intro ho2 (And.intro hVs hV2)))
      have HX := Lib.hid (And.intro hx hm)
      clear hx hV hV2 hk2 ho2 hVs hown hb hid hm
      obtain ⟨r, hp⟩ : ∃ r, p id = r := ⟨_, rfl⟩
      rw [hp] at HC HX
      clear hp
      go_wp2_with (fail)
      rw [← HV.out]
      refine HC.out.mono ?_
      rintro e w2 ⟨rfl, hb2⟩
      obtain ⟨h1, h2, h3, h4⟩ := HK.out
      have k0 : w2.cell? ⟨wr.heap.size, 0, none⟩ = some (.int .u64 id) := (h1.below hb2 (by omega)).cell 0
      have hown2 := own_below h2 hb2 (Nat.le_refl _)
      have hb3 : Below w.heap.size w w2 := h4.trans (hb2.mono h4.size)
      have hs3 := hb3.size
      clear h1 h2 h3 h4 hb2 HC HK v0
      cases r with
      | true =>
        have hmm : ms p ((ids l).take (k + 1)) = ms p ((ids l).take k) := by simpa using HX.out.1
        have HE : Hid (m = (ms p ((ids l).take (k + 1))).length ∧ w2.ownsRow w.heap.size 24 1 (.slice A' m c') m (us (ms p ((ids l).take (k + 1)))) ∧ Below w.heap.size w w2) := Lib.hid (by rw [hmm]; exact ⟨HX.out.2, hown2, hb3⟩)
        clear hmm hown2 hb3 hs3
        go_wp2_with (fail)
        go_roundg (l.length - (k + 1))
        case measure => omega
        case rel => exact ⟨k + 1, m, c', A', rfl, by omega, by go_num, rfl, HE.out.1, HE.out.2.1, HE.out.2.2⟩
      | false =>
        have hmm : ms p ((ids l).take (k + 1)) = ms p ((ids l).take k) ++ [id] := by simpa using HX.out.1
        have HM := Lib.hid hmm
        clear hmm
        go_wp2_with (at_builtin
                     refine wpList_append_sl _ rfl (.tmp 19) (.tmp 22) _ rfl w.heap.size 24 _ 8 Try.underlying23 u64E (.slice A' m c') m (us (ms p ((ids l).take k))) rfl (World.ownsRow.alloc (w := w2) hown2 _) _ _ 1 1 [.int .u64 id] rfl (Sl.one w2 _ _) rfl (us_one [id]) (by omega) (by unfold maxLen; omega) (by simp; omega) ?_
                     intro v4 w4 hown4 hg4 hat4
                     have hb4 := below_append hb3 hs3 _ hown2 (Nat.le_refl _) hg4
                     obtain ⟨A4, c4, rfl, hc4⟩ := own_slice hown4)
        have HE : Hid (m + 1 = (ms p ((ids l).take (k + 1))).length ∧ w4.ownsRow w.heap.size 24 1 (.slice A4 (m + 1) c4) (m + 1) (us (ms p ((ids l).take (k + 1)))) ∧ Below w.heap.size w w4) := Lib.hid (by
          rw [HM.out]
          refine ⟨by rw [List.length_append, ← HX.out.2]; rfl, ?_, hb4⟩
          have := hown4
          unfold us at this ⊢
          rw [List.map_append]
          exact this)
        clear hown2 hb3 hs3 hown4 hg4 hat4 hb4
        go_roundg (l.length - (k + 1))
        case measure => omega
        case rel => exact ⟨k + 1, m + 1, c4, A4, rfl, by omega, by go_num, rfl, HE.out.1, HE.out.2.1, HE.out.2.2⟩
    · obtain rfl : k = l.length := by omega
      have i1 : ¬ (l.length : Int) < (l.length : Int) := by omega
      have HE : Hid (Nums w (ms p (ids l)) (.returned (.slice A' m c')) wr) := Lib.hid (by
        rw [← ids_length l, List.take_length] at hm hown
        exact ⟨A', c', by rw [hm], by rw [← hm]; exact hown, hb⟩)
      clear hown hb hm
      go_wp2_with (fail)
      go_ret
      exact HE.out
end Go.Proofs.Ytcdjmgmombaiaaa.idx
