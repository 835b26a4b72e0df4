/-
  The law's own order of items (each is put behind all that aren't greater): rising tells that ById's answer is that.
-/
import Derived.Test.YtcdjmgmombaiaaaIdB
import Derived.Test.YtcdjmgmombaiaaaFull
namespace Go.Proofs.Ytcdjmgmombaiaaa.idx
open Go.RowKit law bytes only flat ord obj
open aro (Kept zK kV)
open store (iE iE_len iE_one itemAt itemK rM rM_length Lie rsameI_any)
open stb (ky IRow Stb Srt Eqf srt_take)
set_option linter.unusedVariables false

theorem flat_drop {α : Type} {E : α → List Value} {k : Nat} (hk : ∀ x, (E x).length = k) (l : List α) (m : Nat) : (l.flatMap E).drop (m * k) = (l.drop m).flatMap E := by
  have h1 : (l.flatMap E).take (m * k) ++ (l.flatMap E).drop (m * k) = (l.take m).flatMap E ++ (l.drop m).flatMap E := by rw [List.take_append_drop, ← List.flatMap_append, List.take_append_drop]
  rw [flat_take hk] at h1
  exact List.append_cancel_left h1
theorem size4 (W : World) : (sizeOf (Try.prog.elem 22)).run Try.prog W = .ok 4 W := by kernel_rfl
/-- what a slice from a place on is -/
theorem cut_at {w : World} {base n c k : Nat} {A : Option Addr} {q : List (Int × Kept)} (h : w.ownsRow base 36 4 (.slice A n c) n (q.flatMap iE)) (hk : k ≤ n) : ∃ A8, (∀ W : World, (Instr.slice 22 (.slice A n c) (some (.int .i64 (k : Int))) none none).run Try.prog W = .ok (.slice A8 (n - k) (c - k)) W) ∧ Sl w w.heap.size A8 ((q.drop k).flatMap iE) := by
  refine ⟨if c = k then A else A.map (·.add (k * 4)), fun W => ?_, ?_⟩
  · rw [run_slice_l W 22 A n c Try.underlying22 .i64 (k : Int) (by omega) (by omega), size4]
    rfl
  · have hl : q.length = n := by have := h.1; rw [flat_length iE_len] at this; omega
    have hc := own_cap h
    by_cases e : c = k
    · rw [List.drop_of_length_le (by omega)]
      exact Sl.nil
    · rw [if_neg e]
      have h2 := (Sl.of_ownK h).drop (k * 4)
      rwa [show (q.flatMap iE).drop (k * 4) = (q.drop k).flatMap iE from flat_drop iE_len q k] at h2
theorem cut_full {n c k : Nat} (A : Option Addr) (hk : k ≤ n) (hc : n ≤ c) : ∀ W : World, (Instr.slice 22 (.slice A n c) none (some (.int .i64 (k : Int))) (some (.int .i64 (k : Int)))).run Try.prog W = .ok (.slice A k k) W := by
  intro W
  rw [run_slice_hm W 22 A n c Try.underlying22 .i64 .i64 (k : Int) (k : Int) (by omega) (by omega) (by omega), size4]
  show Result.ok (sliced A 0 (k : Int).toNat (k : Int).toNat 4) W = _
  unfold sliced
  rw [Int.toNat_natCast]
  by_cases e : k = 0
  · rw [if_pos e]; rfl
  · rw [if_neg e]
    have h0 : A.map (fun x : Addr => x.add (0 * 4)) = A := by
      cases A with
      | none => rfl
      | some a => simp [Addr.add]
    rw [h0]; rfl
set_option maxRecDepth 100000 in
set_option maxHeartbeats 6400000 in
theorem rising_any (A A2 : Option Addr) (c c2 : Nat) (l got : List (Int × Kept)) (w : World) (hs : Sl w w.heap.size A (l.flatMap iE)) (hl : Lie w w.heap.size l) (hs2 : Sl w w.heap.size A2 (got.flatMap iE)) (hl2 : Lie w w.heap.size got) (hst : Stb Prod.fst (rM l) (rM got)) (hq : l.length ≤ 2513169434843) :
    Calls Try.prog 10 #[.slice A2 got.length c2, .slice A l.length c] w fun e w' => e = .returned (.bool true) ∧ Below w.heap.size w w' := by
  have HL : Hid (∀ W k, Below w.heap.size w W → (hk : k < l.length) → ∃ b o, A = some ⟨b, o, none⟩ ∧ b < w.heap.size ∧ W.cell? ⟨b, o + k * 4, none⟩ = some (.int .u64 l[k].1) ∧ W.cell? ⟨b, o + k * 4 + 1, none⟩ = some (.int .i64 l[k].2.x.tag) ∧ W.cell? ⟨b, o + k * 4 + 2, none⟩ = some (.slice l[k].2.A l[k].2.x.vec.length l[k].2.c) ∧ W.cell? ⟨b, o + k * 4 + 3, none⟩ = some (.string l[k].2.x.str)) := Lib.hid fun W k hW hk => itemAt (hs.below hW) hk
  have HSAME : Hid (∀ W A' c' q, Below w.heap.size w W → Stb ky l q → W.ownsRow w.heap.size 36 4 (.slice A' l.length c') l.length (q.flatMap iE) → Calls Try.prog 14 #[.slice A2 got.length c2, .slice A' l.length c'] W fun e w' => e = .returned (.bool true) ∧ Below W.heap.size W w') := Lib.hid fun W A' c' q hW hq2 ho => by
    have hM : rM got = rM q := hst.eq (hq2.map (k' := Prod.fst) (f := fun p : Int × Kept => (p.1, p.2.x)) fun _ => rfl)
    have hql : q.length = l.length := hq2.len
    have hgl : got.length = l.length := by have := congrArg List.length hM; rw [rM_length, rM_length] at this; omega
    have h := rsameI_any A2 A' c2 c' got q W hM ((hs2.below hW).more hW.size) (by rw [← hql] at ho; exact Sl.of_ownK ho) (fun p hp => ⟨((hl2 p hp).1.below hW).more hW.size, (hl2 p hp).2⟩) (fun p hp => by
      have := hl p ((hq2.eqf.mem p).2 hp)
      exact ⟨(this.1.below hW).more hW.size, this.2⟩) (by omega)
    rw [hql] at h
    exact h
  clear hs hl hs2 hl2 hst
  go_enter Try.func10, Try.ntmps10
  go_wp2_with (fail)
  go_loopg [5, 6, 7, 8] l.length (fun gk s5 s6 s7 s8 wr => ∃ (i c' : Nat) (A' : Option Addr) (q : List (Int × Kept)), gk = l.length - i ∧ i ≤ l.length ∧ s6 = .int .i64 i ∧ s5 = .slice A' i c' ∧ wr.ownsRow w.heap.size 36 4 (.slice A' i c') i (q.flatMap iE) ∧ Stb ky (l.take i) q ∧ Below w.heap.size w wr)
  case atStart => exact ⟨0, 0, none, [], rfl, Nat.zero_le _, rfl, rfl, World.ownsRow_nil _ _ _ _, Stb.nil, Below.refl _ _⟩
  case round =>
    obtain ⟨i, c', A', q, rfl, hi, rfl, rfl, hown, hst, hb⟩ := hrel
    have hql : q.length = i := by have := hst.len; simp at this; omega
    by_cases hlt : i < l.length
    · have i1 : (i : Int) < (l.length : Int) := by omega
      obtain ⟨x, hx⟩ : ∃ x, l[i] = x := ⟨_, rfl⟩
      have htk : l.take (i + 1) = l.take i ++ [x] := by rw [List.take_succ_eq_append_getElem hlt, hx]
      have HX : Hid (∀ W, Below w.heap.size w W → ∃ b o, A = some ⟨b, o, none⟩ ∧ W.cell? ⟨b, o + i * 4, none⟩ = some (.int .u64 x.1) ∧ W.cell? ⟨b, o + i * 4 + 1, none⟩ = some (.int .i64 x.2.x.tag) ∧ W.cell? ⟨b, o + i * 4 + 2, none⟩ = some (.slice x.2.A x.2.x.vec.length x.2.c) ∧ W.cell? ⟨b, o + i * 4 + 3, none⟩ = some (.string x.2.x.str)) := Lib.hid fun W hW => by
        obtain ⟨b, o, e, -, d0, d1, d2, d3⟩ := HL.out W i hW hlt
        rw [hx] at d0 d1 d2 d3
        exact ⟨b, o, e, d0, d1, d2, d3⟩
      have HST := Lib.hid (And.intro hst (And.intro hql htk))
      -- what comes of the row, when x is put in behind the first k
      have HPUT : Hid (∀ k, k ≤ i → (∀ y ∈ q.drop k, ky x < ky y) → (k = 0 ∨ ∃ y, q[k - 1]? = some y ∧ ky y ≤ ky x) → Stb ky (l.take (i + 1)) (q.take k ++ x :: q.drop k)) := Lib.hid fun k hk h1 h2 => by
        rw [htk]
        refine Stb.put (by rw [List.take_append_drop]; exact hst) (srt_take hst.srt h2) h1
      clear hx htk hst hql
      have HB := Lib.hid hb
      have HR := Lib.hid hown
      clear hown hb
      obtain ⟨w0, hw0⟩ : ∃ w0, w0 = wr := ⟨_, rfl⟩
      subst hw0
      go_wp2_with (fail)
      go_loopg [7] i (fun gk s7 wr => ∃ (k : Nat), k = gk ∧ k ≤ i ∧ s7 = .int .i64 k ∧ (∀ y ∈ q.drop k, ky x < ky y) ∧ wr.ownsRow w.heap.size 36 4 (.slice A' i c') i (q.flatMap iE) ∧ Below w.heap.size w wr)
      case atStart => exact ⟨i, rfl, Nat.le_refl _, rfl, fun y hy => by rw [List.drop_of_length_le (by have := HST.out.2.1; omega)] at hy; simp at hy, HR.out, HB.out⟩
      case round =>
        clear HB HR
        obtain ⟨k, rfl, hki, rfl, hgt, hr, hb⟩ := hrel
        obtain ⟨b, o, rfl, d0, d1, d2, d3⟩ := HX.out wr hb
        have HB := Lib.hid hb
        by_cases hk0 : k = 0
        · have hput := HPUT.out k hki hgt (.inl hk0)
          have k1 : ¬ 0 < k := by omega
          have HPT := Lib.hid hput
          have m1 : k ≤ i := by omega
          have m3 : i ≤ c' := own_cap hr
          obtain ⟨A8, hs8, hS8⟩ := cut_at hr m1
          have hs9 := cut_full (c := c') A' m1 m3
          obtain ⟨m8, hm8⟩ : ∃ m8, m8 = i - k := ⟨_, rfl⟩
          obtain ⟨c8, hc8⟩ : ∃ c8, c8 = c' - k := ⟨_, rfl⟩
          rw [← hm8, ← hc8] at hs8
          have own0 : ((wr.alloc (.cells #[] 36)).drew).ownsRow wr.heap.size 36 4 (.slice (some ⟨wr.heap.size, 0, none⟩) 0 0) 0 [] := World.ownsRow_lit wr #[] 0 (Nat.le_refl _) (by unfold maxLen; omega) rfl
          have sl8 : Sl ((wr.alloc (.cells #[] 36)).drew) wr.heap.size A8 ((q.drop k).flatMap iE) := hS8.alloc (Nat.le_refl _) _
          have ln8 : ((q.drop k).flatMap iE).length = m8 * 4 := by rw [flat_length iE_len, List.length_drop, HST.out.2.1, hm8]
          have b8 : (0 + m8) * 56 ≤ 140737488355328 := by omega
          have b9 : 0 + m8 ≤ maxLen := by unfold maxLen; omega
          have HF : Hid (∀ v8 w8, w8.ownsRow wr.heap.size 36 4 v8 (0 + m8) ([] ++ (q.drop k).flatMap iE) → ((wr.alloc (.cells #[] 36)).drew).grownBy w8 (some wr.heap.size) → ∃ A9 c9, v8 = .slice A9 m8 c9 ∧ Sl w8 w8.heap.size A9 ((q.drop k).flatMap iE) ∧ Below wr.heap.size wr w8 ∧ Sl w8 w8.heap.size A' ((q.take k).flatMap iE)) := Lib.hid fun v8 w8 ho hg => by
            rw [Nat.zero_add, List.nil_append] at ho
            obtain ⟨A9, c9, rfl, -⟩ := own_slice ho
            have hb8 : Below wr.heap.size wr w8 := (((Below.refl _ wr).alloc (Nat.le_refl _) _).drew).grown hg (by simp) (fun g' e => by injection e with e; omega)
            refine ⟨A9, c9, rfl, Sl.of_ownK ho, hb8, ?_⟩
            have h1 := ((Sl.of_ownK hr).take (k * 4)).below hb8
            rw [flat_take iE_len] at h1
            exact h1.more hb8.size
          have HM8 : Hid (m8 = i - k) := Lib.hid hm8
          have hm88 : k + 1 + m8 = i + 1 := by omega
          have HL8 : Hid (((q.take k).flatMap iE).length = k * 4) := Lib.hid (by rw [flat_length iE_len, List.length_take, HST.out.2.1]; congr 1; omega)
          clear hr hb hput hS8 hm8 hc8
          clear hk0 hgt
          go_wp2_with (fail)
          go_region
          go_wp2_with (at_builtin
                       refine wpList_append_slk _ rfl (.tmp 35) (.tmp 38) _ rfl wr.heap.size 36 4 56 Try.underlying22 itemK (by decide) (.slice (some ⟨wr.heap.size, 0, none⟩) 0 0) 0 [] rfl own0 wr.heap.size A8 m8 c8 ((q.drop k).flatMap iE) rfl sl8 ln8 (iE_one _) b8 b9 (by simp) ?_
                       intro v8 w8 hown8 hg8 hat8
                       obtain ⟨A9, c9, rfl, hsl9, hb8, hsl0⟩ := HF.out v8 w8 hown8 hg8)
          have hbw : Below w.heap.size w w8 := HB.out.trans (hb8.mono HB.out.size)
          have HX9 : Hid (∀ W, Below w8.heap.size w8 W → W.cell? ⟨b, o + i * 4, none⟩ = some (.int .u64 x.1) ∧ W.cell? ⟨b, o + i * 4 + 1, none⟩ = some (.int .i64 x.2.x.tag) ∧ W.cell? ⟨b, o + i * 4 + 2, none⟩ = some (.slice x.2.A x.2.x.vec.length x.2.c) ∧ W.cell? ⟨b, o + i * 4 + 3, none⟩ = some (.string x.2.x.str)) := Lib.hid fun W hW => by
            obtain ⟨b', o', e, e0, e1, e2, e3⟩ := HX.out W (hbw.trans (hW.mono hbw.size))
            injection e with e
            injection e with g1 g2
            subst g1 g2
            exact ⟨e0, e1, e2, e3⟩
          obtain ⟨d0, d1, d2, d3⟩ := HX9.out w8 (Below.refl _ _)
          obtain ⟨V9, hV9⟩ : ∃ V9, V9 = w8.drew.alloc (.cells #[.int .u64 x.1, .int .i64 x.2.x.tag, .slice x.2.A x.2.x.vec.length x.2.c, .string x.2.x.str] 36) := ⟨_, rfl⟩
          have hBV : Below w8.heap.size w8 V9 := by rw [hV9]; exact ((Below.refl _ _).drew).alloc (Nat.le_refl _) _
          have s9 : w8.heap.size ≤ w8.drew.heap.size := Nat.le_refl _
          have HSZ : Hid (w8.heap.size ≤ w8.drew.heap.size) := Lib.hid s9
          have HSZ0 : Hid (w8.heap.size ≤ w8.heap.size) := Lib.hid (Nat.le_refl _)
          have slx : Sl (w8.drew.alloc (.cells #[.int .u64 x.1, .int .i64 x.2.x.tag, .slice x.2.A x.2.x.vec.length x.2.c, .string x.2.x.str] 36)) (w8.drew.alloc (.cells #[.int .u64 x.1, .int .i64 x.2.x.tag, .slice x.2.A x.2.x.vec.length x.2.c, .string x.2.x.str] 36)).heap.size (some ⟨w8.heap.size, 0, none⟩) (iE x) := Sl.lit w8.drew (iE x) 36
          have slo : Sl (w8.drew.alloc (.cells #[.int .u64 x.1, .int .i64 x.2.x.tag, .slice x.2.A x.2.x.vec.length x.2.c, .string x.2.x.str] 36)) w8.heap.size A' ((q.take k).flatMap iE) := hsl0.alloc (w := w8) (Nat.le_refl _) _
          have HY : Hid (∀ v9 w9, w9.ownsRow (w8.drew.alloc (.cells #[.int .u64 x.1, .int .i64 x.2.x.tag, .slice x.2.A x.2.x.vec.length x.2.c, .string x.2.x.str] 36)).heap.size 36 4 v9 (k + 1) ((q.take k).flatMap iE ++ iE x) → Below (w8.drew.alloc (.cells #[.int .u64 x.1, .int .i64 x.2.x.tag, .slice x.2.A x.2.x.vec.length x.2.c, .string x.2.x.str] 36)).heap.size (w8.drew.alloc (.cells #[.int .u64 x.1, .int .i64 x.2.x.tag, .slice x.2.A x.2.x.vec.length x.2.c, .string x.2.x.str] 36)) w9 → Below w8.heap.size w8 w9 ∧ w9.ownsRow w8.heap.size 36 4 v9 (k + 1) ((q.take k).flatMap iE ++ iE x) ∧ Sl w9 w8.heap.size A9 ((q.drop k).flatMap iE) ∧ w8.heap.size ≤ w9.heap.size ∧
              ∀ v10 w10, w10.ownsRow w8.heap.size 36 4 v10 (k + 1 + m8) ((q.take k).flatMap iE ++ iE x ++ (q.drop k).flatMap iE) → w9.grownBy w10 v9.ownBlock → Below w8.heap.size w8 w10 ∧ ∃ A10 c10, v10 = .slice A10 (i + 1) c10 ∧ w10.ownsRow w.heap.size 36 4 (.slice A10 (i + 1) c10) (i + 1) ((q.take k ++ x :: q.drop k).flatMap iE) ∧ Below w.heap.size w w10) := Lib.hid fun v9 w9 ho hb => by
            have hz : (w8.drew.alloc (.cells #[.int .u64 x.1, .int .i64 x.2.x.tag, .slice x.2.A x.2.x.vec.length x.2.c, .string x.2.x.str] 36)).heap.size = w8.heap.size + 1 := by simp
            have h1 : Below w8.heap.size w8 w9 := (by rw [hV9] at hBV; exact hBV : Below w8.heap.size w8 (w8.drew.alloc (.cells #[.int .u64 x.1, .int .i64 x.2.x.tag, .slice x.2.A x.2.x.vec.length x.2.c, .string x.2.x.str] 36))).trans (hb.mono (by omega))
            have h2 : w9.ownsRow w8.heap.size 36 4 v9 (k + 1) ((q.take k).flatMap iE ++ iE x) := own_base ho (by omega)
            refine ⟨h1, h2, hsl9.below h1, h1.size, fun v10 w10 ho2 hg2 => ?_⟩
            have h3 : Below w8.heap.size w8 w10 := h1.grown hg2 h1.size (fun g' e => (own_lt h2 e).1)
            rw [hm88] at ho2
            obtain ⟨A10, c10, rfl, -⟩ := own_slice ho2
            refine ⟨h3, A10, c10, rfl, ?_, hbw.trans (h3.mono hbw.size)⟩
            rw [List.flatMap_append, List.flatMap_cons, ← List.append_assoc]
            exact own_base ho2 hbw.size
          have hl8 := HL8.out
          have hkk : (k + 1) * 56 ≤ 140737488355328 := by omega
          have hkk2 : k + 1 ≤ maxLen := by unfold maxLen; omega
          have hkk3 : (k + 1 + m8) * 56 ≤ 140737488355328 := by omega
          have hkk4 : k + 1 + m8 ≤ maxLen := by unfold maxLen; omega
          clear hown8 hg8 hat8 hb8 hsl0 HF own0 sl8 hBV hV9 HX hbw b8 b9
          go_wp2_with (fail)
          go_region_held3 (fun W => W.cell? ⟨b, o + i * 4, none⟩ = some (.int .u64 x.1) ∧ W.cell? ⟨b, o + i * 4 + 1, none⟩ = some (.int .i64 x.2.x.tag) ∧ W.cell? ⟨b, o + i * 4 + 2, none⟩ = some (.slice x.2.A x.2.x.vec.length x.2.c) ∧ W.cell? ⟨b, o + i * 4 + 3, none⟩ = some (.string x.2.x.str))
            ((refine HX9.out _ ?_; repeat' (first | (with_reducible assumption) | (with_reducible exact Below.refl _ _) | (with_reducible refine Below.drew ?_) | (with_reducible refine below_drewN' ?_ _) | (with_reducible refine Below.alloc ?_ HSZ.out _) | (with_reducible refine Below.alloc ?_ HSZ0.out _))))
            (first
              | (refine step_append_full _ (by rfl) _ _ _ (by rfl) 36 4 56 Try.underlying22 itemK (by omega) w8.heap.size A' k ((q.take k).flatMap iE) (by rfl) slo hl8 _ _ 1 1 (iE x) (by rfl) slx rfl (by omega) (fun u hu => iE_one [x] u (by simpa using hu)) hkk hkk2 ?_; intro v9 w9 hown9 hb9; obtain ⟨hB9, ho9, sl9, sz9, HZ9⟩ := HY.out v9 w9 hown9 hb9)
              | (refine step_append_slk _ (by rfl) _ _ _ (by rfl) w8.heap.size 36 4 56 Try.underlying22 itemK (by omega) v9 (k + 1) ((q.take k).flatMap iE ++ iE x) (by rfl) ho9 w8.heap.size A9 m8 c9 ((q.drop k).flatMap iE) (by rfl) sl9 ln8 (iE_one _) hkk3 hkk4 sz9 ?_; intro v10 w10 hown10 hg10 hat10; obtain ⟨hB10, A10, c10, rfl, hr10, hbw10⟩ := HZ9 v10 w10 hown10 hg10))
          have HE := Lib.hid (And.intro hr10 (And.intro hbw10 HPT.out))
          clear hr10 hbw10
          go_wp2_with (fail)
          go_roundg (l.length - (i + 1))
          case measure => omega
          case rel => exact ⟨i + 1, c10, A10, _, rfl, by omega, by go_num, rfl, HE.out.1, HE.out.2.2, HE.out.2.1⟩
        · obtain ⟨k', rfl⟩ : ∃ k', k = k' + 1 := ⟨k - 1, by omega⟩
          obtain ⟨kk, hkk⟩ : ∃ kk, kk = k' + 1 := ⟨_, rfl⟩
          rw [← hkk] at hki hgt hk0 ⊢
          have k1 : 0 < kk := by omega
          have k2 : IntKind.i64.wrap ((kk : Int) - 1) = (k' : Int) := stb.w64 (by omega) (by omega) (by omega)
          have k3 : (k' : Int) < (i : Int) := by omega
          have hkq : k' < q.length := by have := HST.out.2.1; omega
          obtain ⟨y, hy⟩ : ∃ y, q[k']? = some y := ⟨_, List.getElem?_eq_getElem hkq⟩
          obtain ⟨g, c1, hv, hg1, hg2, hc1⟩ := own_form hr (by omega)
          injection hv with hA _ hc
          subst hA hc
          obtain ⟨-, f0, f1, f2, f3⟩ := IRow.at_ (hr : IRow wr w.heap.size g i c' q) hy
          by_cases hlt2 : x.1 < y.1
          · have hgt2 : ∀ z ∈ q.drop k', ky x < ky z := fun z hz => by
              rw [List.drop_eq_getElem_cons hkq] at hz
              rcases List.mem_cons.1 hz with rfl | hz
              · have := List.getElem?_eq_some_iff.1 hy
                rw [this.2]; exact hlt2
              · exact hgt z (by rw [hkk]; exact hz)
            have HGT := Lib.hid hgt2
            have HR := Lib.hid hr
            have HK := Lib.hid hkk
            clear hgt2 hr hb hgt hy hkk
            go_wp2_with (fail)
            go_region
            go_wp2_with (fail)
            go_roundg k'
            case measure => have := HK.out; omega
            case rel => exact ⟨k', rfl, by omega, rfl, HGT.out, HR.out, HB.out.drew⟩
          · have hput := HPUT.out kk hki hgt (.inr ⟨y, by rw [hkk]; exact hy, by show y.1 ≤ x.1; omega⟩)
            have hlt2b := hlt2
            have HPT := Lib.hid hput
            have m1 : kk ≤ i := by omega
            have m3 : i ≤ c' := own_cap hr
            obtain ⟨A8, hs8, hS8⟩ := cut_at hr m1
            have hs9 := cut_full (c := c') (some ⟨g, 0, none⟩) m1 m3
            obtain ⟨m8, hm8⟩ : ∃ m8, m8 = i - kk := ⟨_, rfl⟩
            obtain ⟨c8, hc8⟩ : ∃ c8, c8 = c' - kk := ⟨_, rfl⟩
            rw [← hm8, ← hc8] at hs8
            have own0 : ((wr.alloc (.cells #[] 36)).drew).ownsRow wr.heap.size 36 4 (.slice (some ⟨wr.heap.size, 0, none⟩) 0 0) 0 [] := World.ownsRow_lit wr #[] 0 (Nat.le_refl _) (by unfold maxLen; omega) rfl
            have sl8 : Sl ((wr.alloc (.cells #[] 36)).drew) wr.heap.size A8 ((q.drop kk).flatMap iE) := hS8.alloc (Nat.le_refl _) _
            have ln8 : ((q.drop kk).flatMap iE).length = m8 * 4 := by rw [flat_length iE_len, List.length_drop, HST.out.2.1, hm8]
            have b8 : (0 + m8) * 56 ≤ 140737488355328 := by omega
            have b9 : 0 + m8 ≤ maxLen := by unfold maxLen; omega
            have HF : Hid (∀ v8 w8, w8.ownsRow wr.heap.size 36 4 v8 (0 + m8) ([] ++ (q.drop kk).flatMap iE) → ((wr.alloc (.cells #[] 36)).drew).grownBy w8 (some wr.heap.size) → ∃ A9 c9, v8 = .slice A9 m8 c9 ∧ Sl w8 w8.heap.size A9 ((q.drop kk).flatMap iE) ∧ Below wr.heap.size wr w8 ∧ Sl w8 w8.heap.size (some ⟨g, 0, none⟩) ((q.take kk).flatMap iE)) := Lib.hid fun v8 w8 ho hg => by
              rw [Nat.zero_add, List.nil_append] at ho
              obtain ⟨A9, c9, rfl, -⟩ := own_slice ho
              have hb8 : Below wr.heap.size wr w8 := (((Below.refl _ wr).alloc (Nat.le_refl _) _).drew).grown hg (by simp) (fun g' e => by injection e with e; omega)
              refine ⟨A9, c9, rfl, Sl.of_ownK ho, hb8, ?_⟩
              have h1 := ((Sl.of_ownK hr).take (kk * 4)).below hb8
              rw [flat_take iE_len] at h1
              exact h1.more hb8.size
            have HM8 : Hid (m8 = i - kk) := Lib.hid hm8
            have hm88 : kk + 1 + m8 = i + 1 := by omega
            have HL8 : Hid (((q.take kk).flatMap iE).length = kk * 4) := Lib.hid (by rw [flat_length iE_len, List.length_take, HST.out.2.1]; congr 1; omega)
            clear hr hb hput hS8 hm8 hc8
            clear hkk hlt2b hgt hkq hy
            go_wp2_with (fail)
            go_region
            go_wp2_with (at_builtin
                         refine wpList_append_slk _ rfl (.tmp 35) (.tmp 38) _ rfl wr.heap.size 36 4 56 Try.underlying22 itemK (by decide) (.slice (some ⟨wr.heap.size, 0, none⟩) 0 0) 0 [] rfl own0 wr.heap.size A8 m8 c8 ((q.drop kk).flatMap iE) rfl sl8 ln8 (iE_one _) b8 b9 (by simp) ?_
                         intro v8 w8 hown8 hg8 hat8
                         obtain ⟨A9, c9, rfl, hsl9, hb8, hsl0⟩ := HF.out v8 w8 hown8 hg8)
            have hbw : Below w.heap.size w w8 := HB.out.trans (hb8.mono HB.out.size)
            have HX9 : Hid (∀ W, Below w8.heap.size w8 W → W.cell? ⟨b, o + i * 4, none⟩ = some (.int .u64 x.1) ∧ W.cell? ⟨b, o + i * 4 + 1, none⟩ = some (.int .i64 x.2.x.tag) ∧ W.cell? ⟨b, o + i * 4 + 2, none⟩ = some (.slice x.2.A x.2.x.vec.length x.2.c) ∧ W.cell? ⟨b, o + i * 4 + 3, none⟩ = some (.string x.2.x.str)) := Lib.hid fun W hW => by
              obtain ⟨b', o', e, e0, e1, e2, e3⟩ := HX.out W (hbw.trans (hW.mono hbw.size))
              injection e with e
              injection e with g1 g2
              subst g1 g2
              exact ⟨e0, e1, e2, e3⟩
            obtain ⟨d0, d1, d2, d3⟩ := HX9.out w8 (Below.refl _ _)
            obtain ⟨V9, hV9⟩ : ∃ V9, V9 = w8.drew.alloc (.cells #[.int .u64 x.1, .int .i64 x.2.x.tag, .slice x.2.A x.2.x.vec.length x.2.c, .string x.2.x.str] 36) := ⟨_, rfl⟩
            have hBV : Below w8.heap.size w8 V9 := by rw [hV9]; exact ((Below.refl _ _).drew).alloc (Nat.le_refl _) _
            have s9 : w8.heap.size ≤ w8.drew.heap.size := Nat.le_refl _
            have HSZ : Hid (w8.heap.size ≤ w8.drew.heap.size) := Lib.hid s9
            have HSZ0 : Hid (w8.heap.size ≤ w8.heap.size) := Lib.hid (Nat.le_refl _)
            have slx : Sl (w8.drew.alloc (.cells #[.int .u64 x.1, .int .i64 x.2.x.tag, .slice x.2.A x.2.x.vec.length x.2.c, .string x.2.x.str] 36)) (w8.drew.alloc (.cells #[.int .u64 x.1, .int .i64 x.2.x.tag, .slice x.2.A x.2.x.vec.length x.2.c, .string x.2.x.str] 36)).heap.size (some ⟨w8.heap.size, 0, none⟩) (iE x) := Sl.lit w8.drew (iE x) 36
            have slo : Sl (w8.drew.alloc (.cells #[.int .u64 x.1, .int .i64 x.2.x.tag, .slice x.2.A x.2.x.vec.length x.2.c, .string x.2.x.str] 36)) w8.heap.size (some ⟨g, 0, none⟩) ((q.take kk).flatMap iE) := hsl0.alloc (w := w8) (Nat.le_refl _) _
            have HY : Hid (∀ v9 w9, w9.ownsRow (w8.drew.alloc (.cells #[.int .u64 x.1, .int .i64 x.2.x.tag, .slice x.2.A x.2.x.vec.length x.2.c, .string x.2.x.str] 36)).heap.size 36 4 v9 (kk + 1) ((q.take kk).flatMap iE ++ iE x) → Below (w8.drew.alloc (.cells #[.int .u64 x.1, .int .i64 x.2.x.tag, .slice x.2.A x.2.x.vec.length x.2.c, .string x.2.x.str] 36)).heap.size (w8.drew.alloc (.cells #[.int .u64 x.1, .int .i64 x.2.x.tag, .slice x.2.A x.2.x.vec.length x.2.c, .string x.2.x.str] 36)) w9 → Below w8.heap.size w8 w9 ∧ w9.ownsRow w8.heap.size 36 4 v9 (kk + 1) ((q.take kk).flatMap iE ++ iE x) ∧ Sl w9 w8.heap.size A9 ((q.drop kk).flatMap iE) ∧ w8.heap.size ≤ w9.heap.size ∧
                ∀ v10 w10, w10.ownsRow w8.heap.size 36 4 v10 (kk + 1 + m8) ((q.take kk).flatMap iE ++ iE x ++ (q.drop kk).flatMap iE) → w9.grownBy w10 v9.ownBlock → Below w8.heap.size w8 w10 ∧ ∃ A10 c10, v10 = .slice A10 (i + 1) c10 ∧ w10.ownsRow w.heap.size 36 4 (.slice A10 (i + 1) c10) (i + 1) ((q.take kk ++ x :: q.drop kk).flatMap iE) ∧ Below w.heap.size w w10) := Lib.hid fun v9 w9 ho hb => by
              have hz : (w8.drew.alloc (.cells #[.int .u64 x.1, .int .i64 x.2.x.tag, .slice x.2.A x.2.x.vec.length x.2.c, .string x.2.x.str] 36)).heap.size = w8.heap.size + 1 := by simp
              have h1 : Below w8.heap.size w8 w9 := (by rw [hV9] at hBV; exact hBV : Below w8.heap.size w8 (w8.drew.alloc (.cells #[.int .u64 x.1, .int .i64 x.2.x.tag, .slice x.2.A x.2.x.vec.length x.2.c, .string x.2.x.str] 36))).trans (hb.mono (by omega))
              have h2 : w9.ownsRow w8.heap.size 36 4 v9 (kk + 1) ((q.take kk).flatMap iE ++ iE x) := own_base ho (by omega)
              refine ⟨h1, h2, hsl9.below h1, h1.size, fun v10 w10 ho2 hg2 => ?_⟩
              have h3 : Below w8.heap.size w8 w10 := h1.grown hg2 h1.size (fun g' e => (own_lt h2 e).1)
              rw [hm88] at ho2
              obtain ⟨A10, c10, rfl, -⟩ := own_slice ho2
              refine ⟨h3, A10, c10, rfl, ?_, hbw.trans (h3.mono hbw.size)⟩
              rw [List.flatMap_append, List.flatMap_cons, ← List.append_assoc]
              exact own_base ho2 hbw.size
            have hl8 := HL8.out
            have hkk : (kk + 1) * 56 ≤ 140737488355328 := by omega
            have hkk2 : kk + 1 ≤ maxLen := by unfold maxLen; omega
            have hkk3 : (kk + 1 + m8) * 56 ≤ 140737488355328 := by omega
            have hkk4 : kk + 1 + m8 ≤ maxLen := by unfold maxLen; omega
            clear hown8 hg8 hat8 hb8 hsl0 HF own0 sl8 hBV hV9 HX hbw b8 b9
            go_wp2_with (fail)
            go_region_held3 (fun W => W.cell? ⟨b, o + i * 4, none⟩ = some (.int .u64 x.1) ∧ W.cell? ⟨b, o + i * 4 + 1, none⟩ = some (.int .i64 x.2.x.tag) ∧ W.cell? ⟨b, o + i * 4 + 2, none⟩ = some (.slice x.2.A x.2.x.vec.length x.2.c) ∧ W.cell? ⟨b, o + i * 4 + 3, none⟩ = some (.string x.2.x.str))
              ((refine HX9.out _ ?_; repeat' (first | (with_reducible assumption) | (with_reducible exact Below.refl _ _) | (with_reducible refine Below.drew ?_) | (with_reducible refine below_drewN' ?_ _) | (with_reducible refine Below.alloc ?_ HSZ.out _) | (with_reducible refine Below.alloc ?_ HSZ0.out _))))
              (first
                | (refine step_append_full _ (by rfl) _ _ _ (by rfl) 36 4 56 Try.underlying22 itemK (by omega) w8.heap.size (some ⟨g, 0, none⟩) kk ((q.take kk).flatMap iE) (by rfl) slo hl8 _ _ 1 1 (iE x) (by rfl) slx rfl (by omega) (fun u hu => iE_one [x] u (by simpa using hu)) hkk hkk2 ?_; intro v9 w9 hown9 hb9; obtain ⟨hB9, ho9, sl9, sz9, HZ9⟩ := HY.out v9 w9 hown9 hb9)
                | (refine step_append_slk _ (by rfl) _ _ _ (by rfl) w8.heap.size 36 4 56 Try.underlying22 itemK (by omega) v9 (kk + 1) ((q.take kk).flatMap iE ++ iE x) (by rfl) ho9 w8.heap.size A9 m8 c9 ((q.drop kk).flatMap iE) (by rfl) sl9 ln8 (iE_one _) hkk3 hkk4 sz9 ?_; intro v10 w10 hown10 hg10 hat10; obtain ⟨hB10, A10, c10, rfl, hr10, hbw10⟩ := HZ9 v10 w10 hown10 hg10))
            have HE := Lib.hid (And.intro hr10 (And.intro hbw10 HPT.out))
            clear hr10 hbw10
            go_wp2_with (fail)
            go_roundg (l.length - (i + 1))
            case measure => omega
            case rel => exact ⟨i + 1, c10, A10, _, rfl, by omega, by go_num, rfl, HE.out.1, HE.out.2.2, HE.out.2.1⟩
    · obtain rfl : i = l.length := by omega
      have i1 : ¬ (l.length : Int) < (l.length : Int) := by omega
      rw [List.take_length] at hst
      have HC := Lib.hid (HSAME.out wr A' c' q hb hst hown)
      have HB := Lib.hid hb
      clear hown hst hb
      go_wp2_with (fail)
      refine HC.out.mono ?_
      rintro e w2 ⟨rfl, hb2⟩
      have HE : Hid (Below w.heap.size w w2) := Lib.hid (HB.out.trans (hb2.mono HB.out.size))
      clear hb2 HC HB
      go_wp2_with (fail)
      go_ret
      exact ⟨rfl, HE.out⟩
end Go.Proofs.Ytcdjmgmombaiaaa.idx
