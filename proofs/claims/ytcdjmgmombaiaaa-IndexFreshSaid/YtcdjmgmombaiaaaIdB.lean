/-
  The contract of index.ById: items in stable order of their numbers, each with numbers of its own.
-/
import Derived.Test.YtcdjmgmombaiaaaIdT
import Derived.Test.YtcdjmgmombaiaaaStbZ
import Derived.Test.YtcdjmgmombaiaaaGTold
namespace Go.Proofs.Ytcdjmgmombaiaaa.idx
open Go.RowKit law bytes only flat ord obj Go.Maps
open aro (Kept zK kV)
open store (iE iE_len iE_one itemAt itemK rM rM_length make_items Lie Fit)
open stb (ky IRow Stb)
open told (own_types blk_types)
set_option linter.unusedVariables false

/-- each thing's numbers lie in memory of the call's own -/
def Ow (n₀ : Nat) (W : World) (r : List (Int × Kept)) : Prop := ∀ q ∈ r, W.ownsRow n₀ 21 1 (.slice q.2.A q.2.x.vec.length q.2.c) q.2.x.vec.length (iv q.2.x.vec)
/-- items in order, in memory of the call's own -/
def Risen (w : World) (l : List (Int × Kept)) (e : Ending) (w' : World) : Prop := ∃ A c, ∃ r : List (Int × Kept), e = .returned (.slice A r.length c) ∧ w'.ownsRow w.heap.size 36 4 (.slice A r.length c) r.length (r.flatMap iE) ∧
  Stb Prod.fst (rM l) (rM r) ∧ Ow w.heap.size w' r ∧ Below w.heap.size w w'
theorem Ow.only {n₀ g n c : Nat} {W W' : World} {r : List (Int × Kept)} {xs : List Value} (h : Ow n₀ W r) (o : Only (· = g) W W') (hr : W.ownsRow n₀ 36 4 (.slice (some ⟨g, 0, none⟩) n c) n xs) : Ow n₀ W' r := fun q hq =>
  own_only (h q hq) o fun g2 e e2 => by
    subst e2
    exact own_types hr (h q hq) (by decide) rfl e
theorem Ow.below {n₀ : Nat} {W W' : World} {r : List (Int × Kept)} (h : Ow n₀ W r) (o : Below W.heap.size W W') : Ow n₀ W' r := fun q hq => own_below (h q hq) o (Nat.le_refl _)
set_option maxRecDepth 100000 in
set_option maxHeartbeats 3200000 in
theorem byId_any (A : Option Addr) (c B : Nat) (l : List (Int × Kept)) (w : World) (hB : B ≤ w.heap.size) (hs : Sl w B A (l.flatMap iE)) (hl : Lie w B l) (hq : l.length ≤ 2513169434915) :
    Calls Try.prog 11 #[.slice A l.length c] w (Risen w l) := by
  obtain ⟨Z, hZ, hmk⟩ := make_items l.length (by omega) w
  have hb0 : Below w.heap.size w (w.alloc (.cells Z 36)) := (Below.refl _ _).alloc (Nat.le_refl _) _
  have HO0 : Hid ((w.alloc (.cells Z 36)).ownsRow w.heap.size 36 4 (.slice (some ⟨w.heap.size, 0, none⟩) 0 l.length) 0 (([] : List (Int × Kept)).flatMap iE)) := Lib.hid (World.ownsRow_made w Z _ (Nat.le_refl _) (by unfold maxLen; omega) hZ)
  have HB0 := Lib.hid hb0
  have HS := Lib.hid (And.intro hs hB)
  have HL := Lib.hid hl
  have HSORT : Hid (∀ (W : World) (g n c : Nat) (r : List (Int × Kept)), IRow W w.heap.size g n c r → n ≤ 2513169434915 → Calls Try.prog 16 #[.slice (some ⟨g, 0, none⟩) n c, .func (.func 17) #[] #[]] W fun e w' => e = .returned (.tuple #[]) ∧ Only (· = g) W w' ∧ ∃ l', Stb ky r l' ∧ IRow w' w.heap.size g n c l') := Lib.hid fun W g n c r h hn => stb.sortStable_any h (by omega)
  clear hs hl hb0 hZ
  go_enter Try.func11, Try.ntmps11
  go_wp2_with (fail)
  go_loopg [3, 11] l.length (fun gk s3 s11 wr => ∃ (k g c' : Nat) (r : List (Int × Kept)), gk = l.length - k ∧ k ≤ l.length ∧ s11 = .int .i64 k ∧ s3 = .slice (some ⟨g, 0, none⟩) k c' ∧ wr.ownsRow w.heap.size 36 4 (.slice (some ⟨g, 0, none⟩) k c') k (r.flatMap iE) ∧ rM r = (rM l).take k ∧ Ow w.heap.size wr r ∧ Below w.heap.size w wr)
  case atStart => exact ⟨0, w.heap.size, l.length, [], rfl, Nat.zero_le _, rfl, rfl, HO0.out, rfl, fun q hq => by simp at hq, HB0.out⟩
  case round =>
    clear HO0 HB0 hmk
    obtain ⟨k, g, c', r, rfl, hk, rfl, rfl, hown, hrm, how, hb⟩ := hrel
    by_cases hlt : k < l.length
    · have i1 : (k : Int) < (l.length : Int) := by omega
      obtain ⟨b, o, rfl, hb1, d0, d1, d2, d3⟩ := itemAt (HS.out.1.below (hb.mono HS.out.2)) hlt
      obtain ⟨hv, hf1, hf2⟩ := HL.out l[k] (List.getElem_mem hlt)
      have hx : (rM l)[k]? = some (l[k].1, l[k].2.x) := by simp [rM, hlt]
      obtain ⟨id, hid⟩ : ∃ id, l[k].1 = id := ⟨_, rfl⟩
      obtain ⟨kp, hkp⟩ : ∃ kp, l[k].2 = kp := ⟨_, rfl⟩
      rw [hid] at d0 hx
      rw [hkp] at d1 d2 d3 hv hf1 hf2 hx
      clear hid hkp
      have hV2 : Below w.heap.size w (wr.alloc (.cells #[.int .u64 id, .int .i64 kp.x.tag, .slice kp.A kp.x.vec.length kp.c, .string kp.x.str] 36)) := hb.alloc hb.size _
      have hk2 := Blk.new wr 36 #[.int .u64 id, .int .i64 kp.x.tag, .slice kp.A kp.x.vec.length kp.c, .string kp.x.str]
      have ho2 := hown.alloc (.cells #[.int .u64 id, .int .i64 kp.x.tag, .slice kp.A kp.x.vec.length kp.c, .string kp.x.str] 36)
      have hw2 := how.below ((Below.refl wr.heap.size wr).alloc (Nat.le_refl _) (.cells #[.int .u64 id, .int .i64 kp.x.tag, .slice kp.A kp.x.vec.length kp.c, .string kp.x.str] 36))
      have hVs : (wr.alloc (.cells #[.int .u64 id, .int .i64 kp.x.tag, .slice kp.A kp.x.vec.length kp.c, .string kp.x.str] 36)).heap.size = wr.heap.size + 1 := by simp
      have v0 : (wr.alloc (.cells #[.int .u64 id, .int .i64 kp.x.tag, .slice kp.A kp.x.vec.length kp.c, .string kp.x.str] 36)).cell? ⟨wr.heap.size, 2, none⟩ = some (.slice kp.A kp.x.vec.length kp.c) := hk2.cell 2
      obtain ⟨V, hV⟩ : ∃ V, V = wr.alloc (.cells #[.int .u64 id, .int .i64 kp.x.tag, .slice kp.A kp.x.vec.length kp.c, .string kp.x.str] 36) := ⟨_, rfl⟩
      rw [← hV] at hV2 hk2 ho2 hVs hw2
      have HC : Hid (Calls Try.prog 15 #[.slice kp.A kp.x.vec.length kp.c] V fun e w' => ∃ A c, e = .returned (.slice A kp.x.vec.length c) ∧ w'.ownsRow V.heap.size 21 1 (.slice A kp.x.vec.length c) kp.x.vec.length (iv kp.x.vec) ∧ Below V.heap.size V w') :=
        Lib.hid (made_on (Below.refl _ _) (iv_length kp.x.vec) (vclone_any kp.A kp.x.vec kp.c B V hf1 (Nat.le_trans HS.out.2 hV2.size) (hv.below (hV2.mono HS.out.2))))
      have HV := Lib.hid hV
      have HK := Lib.hid (And.intro hk2 (And.intro ho2 (And.intro hVs (And.intro hV2 hw2))))
      have HX := Lib.hid (And.intro hx hrm)
      have HRL : Hid (r.length = k ∧ w.heap.size ≤ wr.heap.size ∧ g < wr.heap.size) := Lib.hid ⟨by have := congrArg List.length hrm; rw [rM_length, List.length_take, rM_length] at this; omega, hb.size, (own_lt hown (g := g) rfl).2⟩
      clear hx hV hV2 hk2 ho2 hVs hw2 hown hb how hrm hv hf1 hf2
      go_wp2_with (fail)
      rw [← HV.out]
      refine HC.out.mono ?_
      rintro e w2 ⟨A5, c5, rfl, hown5, hb2⟩
      obtain ⟨h1, h2, h3, h4, h5⟩ := HK.out
      have hkw := h1.below hb2 (by omega)
      have hb3 : Below w.heap.size w w2 := h4.trans (hb2.mono h4.size)
      have q0 : w2.cell? ⟨wr.heap.size, 0, none⟩ = some (.int .u64 id) := hkw.cell 0
      have q1 : w2.cell? ⟨wr.heap.size, 1, none⟩ = some (.int .i64 kp.x.tag) := hkw.cell 1
      have q2 : w2.cell? ⟨wr.heap.size, 2, none⟩ = some (.slice kp.A kp.x.vec.length kp.c) := hkw.cell 2
      have q3 : w2.cell? ⟨wr.heap.size, 3, none⟩ = some (.string kp.x.str) := hkw.cell 3
      have qf : w2.frozen? ⟨wr.heap.size, 2, none⟩ = false := hkw.frozen 2
      have hgl := HRL.out.2.2
      have o4 : Only (· = wr.heap.size) w2 (w2.setCell ⟨wr.heap.size, 2, none⟩ (.slice A5 kp.x.vec.length c5)) := Only.setCell (S := (· = wr.heap.size)) (p := ⟨wr.heap.size, 2, none⟩) (Only.refl _ _) (.inl rfl) _
      have hb4 : Below w.heap.size w (w2.setCell ⟨wr.heap.size, 2, none⟩ (.slice A5 kp.x.vec.length c5)) := hb3.setCell (p := ⟨wr.heap.size, 2, none⟩) HRL.out.2.1 _
      have r3 : (w2.setCell ⟨wr.heap.size, 2, none⟩ (.slice A5 kp.x.vec.length c5)).ownsRow w.heap.size 36 4 (.slice (some ⟨g, 0, none⟩) k c') k (r.flatMap iE) := own_only (own_below h2 hb2 (Nat.le_refl _)) o4 fun g' e e2 => by
        injection e with e
        have e : g = g' := e
        have e2 : g' = wr.heap.size := e2
        omega
      have w3 : Ow w.heap.size (w2.setCell ⟨wr.heap.size, 2, none⟩ (.slice A5 kp.x.vec.length c5)) (r ++ [(id, (⟨kp.x, A5, c5⟩ : Kept))]) := fun q hq => by
        rcases List.mem_append.1 hq with hq | hq
        · have h7 := own_below (h5 q hq) hb2 (Nat.le_refl _)
          exact own_only h7 o4 fun g' e e2 => blk_types h7 hkw (by decide) (by rw [e, show g' = wr.heap.size from e2])
        · obtain rfl : q = (id, (⟨kp.x, A5, c5⟩ : Kept)) := by simpa using hq
          have h7 := own_base hown5 h4.size
          exact own_only h7 o4 fun g' e e2 => blk_types h7 hkw (by decide) (by rw [e, show g' = wr.heap.size from e2])
      have hs4 := hb4.size
      have HY : Hid (∀ v4 w4, w4.ownsRow w.heap.size 36 4 v4 (k + 1) (r.flatMap iE ++ iE (id, (⟨kp.x, A5, c5⟩ : Kept))) → ((w2.setCell ⟨wr.heap.size, 2, none⟩ (.slice A5 kp.x.vec.length c5)).alloc (.cells #[.int .u64 id, .int .i64 kp.x.tag, .slice A5 kp.x.vec.length c5, .string kp.x.str] 36)).grownBy w4 (Value.slice (some ⟨g, 0, none⟩) k c').ownBlock →
          ∃ g4 c4, v4 = .slice (some ⟨g4, 0, none⟩) (k + 1) c4 ∧ w4.ownsRow w.heap.size 36 4 (.slice (some ⟨g4, 0, none⟩) (k + 1) c4) (k + 1) ((r ++ [(id, (⟨kp.x, A5, c5⟩ : Kept))]).flatMap iE) ∧ rM (r ++ [(id, (⟨kp.x, A5, c5⟩ : Kept))]) = (rM l).take (k + 1) ∧ Ow w.heap.size w4 (r ++ [(id, (⟨kp.x, A5, c5⟩ : Kept))]) ∧ Below w.heap.size w w4) := Lib.hid fun v4 w4 ho hg => by
        obtain ⟨g4, c4, hv4, -, -⟩ := own_form ho (by omega)
        have r5 := World.ownsRow.alloc (w := w2.setCell ⟨wr.heap.size, 2, none⟩ (.slice A5 kp.x.vec.length c5)) r3 (.cells #[.int .u64 id, .int .i64 kp.x.tag, .slice A5 kp.x.vec.length c5, .string kp.x.str] 36)
        refine ⟨g4, c4, hv4, ?_, ?_, fun q hq => ?_, below_appendK1 hb4 hs4 _ r3 (Nat.le_refl _) hg⟩
        · rw [List.flatMap_append, ← hv4]
          simpa using ho
        · have e1 : rM (r ++ [(id, (⟨kp.x, A5, c5⟩ : Kept))]) = rM r ++ [(id, kp.x)] := by simp [rM]
          rw [e1, List.take_add_one, HX.out.1, HX.out.2]
          rfl
        · have h8 := World.ownsRow.alloc (w := w2.setCell ⟨wr.heap.size, 2, none⟩ (.slice A5 kp.x.vec.length c5)) (w3 q hq) (.cells #[.int .u64 id, .int .i64 kp.x.tag, .slice A5 kp.x.vec.length c5, .string kp.x.str] 36)
          exact own_only h8 (S := fun i => (Value.slice (some ⟨g, 0, none⟩) k c').ownBlock = some i) (Only.of_grown hg fun g' e => .inl e) fun g' e e2 => own_types r5 h8 (by decide) e2 e
      have hsl : Sl ((w2.setCell ⟨wr.heap.size, 2, none⟩ (.slice A5 kp.x.vec.length c5)).alloc (.cells #[.int .u64 id, .int .i64 kp.x.tag, .slice A5 kp.x.vec.length c5, .string kp.x.str] 36)) ((w2.setCell ⟨wr.heap.size, 2, none⟩ (.slice A5 kp.x.vec.length c5)).alloc (.cells #[.int .u64 id, .int .i64 kp.x.tag, .slice A5 kp.x.vec.length c5, .string kp.x.str] 36)).heap.size (some ⟨w2.heap.size, 0, none⟩) (iE (id, (⟨kp.x, A5, c5⟩ : Kept))) := by
        have h := Sl.lit (w2.setCell ⟨wr.heap.size, 2, none⟩ (.slice A5 kp.x.vec.length c5)) (iE (id, (⟨kp.x, A5, c5⟩ : Kept))) 36
        have e : (w2.setCell ⟨wr.heap.size, 2, none⟩ (.slice A5 kp.x.vec.length c5)).heap.size = w2.heap.size := by simp [World.setCell]
        exact e ▸ h
      have hf6 : (iE (id, (⟨kp.x, A5, c5⟩ : Kept))).length = 1 * 4 := rfl
      clear h1 h2 h3 h4 h5 hkw hb2 hb3 o4 w3 hown5 HC HK v0 hb4
      go_wp2_with (at_builtin
                   refine wpList_append_slk _ rfl (.tmp 21) (.tmp 23) _ rfl w.heap.size 36 4 56 Try.underlying22 itemK (by decide) (.slice (some ⟨g, 0, none⟩) k c') k (r.flatMap iE) rfl (World.ownsRow.alloc (w := w2.setCell ⟨wr.heap.size, 2, none⟩ (.slice A5 kp.x.vec.length c5)) r3 _) _ _ 1 1 (iE (id, (⟨kp.x, A5, c5⟩ : Kept))) rfl hsl hf6 (fun u hu => iE_one [(id, (⟨kp.x, A5, c5⟩ : Kept))] u (by simpa using hu)) (by omega) (by unfold maxLen; omega) (by have := hs4; simp at this ⊢; omega) ?_
                   intro v4 w4 hown4 hg4 hat4
                   obtain ⟨g4, c4, rfl, hr4, hm4, hw4, hb4⟩ := HY.out v4 w4 hown4 hg4)
      have HE := Lib.hid (And.intro hr4 (And.intro hm4 (And.intro hw4 hb4)))
      clear hr4 hm4 hw4 hb4 hown4 hg4 hat4 HY r3
      go_roundg (l.length - (k + 1))
      case measure => omega
      case rel => exact ⟨k + 1, g4, c4, _, rfl, by omega, by go_num, rfl, HE.out.1, HE.out.2.1, HE.out.2.2.1, HE.out.2.2.2⟩
    · obtain rfl : k = l.length := by omega
      have i1 : ¬ (l.length : Int) < (l.length : Int) := by omega
      have hrl : r.length = l.length := by have := congrArg List.length hrm; rw [rM_length, List.length_take, rM_length] at this; omega
      have HC := Lib.hid (HSORT.out wr g l.length c' r hown hq)
      have hrM : rM r = rM l := by rw [hrm, ← rM_length, List.take_length]
      have HE : Hid (∀ w' l', Only (· = g) wr w' → Stb ky r l' → IRow w' w.heap.size g l.length c' l' → Risen w l (.returned (.slice (some ⟨g, 0, none⟩) l.length c')) w') := Lib.hid fun w' l' ho hst hr => by
        have hl' : l'.length = l.length := hr.len
        refine ⟨_, c', l', by rw [hl'], by rw [hl']; exact hr, ?_, fun q hq => how.only ho hown q ((hst.eqf.mem q).2 hq), hb.trans (ho.below hb.size fun i e => ?_)⟩
        · rw [← hrM]
          exact hst.map (k := ky) (k' := Prod.fst) (f := fun p : Int × Kept => (p.1, p.2.x)) fun _ => rfl
        · have e : i = g := e
          rw [e]
          exact (own_lt hown (g := g) rfl).1
      clear hown hb hrm how hrl hrM HSORT
      go_wp2_with (fail)
      refine HC.out.mono ?_
      rintro e w2 ⟨rfl, ho2, l', hst, hr2⟩
      have HE2 := Lib.hid (HE.out w2 l' ho2 hst hr2)
      clear ho2 hst hr2 HC HE
      go_wp2_with (fail)
      go_ret
      exact HE2.out
end Go.Proofs.Ytcdjmgmombaiaaa.idx
