/-
  The contracts of object.Clone and of the document's own Same.
-/
import Derived.Test.YtaickhhbdbbmjaaLess
namespace Go.Proofs.Ytaickhhbdbbmjaa.obj
open Go.RowKit law bytes nums ord
set_option linter.unusedVariables false

theorem own_base {w : World} {base base' : Nat} {e : TypeId} {size n : Nat} {v : Value} {xs : List Value} (h : w.ownsRow base' e size v n xs) (hb : base ≤ base') : w.ownsRow base e size v n xs := by
  refine ⟨h.1, ?_⟩
  rcases h.2 with hn | ⟨g, cap, cur, hv, hg, rest⟩
  · exact .inl hn
  · exact .inr ⟨g, cap, cur, hv, Nat.le_trans hb hg, rest⟩
theorem on' {P : Program} {f : FuncId} {args : Array Value} {V W : World} {v : Value} (hb : Below V.heap.size V W) (h : Calls P f args W (Gives v W)) : Calls P f args W fun e w' => e = .returned v ∧ Below W.heap.size W w' ∧ Below V.heap.size V w' :=
  h.mono fun e w' ⟨he, h2⟩ => ⟨he, h2, hb.trans (h2.mono hb.size)⟩
theorem made_on {P : Program} {f : FuncId} {args : Array Value} {V W : World} {t : TypeId} {xs : List Value} {n : Nat} (hb : Below V.heap.size V W) (hn : xs.length = n) (h : Calls P f args W (Made t xs W)) :
    Calls P f args W fun e w' => ∃ A c, e = .returned (.slice A n c) ∧ w'.ownsRow V.heap.size t 1 (.slice A n c) n xs ∧ Below V.heap.size V w' := by
  subst hn
  exact h.mono fun e w' ⟨A, c, he, ho, h2⟩ => ⟨A, c, he, own_base ho hb.size, hb.trans (h2.mono hb.size)⟩
theorem Below.three {B : Nat} {w V : World} (h : Below B w V) {b : Nat} (hb : B ≤ b) (u0 u1 u2 : Value) : Below B w (((V.setCell ⟨b, 0, none⟩ u0).setCell ⟨b, 1, none⟩ u1).setCell ⟨b, 2, none⟩ u2) :=
  ((h.setCell (p := ⟨b, 0, none⟩) hb u0).setCell (p := ⟨b, 1, none⟩) hb u1).setCell (p := ⟨b, 2, none⟩) hb u2
theorem own_three {V : World} {base b n : Nat} {t : TypeId} {v : Value} {xs : List Value} (h : V.ownsRow base t 1 v n xs) (hb : b < base) (u0 u1 u2 : Value) : (((V.setCell ⟨b, 0, none⟩ u0).setCell ⟨b, 1, none⟩ u1).setCell ⟨b, 2, none⟩ u2).ownsRow base t 1 v n xs :=
  ownsRow_setCell_below (ownsRow_setCell_below (ownsRow_setCell_below h hb _) hb _) hb _
/-- a copy, in memory of its own -/
def Cloned (x : Thing) (w : World) (e : Ending) (w' : World) : Prop := ∃ A c, e = .returned (.agg #[.int .i64 x.tag, .slice A x.vec.length c, .string x.str]) ∧ Sl w' w'.heap.size A (iv x.vec) ∧ Below w.heap.size w w'
set_option maxHeartbeats 1600000 in
theorem clone_any (A : Option Addr) (c B : Nat) (x : Thing) (w : World) (hx : x.vec.length * 4 ≤ 140737488355328) (hx2 : x.str.size ≤ 281474976710656) (hB : B ≤ w.heap.size) (hs : Sl w B A (iv x.vec)) :
    Calls Try.prog 28 #[.agg #[.int .i64 x.tag, .slice A x.vec.length c, .string x.str]] w (Cloned x w) := by
  obtain ⟨hb, hba, hbb⟩ := two_box w 29 #[.int .i64 x.tag, .slice A x.vec.length c, .string x.str] #[.int .i64 0, .slice none 0 0, .string ⟨#[]⟩]
  have hs1 : Sl ((w.alloc (.cells #[.int .i64 x.tag, .slice A x.vec.length c, .string x.str] 29)).alloc (.cells #[.int .i64 0, .slice none 0 0, .string ⟨#[]⟩] 29)) B A (iv x.vec) := (hs.alloc hB _).alloc (by simp; omega) _
  have hvs : ((w.alloc (.cells #[.int .i64 x.tag, .slice A x.vec.length c, .string x.str] 29)).alloc (.cells #[.int .i64 0, .slice none 0 0, .string ⟨#[]⟩] 29)).heap.size = w.heap.size + 2 := by simp
  go_enter Try.func28, Try.ntmps28
  go_wp2_with (fail)
  obtain ⟨V, hV⟩ : ∃ V, V = ((w.alloc (.cells #[.int .i64 x.tag, .slice A x.vec.length c, .string x.str] 29)).alloc (.cells #[.int .i64 0, .slice none 0 0, .string ⟨#[]⟩] 29)) := ⟨_, rfl⟩
  rw [← hV] at hs1 hb hba hbb hvs ⊢
  have HVec : Hid (∀ W, Below V.heap.size V W → Calls Try.prog 39 #[.slice A x.vec.length c] W (Made 21 (iv x.vec) W)) := Lib.hid fun W hW => vclone_any A x.vec c B W hx (Nat.le_trans hB (Nat.le_trans (by omega) hW.size)) (hs1.below (hW.mono (by omega)))
  have HStr : Hid (∀ W, Calls Try.prog 40 #[.string x.str] W (Gives (.string x.str) W)) := Lib.hid fun W => sclone_any x.str W hx2
  have hgl := hba.lt
  have hgl2 := hbb.lt
  have HB := Lib.hid hb
  have HVS := Lib.hid hvs
  clear hV hs hs1 hB hb hx hx2 hvs
  obtain ⟨c0, c1, c2, cf⟩ := cells3 hba
  have hB0 : Below V.heap.size V V.drew := (Below.refl _ _).drew
  have hS : ∀ w' : World, Below (w.heap.size + 1) V w' → (w'.cell? ⟨w.heap.size, 0, none⟩ = some (.int .i64 x.tag) ∧ w'.cell? ⟨w.heap.size, 1, none⟩ = some (.slice A x.vec.length c) ∧ w'.cell? ⟨w.heap.size, 2, none⟩ = some (.string x.str)) := fun w' h => by
    obtain ⟨k0, k1, k2, -⟩ := cells3 (hba.below h (by omega))
    exact ⟨k0, k1, k2⟩
  have HLE : Hid (w.heap.size + 1 ≤ V.heap.size) := Lib.hid hgl
  have HS := Lib.hid hS
  clear hS
  obtain ⟨g, hg⟩ : ∃ g, g = w.heap.size := ⟨_, rfl⟩
  rw [← hg] at hba hbb hgl hgl2 HS HLE c0 c1 c2 cf ⊢
  have HG := Lib.hid hg
  clear hg
  have hln := iv_length x.vec
  go_region_held3 (fun w' => w'.cell? ⟨g, 0, none⟩ = some (.int .i64 x.tag) ∧ w'.cell? ⟨g, 1, none⟩ = some (.slice A x.vec.length c) ∧ w'.cell? ⟨g, 2, none⟩ = some (.string x.str))
    ((refine HS.out _ ?_; (first | (with_reducible exact Below.refl _ _) | (with_reducible exact Below.drew (Below.refl _ _)) | (refine Below.mono ?_ HLE.out; with_reducible assumption) | (with_reducible refine Below.three (Below.mono ?_ HLE.out) (Nat.le_refl _) _ _ _; with_reducible assumption))))
    (first
      | (go_at_call 39
         (with_reducible refine (made_on (by with_reducible assumption) hln (HVec.out _ (by with_reducible assumption))).mono ?_)
         rintro e w2 ⟨A2, c2', rfl, hown2, hb2⟩
         obtain ⟨q0, q1, q2, qf⟩ := cells3 (hbb.below hb2 hgl2))
      | (go_at_call 40
         (with_reducible refine (on' (by with_reducible assumption) (HStr.out _)).mono ?_)
         rintro e w3 ⟨rfl, hb3', hb3⟩
         obtain ⟨q0, q1, q2, qf⟩ := cells3 (hbb.below hb3 hgl2)))
  all_goals go_wp2_with (fail)
  all_goals first
    | (have hown3 := own_below hown2 hb3' (Nat.le_refl _)
       refine bodyPost_ret (v := .agg #[.int .i64 x.tag, .slice A2 x.vec.length c2', .string x.str]) (by simp [results, Try.results28, go_sem, q0, q1, q2]) rfl ?_
       exact ⟨A2, c2', rfl, Sl.of_own (own_three hown3 hgl2 _ _ _), HG.out ▸ Below.three ((HG.out ▸ HB.out : Below g w V).trans (hb3.mono (by omega))) (by omega) _ _ _⟩)
    | (refine bodyPost_ret (v := .agg #[.int .i64 x.tag, .slice A2 x.vec.length c2', .string x.str]) (by simp [results, Try.results28, go_sem, q0, q1, q2]) rfl ?_
       exact ⟨A2, c2', rfl, Sl.of_own (own_three hown2 hgl2 _ _ _), HG.out ▸ Below.three ((HG.out ▸ HB.out : Below g w V).trans (hb2.mono (by omega))) (by omega) _ _ _⟩)
set_option maxHeartbeats 800000 in
theorem rsame_any (A A' : Option Addr) (c c' B B' : Nat) (x y : Thing) (w : World) (hx : x.vec.length ≤ 281474976710656) (hy : y.vec.length ≤ 281474976710656) (hB : B ≤ w.heap.size) (hB' : B' ≤ w.heap.size) (hs : Sl w B A (iv x.vec)) (hs' : Sl w B' A' (iv y.vec)) :
    Calls Try.prog 15 #[.agg #[.int .i64 x.tag, .slice A x.vec.length c, .string x.str], .agg #[.int .i64 y.tag, .slice A' y.vec.length c', .string y.str]] w (Gives (.bool (sameO x y)) w) := by
  have hR := sameO_eq x y
  obtain ⟨hb, hba, hbb⟩ := two_box w 29 #[.int .i64 x.tag, .slice A x.vec.length c, .string x.str] #[.int .i64 y.tag, .slice A' y.vec.length c', .string y.str]
  have hs1 : Sl ((w.alloc (.cells #[.int .i64 x.tag, .slice A x.vec.length c, .string x.str] 29)).alloc (.cells #[.int .i64 y.tag, .slice A' y.vec.length c', .string y.str] 29)) B A (iv x.vec) := (hs.alloc hB _).alloc (by simp; omega) _
  have hs2 : Sl ((w.alloc (.cells #[.int .i64 x.tag, .slice A x.vec.length c, .string x.str] 29)).alloc (.cells #[.int .i64 y.tag, .slice A' y.vec.length c', .string y.str] 29)) B' A' (iv y.vec) := (hs'.alloc hB' _).alloc (by simp; omega) _
  obtain ⟨V, hV⟩ : ∃ V, V = ((w.alloc (.cells #[.int .i64 x.tag, .slice A x.vec.length c, .string x.str] 29)).alloc (.cells #[.int .i64 y.tag, .slice A' y.vec.length c', .string y.str] 29)) := ⟨_, rfl⟩
  rw [← hV] at hs1 hs2 hb hba hbb
  have hL1 : ∀ W, Below V.heap.size V W → Calls Try.prog 30 #[.agg #[.int .i64 x.tag, .slice A x.vec.length c, .string x.str], .agg #[.int .i64 y.tag, .slice A' y.vec.length c', .string y.str]] W (Gives (.bool (lessO x y)) W) := fun W hW => by
    have h1 := hb.size
    have h2 := hW.size
    exact less_any A A' c c' B B' x y W hx (by omega) (by omega) (hs1.below (hW.mono (by omega))) (hs2.below (hW.mono (by omega)))
  have hL2 : ∀ W, Below V.heap.size V W → Calls Try.prog 30 #[.agg #[.int .i64 y.tag, .slice A' y.vec.length c', .string y.str], .agg #[.int .i64 x.tag, .slice A x.vec.length c, .string x.str]] W (Gives (.bool (lessO y x)) W) := fun W hW => by
    have h1 := hb.size
    have h2 := hW.size
    exact less_any A' A c' c B' B y x W hy (by omega) (by omega) (hs2.below (hW.mono (by omega))) (hs1.below (hW.mono (by omega)))
  have hgl := hba.lt
  have hgl2 := hbb.lt
  have HB := Lib.hid hb
  generalize lessO x y = r1 at hR hL1
  generalize lessO y x = r2 at hR hL2
  have HR := Lib.hid hR
  have HL1 := Lib.hid hL1
  have HL2 := Lib.hid hL2
  clear hs hs' hs1 hs2 hR hL1 hL2 hb hx hy hB hB'
  obtain ⟨c0, c1, c2, cf⟩ := cells3 hba
  obtain ⟨d0, d1, d2, df⟩ := cells3 hbb
  cases r1
  · go_enter Try.func15, Try.ntmps15
    go_wp2_with (fail)
    rw [← hV]
    clear hV
    refine (on' (Below.refl _ _) (HL1.out V (Below.refl _ _))).mono ?_
    rintro e w1 ⟨rfl, hb1, -⟩
    obtain ⟨c0, c1, c2, cf⟩ := cells3 (hba.below hb1 hgl)
    obtain ⟨d0, d1, d2, df⟩ := cells3 (hbb.below hb1 hgl2)
    go_wp2_with (fail)
    refine (on hb1 (HL2.out w1 hb1)).mono ?_
    rintro e w2 ⟨rfl, hb2⟩
    go_wp2_with (fail)
    go_ret
    rw [HR.out]
    exact ⟨by first | rfl | (cases r2 <;> rfl), HB.out.trans (hb2.mono HB.out.size)⟩
  · go_enter Try.func15, Try.ntmps15
    go_wp2_with (fail)
    rw [← hV]
    clear hV
    refine (on' (Below.refl _ _) (HL1.out V (Below.refl _ _))).mono ?_
    rintro e w1 ⟨rfl, hb1, -⟩
    go_wp2_with (fail)
    go_ret
    rw [HR.out]
    exact ⟨rfl, HB.out.trans (hb1.mono HB.out.size)⟩
end Go.Proofs.Ytaickhhbdbbmjaa.obj
