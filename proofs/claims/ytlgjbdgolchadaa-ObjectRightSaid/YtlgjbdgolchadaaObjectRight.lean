/-
  For all things, metrics and sizes the law ObjectRight returns true, and changes nothing that there was.
-/
import Derived.Test.YtlgjbdgolchadaaLive5
namespace Go.Proofs.Ytlgjbdgolchadaa.objectRight
open Go.RowKit law bytes nums ord obj
open Go.ChangeShapes Go.WideShapes Go.ChangeAt
set_option linter.unusedVariables false

set_option maxHeartbeats 1000000 in
theorem walk1 (A : Option Addr) (c : Nat) (x : Thing) (s : Int) (w : World)  :
    Calls Try.prog 3 #[.agg #[.int .i64 x.tag, .slice A x.vec.length c, .string x.str], .int .i64 1, .int .i64 s] w fun e w' => e = .returned (.bool true) ∧ Below w.heap.size w w' := by
  have hblk := Blk.new w 24 #[.int .i64 x.tag, .slice A x.vec.length c, .string x.str]
  have hb := box_blk w 24 #[.int .i64 x.tag, .slice A x.vec.length c, .string x.str]
  have HR := Lib.hid (right_any A c x (1) s)
  have HQ := Lib.hid (rright_any A c x (1) s)
  have ht := tag_any (1)
  rw [show tagOf 1 = 1 from rfl] at ht
  have HT := Lib.hid ht
  clear ht
  go_enter Try.func3, Try.ntmps3
  go_wp2_with (fail)
  obtain ⟨V, hV⟩ : ∃ V, V = (w.alloc (.cells #[.int .i64 x.tag, .slice A x.vec.length c, .string x.str] 24)) := ⟨_, rfl⟩
  rw [← hV] at hblk hb ⊢
  clear hV
  obtain ⟨c0, c1, c2, cf⟩ := cells3 hblk
  have hgl := hblk.lt
  have HB := Lib.hid hb
  clear hb
  have hB0 : Below V.heap.size V V.drew := (Below.refl _ _).drew
  have hS : ∀ w' : World, Below V.heap.size V w' → (w'.cell? ⟨w.heap.size, 0, none⟩ = some (.int .i64 x.tag) ∧ w'.cell? ⟨w.heap.size, 1, none⟩ = some (.slice A x.vec.length c) ∧ w'.cell? ⟨w.heap.size, 2, none⟩ = some (.string x.str)) := fun w' h => by
    obtain ⟨k0, k1, k2, -⟩ := cells3 (hblk.below h hgl)
    exact ⟨k0, k1, k2⟩
  have HS := Lib.hid hS
  clear hS
  generalize w.heap.size = g at hblk hgl HS c0 c1 c2 cf ⊢
  go_region_held3 (fun w' => w'.cell? ⟨g, 0, none⟩ = some (.int .i64 x.tag) ∧ w'.cell? ⟨g, 1, none⟩ = some (.slice A x.vec.length c) ∧ w'.cell? ⟨g, 2, none⟩ = some (.string x.str)) ((refine HS.out _ ?_; (first | (with_reducible exact Below.refl _ _) | (with_reducible exact Below.drew (Below.refl _ _)) | (with_reducible assumption))))
    (first
      | (go_at_call 7; (with_reducible refine (on (by with_reducible assumption) (HR.out _)).mono ?_); rintro e w2 ⟨rfl, hb2⟩)
      | (go_at_call 8; (with_reducible refine (on (by with_reducible assumption) (HQ.out _)).mono ?_); rintro e w3 ⟨rfl, hb3⟩)
      | (go_at_call 9; (with_reducible refine (HT.out _).mono ?_); rintro e w4 ⟨rfl, rfl⟩)
      | (go_at_call 10; (with_reducible refine (on (by with_reducible assumption) (lives_any _)).mono ?_); rintro e w5 ⟨rfl, hb5⟩))
  all_goals
    go_wp2
    go_ret
    exact ⟨rfl, HB.out.trans (hb5.mono HB.out.size)⟩
set_option maxHeartbeats 1000000 in
theorem walk2 (A : Option Addr) (c : Nat) (x : Thing) (s : Int) (w : World)  :
    Calls Try.prog 3 #[.agg #[.int .i64 x.tag, .slice A x.vec.length c, .string x.str], .int .i64 2, .int .i64 s] w fun e w' => e = .returned (.bool true) ∧ Below w.heap.size w w' := by
  have hblk := Blk.new w 24 #[.int .i64 x.tag, .slice A x.vec.length c, .string x.str]
  have hb := box_blk w 24 #[.int .i64 x.tag, .slice A x.vec.length c, .string x.str]
  have HR := Lib.hid (right_any A c x (2) s)
  have HQ := Lib.hid (rright_any A c x (2) s)
  have ht := tag_any (2)
  rw [show tagOf 2 = 2 from rfl] at ht
  have HT := Lib.hid ht
  clear ht
  go_enter Try.func3, Try.ntmps3
  go_wp2_with (fail)
  obtain ⟨V, hV⟩ : ∃ V, V = (w.alloc (.cells #[.int .i64 x.tag, .slice A x.vec.length c, .string x.str] 24)) := ⟨_, rfl⟩
  rw [← hV] at hblk hb ⊢
  clear hV
  obtain ⟨c0, c1, c2, cf⟩ := cells3 hblk
  have hgl := hblk.lt
  have HB := Lib.hid hb
  clear hb
  have hB0 : Below V.heap.size V V.drew := (Below.refl _ _).drew
  have hS : ∀ w' : World, Below V.heap.size V w' → (w'.cell? ⟨w.heap.size, 0, none⟩ = some (.int .i64 x.tag) ∧ w'.cell? ⟨w.heap.size, 1, none⟩ = some (.slice A x.vec.length c) ∧ w'.cell? ⟨w.heap.size, 2, none⟩ = some (.string x.str)) := fun w' h => by
    obtain ⟨k0, k1, k2, -⟩ := cells3 (hblk.below h hgl)
    exact ⟨k0, k1, k2⟩
  have HS := Lib.hid hS
  clear hS
  generalize w.heap.size = g at hblk hgl HS c0 c1 c2 cf ⊢
  go_region_held3 (fun w' => w'.cell? ⟨g, 0, none⟩ = some (.int .i64 x.tag) ∧ w'.cell? ⟨g, 1, none⟩ = some (.slice A x.vec.length c) ∧ w'.cell? ⟨g, 2, none⟩ = some (.string x.str)) ((refine HS.out _ ?_; (first | (with_reducible exact Below.refl _ _) | (with_reducible exact Below.drew (Below.refl _ _)) | (with_reducible assumption))))
    (first
      | (go_at_call 7; (with_reducible refine (on (by with_reducible assumption) (HR.out _)).mono ?_); rintro e w2 ⟨rfl, hb2⟩)
      | (go_at_call 8; (with_reducible refine (on (by with_reducible assumption) (HQ.out _)).mono ?_); rintro e w3 ⟨rfl, hb3⟩)
      | (go_at_call 9; (with_reducible refine (HT.out _).mono ?_); rintro e w4 ⟨rfl, rfl⟩)
      | (go_at_call 10; (with_reducible refine (on (by with_reducible assumption) (lives_any _)).mono ?_); rintro e w5 ⟨rfl, hb5⟩))
  all_goals
    go_wp2
    go_ret
    exact ⟨rfl, HB.out.trans (hb5.mono HB.out.size)⟩
set_option maxHeartbeats 1000000 in
theorem walk3 (A : Option Addr) (c : Nat) (x : Thing) (s : Int) (w : World)  :
    Calls Try.prog 3 #[.agg #[.int .i64 x.tag, .slice A x.vec.length c, .string x.str], .int .i64 3, .int .i64 s] w fun e w' => e = .returned (.bool true) ∧ Below w.heap.size w w' := by
  have hblk := Blk.new w 24 #[.int .i64 x.tag, .slice A x.vec.length c, .string x.str]
  have hb := box_blk w 24 #[.int .i64 x.tag, .slice A x.vec.length c, .string x.str]
  have HR := Lib.hid (right_any A c x (3) s)
  have HQ := Lib.hid (rright_any A c x (3) s)
  have ht := tag_any (3)
  rw [show tagOf 3 = 2 from rfl] at ht
  have HT := Lib.hid ht
  clear ht
  go_enter Try.func3, Try.ntmps3
  go_wp2_with (fail)
  obtain ⟨V, hV⟩ : ∃ V, V = (w.alloc (.cells #[.int .i64 x.tag, .slice A x.vec.length c, .string x.str] 24)) := ⟨_, rfl⟩
  rw [← hV] at hblk hb ⊢
  clear hV
  obtain ⟨c0, c1, c2, cf⟩ := cells3 hblk
  have hgl := hblk.lt
  have HB := Lib.hid hb
  clear hb
  have hB0 : Below V.heap.size V V.drew := (Below.refl _ _).drew
  have hS : ∀ w' : World, Below V.heap.size V w' → (w'.cell? ⟨w.heap.size, 0, none⟩ = some (.int .i64 x.tag) ∧ w'.cell? ⟨w.heap.size, 1, none⟩ = some (.slice A x.vec.length c) ∧ w'.cell? ⟨w.heap.size, 2, none⟩ = some (.string x.str)) := fun w' h => by
    obtain ⟨k0, k1, k2, -⟩ := cells3 (hblk.below h hgl)
    exact ⟨k0, k1, k2⟩
  have HS := Lib.hid hS
  clear hS
  generalize w.heap.size = g at hblk hgl HS c0 c1 c2 cf ⊢
  go_region_held3 (fun w' => w'.cell? ⟨g, 0, none⟩ = some (.int .i64 x.tag) ∧ w'.cell? ⟨g, 1, none⟩ = some (.slice A x.vec.length c) ∧ w'.cell? ⟨g, 2, none⟩ = some (.string x.str)) ((refine HS.out _ ?_; (first | (with_reducible exact Below.refl _ _) | (with_reducible exact Below.drew (Below.refl _ _)) | (with_reducible assumption))))
    (first
      | (go_at_call 7; (with_reducible refine (on (by with_reducible assumption) (HR.out _)).mono ?_); rintro e w2 ⟨rfl, hb2⟩)
      | (go_at_call 8; (with_reducible refine (on (by with_reducible assumption) (HQ.out _)).mono ?_); rintro e w3 ⟨rfl, hb3⟩)
      | (go_at_call 9; (with_reducible refine (HT.out _).mono ?_); rintro e w4 ⟨rfl, rfl⟩)
      | (go_at_call 10; (with_reducible refine (on (by with_reducible assumption) (lives_any _)).mono ?_); rintro e w5 ⟨rfl, hb5⟩))
  all_goals
    go_wp2
    go_ret
    exact ⟨rfl, HB.out.trans (hb5.mono HB.out.size)⟩
set_option maxHeartbeats 1000000 in
theorem walk0 (A : Option Addr) (c : Nat) (x : Thing) (m s : Int) (w : World) (m1 : m ≠ 1) (m2 : m ≠ 2) (m3 : m ≠ 3) :
    Calls Try.prog 3 #[.agg #[.int .i64 x.tag, .slice A x.vec.length c, .string x.str], .int .i64 m, .int .i64 s] w fun e w' => e = .returned (.bool true) ∧ Below w.heap.size w w' := by
  have hblk := Blk.new w 24 #[.int .i64 x.tag, .slice A x.vec.length c, .string x.str]
  have hb := box_blk w 24 #[.int .i64 x.tag, .slice A x.vec.length c, .string x.str]
  have HR := Lib.hid (right_any A c x (m) s)
  have HQ := Lib.hid (rright_any A c x (m) s)
  have ht := tag_any (m)
  rw [show tagOf m = 0 from by unfold tagOf; rw [if_neg m1, if_neg m2, if_neg m3]] at ht
  have e1 : (m == 1) = false := by simpa using m1
  have e2 : (m == 2) = false := by simpa using m2
  have e3 : (m == 3) = false := by simpa using m3
  have HT := Lib.hid ht
  clear ht
  go_enter Try.func3, Try.ntmps3
  go_wp2_with (fail)
  obtain ⟨V, hV⟩ : ∃ V, V = (w.alloc (.cells #[.int .i64 x.tag, .slice A x.vec.length c, .string x.str] 24)) := ⟨_, rfl⟩
  rw [← hV] at hblk hb ⊢
  clear hV
  obtain ⟨c0, c1, c2, cf⟩ := cells3 hblk
  have hgl := hblk.lt
  have HB := Lib.hid hb
  clear hb
  have hB0 : Below V.heap.size V V.drew := (Below.refl _ _).drew
  have hS : ∀ w' : World, Below V.heap.size V w' → (w'.cell? ⟨w.heap.size, 0, none⟩ = some (.int .i64 x.tag) ∧ w'.cell? ⟨w.heap.size, 1, none⟩ = some (.slice A x.vec.length c) ∧ w'.cell? ⟨w.heap.size, 2, none⟩ = some (.string x.str)) := fun w' h => by
    obtain ⟨k0, k1, k2, -⟩ := cells3 (hblk.below h hgl)
    exact ⟨k0, k1, k2⟩
  have HS := Lib.hid hS
  clear hS
  generalize w.heap.size = g at hblk hgl HS c0 c1 c2 cf ⊢
  go_region_held3 (fun w' => w'.cell? ⟨g, 0, none⟩ = some (.int .i64 x.tag) ∧ w'.cell? ⟨g, 1, none⟩ = some (.slice A x.vec.length c) ∧ w'.cell? ⟨g, 2, none⟩ = some (.string x.str)) ((refine HS.out _ ?_; (first | (with_reducible exact Below.refl _ _) | (with_reducible exact Below.drew (Below.refl _ _)) | (with_reducible assumption))))
    (first
      | (go_at_call 7; (with_reducible refine (on (by with_reducible assumption) (HR.out _)).mono ?_); rintro e w2 ⟨rfl, hb2⟩)
      | (go_at_call 8; (with_reducible refine (on (by with_reducible assumption) (HQ.out _)).mono ?_); rintro e w3 ⟨rfl, hb3⟩)
      | (go_at_call 9; (with_reducible refine (HT.out _).mono ?_); rintro e w4 ⟨rfl, rfl⟩)
      | (go_at_call 10; (with_reducible refine (on (by with_reducible assumption) (lives_any _)).mono ?_); rintro e w5 ⟨rfl, hb5⟩))
  all_goals
    go_wp2
    go_ret
    exact ⟨rfl, HB.out.trans (hb5.mono HB.out.size)⟩
theorem walk (A : Option Addr) (c : Nat) (x : Thing) (m s : Int) (w : World) :
    Calls Try.prog 3 #[ob A c x, .int .i64 m, .int .i64 s] w fun e w' => e = .returned (.bool true) ∧ Below w.heap.size w w' := by
  unfold ob
  by_cases m1 : m = 1
  · subst m1; exact walk1 A c x s w
  by_cases m2 : m = 2
  · subst m2; exact walk2 A c x s w
  by_cases m3 : m = 3
  · subst m3; exact walk3 A c x s w
  exact walk0 A c x m s w m1 m2 m3

theorem lifted (os : Os) (started : os.Started) (H : Type) (enc : TypeId × Value → H) :
    ReturnsInHanded {} Try.checked os 3 .any (Rows.objectRightSpec.pre6 enc Try.prog Try.f3 Rows.objectRightRow.domain false) (Rows.objectRightSpec.post enc Try.prog Try.f3 false true false false) := by
  refine lift (C := Try.checked) (by kernel_rfl) started (by kernel_rfl) Try.func3 rfl (by kernel_rfl) (by kernel_rfl) rfl Try.underlying4
    (fun ds hd => by match ds, hd with | [_, _, _], _ => exact ⟨rfl, rfl, rfl⟩)
    (ChangeSpec.witness6 (enc := enc) (C := Try.checked) false ⟨#[], #[.agg #[.int .i64 0, .slice none 0 0, .string ⟨#[]⟩], .int .i64 0, .int .i64 0], []⟩ 8 (by kernel_rfl) (by kernel_rfl) (by kernel_rfl) (by kernel_rfl)) ?_
  intro W base args ds before hval0 hA0 hfz hsz
  have hval : ∀ (j : Nat) t v, Try.f3.params[j]? = some t → args[j]? = some v → Value.okWide Try.prog W .any base t v := hval0
  have hA : DataW.TrodAll enc Try.prog W 0 (fun _ => true) true Try.f3.params.toList args.toList ds before := hA0
  rw [Try.params3] at hA hval
  obtain ⟨v0, vs0, d0, ds0, p0, q0, hargs, rfl, rfl, h0, r0⟩ := trodAll_cons hA
  obtain ⟨v1, vs1, d1, ds1, p1, q1, rfl, rfl, rfl, h1, r1⟩ := trodAll_cons r0
  obtain ⟨v2, vs2, d2, ds2, p2, q2, rfl, rfl, rfl, h2, r2⟩ := trodAll_cons r1
  obtain ⟨rfl, rfl, rfl⟩ := trodAll_nil r2
  obtain rfl : args = #[v0, v1, v2] := by cases args; simp_all
  obtain ⟨A, c, x, _, _, rfl, _⟩ := open_obj Try.underlying24 (by kernel_rfl) (by kernel_rfl) Try.underlying3 Try.underlying22 Try.underlying21 (by kernel_rfl) Try.underlying9 (hval 0 24 v0 rfl rfl) h0
  obtain ⟨a1, rfl, rfl, rfl, w1⟩ := open_int Try.underlying3 (hval 1 3 v1 rfl rfl) h1
  obtain ⟨a2, rfl, rfl, rfl, w2⟩ := open_int Try.underlying3 (hval 2 3 v2 rfl rfl) h2
  exact walk A c x a1 a2 W

theorem proved : Rows.ObjectRightSaid :=
  OpenClaim.holds_of_wide 3 Try.f3 rfl rfl rfl rfl rfl rfl rfl ⟨rfl, rfl, rfl, rfl, rfl⟩ rfl rfl rfl rfl rfl (by kernel_rfl) Try.func3 (by kernel_rfl)
    (of_decide_eq_true (by kernel_rfl)) (by unfold Func.isWrapper; first | (rw [if_pos (by decide +kernel)]; kernel_rfl) | (rw [if_neg (by decide +kernel)]; exact ⟨rfl, rfl⟩))
    (fun os started H enc _ => lifted os started H enc)
#print axioms proved
end Go.Proofs.Ytlgjbdgolchadaa.objectRight
