/-
  The contract of object.Clone, with whose memory the copy is.
-/
import Derived.Test.YtaamlidflfdjkaaGObk
namespace Go.Proofs.Ytaamlidflfdjkaa.obj
open Go.RowKit law bytes nums ord
set_option linter.unusedVariables false

/-- a copy, in memory of the call's own -/
def ClonedO (x : Thing) (w : World) (e : Ending) (w' : World) : Prop := ∃ A c, e = .returned (.agg #[.int .i64 x.tag, .slice A x.vec.length c, .string x.str]) ∧ w'.ownsRow w.heap.size 21 1 (.slice A x.vec.length c) x.vec.length (iv x.vec) ∧ Below w.heap.size w w'
set_option maxHeartbeats 1600000 in
theorem cloneO_any (A : Option Addr) (c B : Nat) (x : Thing) (w : World) (hx : x.vec.length * 4 ≤ 140737488355328) (hx2 : x.str.size ≤ 281474976710656) (hB : B ≤ w.heap.size) (hs : Sl w B A (iv x.vec)) :
    Calls Try.prog 32 #[.agg #[.int .i64 x.tag, .slice A x.vec.length c, .string x.str]] w (ClonedO x w) := by
  obtain ⟨hb, hba, hbb⟩ := two_box w 36 #[.int .i64 x.tag, .slice A x.vec.length c, .string x.str] #[.int .i64 0, .slice none 0 0, .string ⟨#[]⟩]
  have hs1 : Sl ((w.alloc (.cells #[.int .i64 x.tag, .slice A x.vec.length c, .string x.str] 36)).alloc (.cells #[.int .i64 0, .slice none 0 0, .string ⟨#[]⟩] 36)) B A (iv x.vec) := (hs.alloc hB _).alloc (by simp; omega) _
  have hvs : ((w.alloc (.cells #[.int .i64 x.tag, .slice A x.vec.length c, .string x.str] 36)).alloc (.cells #[.int .i64 0, .slice none 0 0, .string ⟨#[]⟩] 36)).heap.size = w.heap.size + 2 := by simp
  go_enter Try.func32, Try.ntmps32
  go_wp2_with (fail)
  obtain ⟨V, hV⟩ : ∃ V, V = ((w.alloc (.cells #[.int .i64 x.tag, .slice A x.vec.length c, .string x.str] 36)).alloc (.cells #[.int .i64 0, .slice none 0 0, .string ⟨#[]⟩] 36)) := ⟨_, rfl⟩
  rw [← hV] at hs1 hb hba hbb hvs ⊢
  have HVec : Hid (∀ W, Below V.heap.size V W → Calls Try.prog 39 #[.slice A x.vec.length c] W (Made 21 (iv x.vec) W)) := Lib.hid fun W hW => vclone_any A x.vec c B W hx (Nat.le_trans hB (Nat.le_trans (by omega) hW.size)) (hs1.below (hW.mono (by omega)))
  have HStr : Hid (∀ W, Calls Try.prog 40 #[.string x.str] W (Gives (.string x.str) W)) := Lib.hid fun W => sclone_any x.str W hx2
  have hgl := hba.lt
  have hgl2 := hbb.lt
  have HB := Lib.hid hb
  have HVS := Lib.hid hvs
  clear hV hs hs1 hB hb hx hx2 hvs
  obtain ⟨c0, c1, c2, cf⟩ := cells3 hba
  have hB0 : Below V.heap.size V V.drew := (Below.refl _ _).drew
  have hS : ∀ w' : World, Below (w.heap.size + 1) V w' → (w'.cell? ⟨w.heap.size, 0, none⟩ = some (.int .i64 x.tag) ∧ w'.cell? ⟨w.heap.size, 1, none⟩ = some (.slice A x.vec.length c) ∧ w'.cell? ⟨w.heap.size, 2, none⟩ = some (.string x.str)) := fun w' h => by
    obtain ⟨k0, k1, k2, -⟩ := cells3 (hba.below h (by omega))
    exact ⟨k0, k1, k2⟩
  have HLE : Hid (w.heap.size + 1 ≤ V.heap.size) := Lib.hid hgl
  have HS := Lib.hid hS
  clear hS
  obtain ⟨g, hg⟩ : ∃ g, g = w.heap.size := ⟨_, rfl⟩
  rw [← hg] at hba hbb hgl hgl2 HS HLE c0 c1 c2 cf ⊢
  have HG := Lib.hid hg
  clear hg
  have hln := iv_length x.vec
  go_region_held3 (fun w' => w'.cell? ⟨g, 0, none⟩ = some (.int .i64 x.tag) ∧ w'.cell? ⟨g, 1, none⟩ = some (.slice A x.vec.length c) ∧ w'.cell? ⟨g, 2, none⟩ = some (.string x.str))
    ((refine HS.out _ ?_; (first | (with_reducible exact Below.refl _ _) | (with_reducible exact Below.drew (Below.refl _ _)) | (refine Below.mono ?_ HLE.out; with_reducible assumption) | (with_reducible refine Below.three (Below.mono ?_ HLE.out) (Nat.le_refl _) _ _ _; with_reducible assumption))))
    (first
      | (go_at_call 39
         (with_reducible refine (made_on (by with_reducible assumption) hln (HVec.out _ (by with_reducible assumption))).mono ?_)
         rintro e w2 ⟨A2, c2', rfl, hown2, hb2⟩
         obtain ⟨q0, q1, q2, qf⟩ := cells3 (hbb.below hb2 hgl2))
      | (go_at_call 40
         (with_reducible refine (on' (by with_reducible assumption) (HStr.out _)).mono ?_)
         rintro e w3 ⟨rfl, hb3', hb3⟩
         obtain ⟨q0, q1, q2, qf⟩ := cells3 (hbb.below hb3 hgl2)))
  all_goals go_wp2_with (fail)
  all_goals first
    | (have hown3 := own_below hown2 hb3' (Nat.le_refl _)
       refine bodyPost_ret (v := .agg #[.int .i64 x.tag, .slice A2 x.vec.length c2', .string x.str]) (by simp [results, Try.results32, go_sem, q0, q1, q2]) rfl ?_
       exact ⟨A2, c2', rfl, own_base (own_three hown3 hgl2 _ _ _) (by have := HVS.out; omega), HG.out ▸ Below.three ((HG.out ▸ HB.out : Below g w V).trans (hb3.mono (by omega))) (by omega) _ _ _⟩)
    | (refine bodyPost_ret (v := .agg #[.int .i64 x.tag, .slice A2 x.vec.length c2', .string x.str]) (by simp [results, Try.results32, go_sem, q0, q1, q2]) rfl ?_
       exact ⟨A2, c2', rfl, own_base (own_three hown2 hgl2 _ _ _) (by have := HVS.out; omega), HG.out ▸ Below.three ((HG.out ▸ HB.out : Below g w V).trans (hb2.mono (by omega))) (by omega) _ _ _⟩)
end Go.Proofs.Ytaamlidflfdjkaa.obj
