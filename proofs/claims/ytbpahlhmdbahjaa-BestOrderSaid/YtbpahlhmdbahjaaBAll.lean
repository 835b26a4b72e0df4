/-
  The contract of Heap.All at hits: a sorted copy.
-/
import Derived.Test.YtbpahlhmdbahjaaBPop
import Derived.Test.YtbpahlhmdbahjaaHitCl
import Derived.Test.YtbpahlhmdbahjaaHsoR
namespace Go.Proofs.Ytbpahlhmdbahjaa.best
open Go.RowKit law bytes only flat hit heapM hso Go.Sort Go.Shelf
set_option linter.unusedVariables false

/-! ### a slice of no length -/
set_option maxHeartbeats 1600000 in
theorem ins_none (A : Option Addr) (c : Nat) (fv : Value) (w : World) : Calls Try.prog 43 #[.slice A 0 c, .int .i64 0, .int .i64 0, fv] w fun e w' => e = .returned (.tuple #[]) ∧ w = w' := by
  go_enter Try.func43, Try.ntmps43
  go_wp2_with (fail)
  go_loopg [8, 9] 0 (fun gk s8 s9 wr => gk = 0 ∧ s8 = .int .i64 1 ∧ w = wr)
  case atStart => exact ⟨rfl, rfl, rfl⟩
  case round =>
    obtain ⟨rfl, rfl, rfl⟩ := hrel
    go_wp2_with (fail)
    go_end0
    exact ⟨rfl, rfl⟩
set_option maxRecDepth 100000 in
set_option maxHeartbeats 1600000 in
theorem pdq_none (A : Option Addr) (c : Nat) (lim : Int) (fv : Value) (w : World) : Calls Try.prog 40 #[.slice A 0 c, .int .i64 0, .int .i64 0, .int .i64 lim, fv] w fun e w' => e = .returned (.tuple #[]) ∧ w = w' := by
  have HI := Lib.hid (ins_none A c fv w)
  go_enter Try.func40, Try.ntmps40
  go_wp2_with (fail)
  go_loopg [1, 2, 3, 10, 11] 0 (fun gk s1 s2 s3 s10 s11 wr => gk = 0 ∧ s1 = .int .i64 0 ∧ s2 = .int .i64 0 ∧ s3 = .int .i64 lim ∧ w = wr)
  case atStart => exact ⟨rfl, rfl, rfl, rfl, rfl⟩
  case round =>
    obtain ⟨rfl, rfl, rfl, rfl, rfl⟩ := hrel
    go_wp2_with (fail)
    refine HI.out.mono ?_
    rintro e w' ⟨rfl, rfl⟩
    go_wp2_with (fail)
    refine bodyPost_ret (results_none rfl _ _ _) rfl ?_
    exact ⟨rfl, rfl⟩
set_option maxHeartbeats 1600000 in
theorem sort_none (A : Option Addr) (c : Nat) (fv : Value) (w : World) : Calls Try.prog 35 #[.slice A 0 c, fv] w fun e w' => e = .returned (.tuple #[]) ∧ w = w' := by
  have HP : Hid (∀ lim : Int, Calls Try.prog 40 #[.slice A 0 c, .int .i64 0, .int .i64 0, .int .i64 lim, fv] w fun e w' => e = .returned (.tuple #[]) ∧ w = w') := Lib.hid fun lim => pdq_none A c lim fv w
  have HL := Lib.hid (Try.bits_Len 0 w (by omega) (by omega))
  generalize Lib.bitLen (Int.toNat 0) = lim at HL
  go_enter Try.func35, Try.ntmps35
  go_wp2_with (fail)
  refine HL.out.mono ?_
  rintro e w' ⟨rfl, rfl⟩
  go_wp2_with (fail)
  refine (HP.out _).mono ?_
  rintro e w' ⟨rfl, rfl⟩
  go_wp2_with (fail)
  go_end0
  exact ⟨rfl, rfl⟩
/-- a sorted copy -/
def SortedH (cf : Hit → Hit → Int) (d : Array Hit) (w : World) (e : Ending) (w' : World) : Prop := ∃ A c R, e = .returned (.slice A d.size c) ∧ w'.ownsRow w.heap.size 30 2 (.slice A d.size c) d.size (hv R) ∧ PermIn 0 d.size d R.toArray ∧ SortedIn (lf cf) 0 d.size R.toArray ∧ Below w.heap.size w w'
set_option maxRecDepth 100000 in
set_option maxHeartbeats 1600000 in
theorem all_hit {base hb : Nat} {v : Value} {K : Nat} {d : Array Hit} (cf : Hit → Hit → Int) (hK : Enters Try.prog K) (hO : Ordr K tE cf) (hS : SWO (lf cf)) (w : World) (h : HHp w base hb v K d) (hsz : d.size * 16 ≤ 140737488355328) :
    Calls Try.prog 24 #[.pointer (some ⟨hb, 0, none⟩)] w (SortedH cf d w) := by
  have hmf : ∀ (fn : Fn) (first cap : Array Value) (w : World), (Instr.makeFunc fn first cap).run Try.prog w = .ok (.func fn first cap) w := fun _ _ _ _ => rfl
  have HC : ∀ W, Below w.heap.size w W → Cm hb K v cf W := fun W hW => ⟨h.1.below hW h.lt, hK, hO⟩
  have c1 : w.cell? ⟨hb, 1, none⟩ = some v := h.1.cell 1
  have hlt := h.lt
  obtain ⟨A, c, rfl⟩ := h.slice
  have HCL : Hid (Calls Try.prog 34 #[.slice A d.size c] w fun e w1 => ∃ A1 c1, e = .returned (.slice A1 d.size c1) ∧ Calls Try.prog 35 #[.slice A1 d.size c1, .func (.func 36) #[.pointer (some ⟨hb, 0, none⟩)] #[]] w1 fun e w' => e = .returned (.tuple #[]) ∧ SortedH cf d w (.returned (.slice A1 d.size c1)) w') := Lib.hid (by
    have hcl := clone_any A d.toList c w.heap.size w (by simpa using hsz) (Nat.le_refl _) (Sl.of_ownK h.2.1)
    simp only [Array.length_toList] at hcl
    refine hcl.mono fun e w1 ⟨A1, c1, he, ho, hb1⟩ => ⟨A1, c1, by simpa using he, ?_⟩
    simp only [Array.length_toList] at ho
    rcases Nat.eq_zero_or_pos d.size with h0 | h0
    · have hfin : SortedH cf d w (.returned (.slice A1 d.size c1)) w1 := ⟨A1, c1, d.toList, rfl, ho, permIn_refl _ _ _, (fun i j h1 h2 h3 => by omega), hb1⟩
      have HF := Lib.hid hfin
      clear hfin
      generalize d.size = n at h0 HF ⊢
      subst h0
      exact (sort_none A1 c1 _ w1).mono fun e w' ⟨he, hw⟩ => ⟨he, hw ▸ HF.out⟩
    · obtain ⟨g1, k1, e1, hgb, hgl, hk1⟩ := own_form ho h0
      injection e1 with e2 e3 e4
      subst e2 e4
      have hrow : HRow w1 w.heap.size g1 c1 d := ho
      refine (sort_any (HC w1 hb1) hrow (by omega) hS (by omega)).mono fun e w' ⟨he, ho2, R, p1, p2, p3⟩ => ⟨he, _, _, R.toList, rfl, ?_, p1, p2, hb1.trans (ho2.below hb1.size fun i e => by have h1 : i = g1 := e; omega)⟩
      unfold HRow FRow at p3
      rw [p1.1] at p3
      exact p3)
  clear hK hO hS HC h
  go_enter Try.func24, Try.ntmps24
  go_wp2_with (fail)
  refine HCL.out.mono ?_
  rintro e w1 ⟨A1, k1, rfl, hs⟩
  have HS := Lib.hid hs
  clear hs HCL
  go_wp2_with (fail)
  refine HS.out.mono ?_
  rintro e w2 ⟨rfl, hs2⟩
  have HS2 := Lib.hid hs2
  clear HS hs2
  go_wp2_with (fail)
  refine bodyPost_ret (v := .slice A1 d.size k1) (by simp [results, Try.results24, go_sem]) rfl ?_
  exact HS2.out
end Go.Proofs.Ytbpahlhmdbahjaa.best
