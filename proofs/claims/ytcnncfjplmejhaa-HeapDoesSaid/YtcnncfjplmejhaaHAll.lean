/-
  The contract of Heap.All at ints: a sorted copy.
-/
import Derived.Test.YtcnncfjplmejhaaHPop
import Derived.Test.YtcnncfjplmejhaaHPut
import Derived.Test.YtcnncfjplmejhaaSrtR
namespace Go.Proofs.Ytcnncfjplmejhaa.put
open Go.RowKit law bytes only heapM heap srt Go.Sort Go.Shelf
set_option linter.unusedVariables false

/-! ### a slice of no length -/
set_option maxHeartbeats 1600000 in
theorem ins_none (A : Option Addr) (c : Nat) (fv : Value) (w : World) : Calls Try.prog 33 #[.slice A 0 c, .int .i64 0, .int .i64 0, fv] w fun e w' => e = .returned (.tuple #[]) ∧ w = w' := by
  go_enter Try.func33, Try.ntmps33
  go_wp2_with (fail)
  go_loopg [8, 9] 0 (fun gk s8 s9 wr => gk = 0 ∧ s8 = .int .i64 1 ∧ w = wr)
  case atStart => exact ⟨rfl, rfl, rfl⟩
  case round =>
    obtain ⟨rfl, rfl, rfl⟩ := hrel
    go_wp2_with (fail)
    go_end0
    exact ⟨rfl, rfl⟩
set_option maxRecDepth 100000 in
set_option maxHeartbeats 1600000 in
theorem pdq_none (A : Option Addr) (c : Nat) (lim : Int) (fv : Value) (w : World) : Calls Try.prog 28 #[.slice A 0 c, .int .i64 0, .int .i64 0, .int .i64 lim, fv] w fun e w' => e = .returned (.tuple #[]) ∧ w = w' := by
  have HI := Lib.hid (ins_none A c fv w)
  go_enter Try.func28, Try.ntmps28
  go_wp2_with (fail)
  go_loopg [1, 2, 3, 10, 11] 0 (fun gk s1 s2 s3 s10 s11 wr => gk = 0 ∧ s1 = .int .i64 0 ∧ s2 = .int .i64 0 ∧ s3 = .int .i64 lim ∧ w = wr)
  case atStart => exact ⟨rfl, rfl, rfl, rfl, rfl⟩
  case round =>
    obtain ⟨rfl, rfl, rfl, rfl, rfl⟩ := hrel
    go_wp2_with (fail)
    refine HI.out.mono ?_
    rintro e w' ⟨rfl, rfl⟩
    go_wp2_with (fail)
    refine bodyPost_ret (results_none rfl _ _ _) rfl ?_
    exact ⟨rfl, rfl⟩
set_option maxHeartbeats 1600000 in
theorem sort_none (A : Option Addr) (c : Nat) (fv : Value) (w : World) : Calls Try.prog 23 #[.slice A 0 c, fv] w fun e w' => e = .returned (.tuple #[]) ∧ w = w' := by
  have HP : Hid (∀ lim : Int, Calls Try.prog 28 #[.slice A 0 c, .int .i64 0, .int .i64 0, .int .i64 lim, fv] w fun e w' => e = .returned (.tuple #[]) ∧ w = w') := Lib.hid fun lim => pdq_none A c lim fv w
  have HL := Lib.hid (Try.bits_Len 0 w (by omega) (by omega))
  generalize Lib.bitLen (Int.toNat 0) = lim at HL
  go_enter Try.func23, Try.ntmps23
  go_wp2_with (fail)
  refine HL.out.mono ?_
  rintro e w' ⟨rfl, rfl⟩
  go_wp2_with (fail)
  refine (HP.out _).mono ?_
  rintro e w' ⟨rfl, rfl⟩
  go_wp2_with (fail)
  go_end0
  exact ⟨rfl, rfl⟩
/-- a sorted copy -/
def Sorted (cf : Int → Int → Int) (d : Array Int) (w : World) (e : Ending) (w' : World) : Prop := ∃ A c R, e = .returned (.slice A d.size c) ∧ w'.ownsRow w.heap.size 3 1 (.slice A d.size c) d.size (iv R) ∧ PermIn 0 d.size d R ∧ SortedIn (lf cf) 0 d.size R ∧ Below w.heap.size w w'
set_option maxRecDepth 100000 in
set_option maxHeartbeats 1600000 in
theorem all_int {base hb : Nat} {v : Value} {K : Nat} {d : Array Int} (cf : Int → Int → Int) (hK : Enters Try.prog K) (hO : Ordr K iE cf) (hS : SWO (lf cf)) (w : World) (h : Hp w base hb v K d) (hsz : d.size * 8 ≤ 140737488355328) :
    Calls Try.prog 14 #[.pointer (some ⟨hb, 0, none⟩)] w (Sorted cf d w) := by
  have hmf : ∀ (fn : Fn) (first cap : Array Value) (w : World), (Instr.makeFunc fn first cap).run Try.prog w = .ok (.func fn first cap) w := fun _ _ _ _ => rfl
  have HC : ∀ W, Below w.heap.size w W → Cm hb K v cf W := fun W hW => ⟨h.1.below hW h.lt, hK, hO⟩
  have c1 : w.cell? ⟨hb, 1, none⟩ = some v := h.1.cell 1
  by_cases h0 : 0 < d.size
  · obtain ⟨g, c, rfl, hr, hne⟩ := h.form h0
    have hcl := Try.slices_Clone_int g 0 d.size c d.toList w (by simp) hsz (fun j hj => by
      have hj2 : j < d.size := by simpa using hj
      have := hr.cell j hj2
      rw [Nat.zero_add, this, getElem!_pos d j hj2]
      simp [hj2])
    have hlt := h.lt
    have hsrt : Hid (∀ W1 v1, W1.ownsRow w.heap.size 3 1 v1 d.size ((d.toList.take d.size).map (Value.int .i64)) → Below w.heap.size w W1 → ∃ g1 c1, v1 = .slice (some ⟨g1, 0, none⟩) d.size c1 ∧
        Calls Try.prog 23 #[.slice (some ⟨g1, 0, none⟩) d.size c1, .func (.func 24) #[.pointer (some ⟨hb, 0, none⟩)] #[]] W1 fun e w' => e = .returned (.tuple #[]) ∧ Sorted cf d w (.returned (.slice (some ⟨g1, 0, none⟩) d.size c1)) w') := Lib.hid fun W1 v1 ho hb1 => by
      obtain ⟨g1, k1, rfl, hgb, hgl, hk1⟩ := own_form ho h0
      have hrow : Row W1 w.heap.size g1 k1 d := by
        have e : (d.toList.take d.size).map (Value.int .i64) = iv d := by unfold iv; rw [List.take_of_length_le (by simp)]
        rw [e] at ho
        exact ho
      refine ⟨g1, k1, rfl, (sort_any (HC W1 hb1) hrow (by omega) hS (by omega)).mono fun e w' ⟨he, ho2, R, p1, p2, p3⟩ => ⟨he, _, _, R, rfl, ?_, p1, p2, hb1.trans (ho2.below hb1.size fun i e => by have h1 : i = g1 := e; omega)⟩⟩
      unfold Row at p3
      rw [p1.1] at p3
      exact p3
    have HCL := Lib.hid hcl
    clear hcl hK hO hS HC h hr
    go_enter Try.func14, Try.ntmps14
    go_wp2_with (fail)
    refine HCL.out.mono ?_
    rintro e w1 ⟨v1, rfl, ho, -, hb1⟩
    obtain ⟨g1, k1, rfl, hs⟩ := hsrt.out w1 v1 ho hb1
    have HS := Lib.hid hs
    clear hsrt ho hb1 hs
    go_wp2_with (fail)
    refine HS.out.mono ?_
    rintro e w2 ⟨rfl, hs2⟩
    have HS2 := Lib.hid hs2
    clear HS hs2
    go_wp2_with (fail)
    refine bodyPost_ret (v := .slice (some ⟨g1, 0, none⟩) d.size k1) (by simp [results, Try.results14, go_sem]) rfl ?_
    exact HS2.out
  · have hd0 : d.size = 0 := by omega
    obtain ⟨A, c, rfl⟩ := h.slice
    rw [hd0] at c1
    have hfin : Hid (∀ W A1 k1, W.ownsRow w.heap.size 3 1 (.slice A1 0 k1) 0 [] → Below w.heap.size w W → Sorted cf d w (.returned (.slice A1 0 k1)) W) := Lib.hid fun W A1 k1 ho hb1 => by
      refine ⟨A1, k1, d, by rw [hd0], ?_, permIn_refl _ _ _, fun i j h1 h2 h3 => by omega, hb1⟩
      have e : iv d = [] := by unfold iv; rw [Array.eq_empty_of_size_eq_zero hd0]; rfl
      rw [e, hd0]; exact ho
    have hcl : Hid (Calls Try.prog 22 #[.slice A 0 c] w fun e w' => ∃ A1 k1, e = .returned (.slice A1 0 k1) ∧ Sorted cf d w (.returned (.slice A1 0 k1)) w') := Lib.hid (by
      rcases A with _ | a
      · exact (Try.slices_Clone_int_nil 0 c w).mono fun e w' ⟨he, hw⟩ => ⟨none, 0, he, hfin.out _ _ _ (World.ownsRow_nil _ _ _ _) (hw ▸ Below.refl _ _)⟩
      · refine (Try.slices_Clone_int_zero a c w).mono fun e w' ⟨v1, he, ho, _, hb1⟩ => ?_
        obtain ⟨A1, k1, rfl, _⟩ := own_slice ho
        exact ⟨A1, k1, he, hfin.out _ _ _ ho hb1⟩)
    have HS : Hid (∀ W A1 k1 fv, Calls Try.prog 23 #[.slice A1 0 k1, fv] W fun e w' => e = .returned (.tuple #[]) ∧ W = w') := Lib.hid fun W A1 k1 fv => sort_none A1 k1 fv W
    clear hK hO hS HC h hfin
    go_enter Try.func14, Try.ntmps14
    go_wp2_with (fail)
    refine hcl.out.mono ?_
    rintro e w1 ⟨A1, k1, rfl, hs2⟩
    have HS2 := Lib.hid hs2
    clear hcl hs2
    go_wp2_with (fail)
    refine (HS.out _ _ _ _).mono ?_
    rintro e w2 ⟨rfl, rfl⟩
    go_wp2_with (fail)
    refine bodyPost_ret (v := .slice A1 0 k1) (by simp [results, Try.results14, go_sem]) rfl ?_
    exact HS2.out
end Go.Proofs.Ytcnncfjplmejhaa.put
