/-
  A question (a function value that tells of a number whether it is there); the contract of index.tells, which recovers; make of a map with a hint.
-/
import Derived.Test.YtaamlidflfdjkaaGItm
import Derived.Test.YtaamlidflfdjkaaIdM
import Derived.Test.YtaamlidflfdjkaaChecked
import Derived.Deep.RegionHeld3
import Derived.Deep.LoopGhost
import Derived.WalkSpells
import Derived.Lib.Hide
namespace Go.Proofs.Ytaamlidflfdjkaa.idx
open Go.RowKit law bytes only flat ord obj
open aro (Kept zK kV)
open store (iE iE_len)
set_option linter.unusedVariables false

/-- a question: it tells p, in each world where J holds, and leaves what there was -/
structure Has (F : Value) (base : Nat) (J : World → Prop) (p : Int → Bool) : Prop where
  keep : ∀ W W', J W → Below base W W' → J W'
  tells : ∃ K cap, F = .func (.func K) #[] cap ∧ Enters Try.prog K ∧ ∀ W id, J W → base ≤ W.heap.size → Calls Try.prog K (#[.int .u64 id] ++ cap) W fun e w' => e = .returned (.bool (p id)) ∧ Below W.heap.size W w'
theorem idle_tells (p : Addr) (w : World) :
    CallsD Try.prog 44 #[.pointer (some p)] .returning w fun e u' w' => e = .returned (.tuple #[]) ∧ u' = .returning ∧ w' = w := by
  refine callsD_of_wpS Try.func44 rfl fun c₀ cs hu => ?_
  apply wpS_seq
  apply wpS_region
  simp [wpOpsS, go_sem, recoverD, hu, Try.ntmps44, Exit.thenS]
  refine wpS_cond (t := false) (by simp [Act.eval, Array.replicate]) ?_
  simp only [Bool.false_eq_true, if_false]
  refine wpS_of_wp (wp_skip ?_)
  cases c₀
  simp_all [bodyPostS, results, Try.results44]
set_option maxRecDepth 100000 in
set_option maxHeartbeats 1600000 in
theorem tells_any {F : Value} {base : Nat} {J : World → Prop} {p : Int → Bool} (H : Has F base J p) (id : Int) (w : World) (hJ : J w) (hB : base ≤ w.heap.size) :
    Calls Try.prog 37 #[F, .int .u64 id] w fun e w' => e = .returned (.bool (p id)) ∧ Below w.heap.size w w' := by
  obtain ⟨K, cap, rfl, hK, ht⟩ := H.tells
  have hmf : ∀ (fn : Fn) (first cap : Array Value) (w : World), (Instr.makeFunc fn first cap).run Try.prog w = .ok (.func fn first cap) w := fun _ _ _ _ => rfl
  obtain ⟨V, hV⟩ : ∃ V, V = w.alloc (.cells #[.bool false] 4) := ⟨_, rfl⟩
  have hbV : Below w.heap.size w V := by rw [hV]; exact (Below.refl _ _).alloc (Nat.le_refl _) _
  have hsz : V.heap.size = w.heap.size + 1 := by rw [hV]; simp
  have b1 : Blk V w.heap.size 4 #[.bool false] := by rw [hV]; exact Blk.new w _ _
  have HC := Lib.hid (ht V id (H.keep _ _ hJ (hbV.mono hB)) (by omega))
  have HE : Hid (∀ W b, Below V.heap.size V W → W.cell? ⟨w.heap.size, 0, none⟩ = some (.bool false) ∧ W.frozen? ⟨w.heap.size, 0, none⟩ = false ∧ Below w.heap.size w (W.setCell ⟨w.heap.size, 0, none⟩ (.bool b))) := Lib.hid fun W b hW => by
    have b2 := b1.below hW (by omega)
    exact ⟨b2.cell 0, b2.frozen 0, (hbV.trans (hW.mono (by omega))).setCell (p := ⟨w.heap.size, 0, none⟩) (Nat.le_refl _) _⟩
  have HV := Lib.hid hV
  have hK' : ∀ (args : Array Value) (w : World), (callFunc K args).run Try.prog w = .ok (.enter K args) w := hK
  clear ht hV hbV hsz b1 hK H hJ hB
  generalize p id = r at HC ⊢
  go_enter_defers Try.func37, Try.ntmps37
  go_wp2_with (fail)
  rw [← HV.out]
  refine HC.out.mono ?_
  rintro e w2 ⟨rfl, hb⟩
  obtain ⟨t0, tf, hE⟩ := HE.out w2 r hb
  have HE2 := Lib.hid hE
  have t1 : (w2.setCell ⟨w.heap.size, 0, none⟩ (.bool r)).cell? ⟨w.heap.size, 0, none⟩ = some (.bool r) := World.cell?_setCell_same _ _ _ t0
  clear hb hE HE HC
  go_wp2_with (fail)
  refine leaves_cons (f := 44) (args := #[.pointer (some ⟨w.heap.size, 0, none⟩)]) (by simp) (by simp [go_sem]) ?_
  refine (idle_tells ⟨w.heap.size, 0, none⟩ _).mono ?_
  rintro e u' w'' ⟨rfl, rfl, rfl⟩
  simp [Leaves, settle, results, Try.results37, go_sem]
  rw [t1]
  exact ⟨_, rfl, rfl, HE2.out⟩
/-- make(map[..].., n) -/
theorem run_makeMap_n {P : Program} (t k e : TypeId) (n : Int) (w : World) (h : P.underlying t = some (.map k e)) : (Instr.makeMap t (some (.int .i64 n))).run P w = .ok (.map (some w.heap.size)) (w.alloc (.map #[] 0)) := by
  simp [Instr.makeMap, run_underlying h, asInt]
  rfl
/-! ### numbers -/
def us (l : List Int) : List Value := l.map (.int .u64)
theorem us_length (l : List Int) : (us l).length = l.length := by simp [us]
theorem us_one (l : List Int) : ∀ u ∈ us l, u.oneCell' = true := by
  intro u hu
  obtain ⟨x, -, rfl⟩ := List.mem_map.1 hu
  rfl
theorem u64E : Elem Try.prog 33 (.int .u64 0) 8 := elem_mk (by kernel_rfl) rfl
/-- items' numbers -/
def ids (l : List (Int × Kept)) : List Int := l.map (·.1)
theorem ids_length (l : List (Int × Kept)) : (ids l).length = l.length := by simp [ids]
theorem ids_at {l : List (Int × Kept)} {k : Nat} (hk : k < l.length) : (ids l)[k]? = some l[k].1 := by simp [ids, hk]
/-- items' numbers are such of 64 bits -/
def Wf (l : List (Int × Kept)) : Prop := ∀ p ∈ l, (Lit.int .u64 p.1).wf = true
theorem mlaw : Maps.Keyed Try.prog 33 := Maps.int_keyed Try.underlying33
theorem unitZ (w : World) : (zeroValue 91).run Try.prog w = .ok (.agg #[]) w := by kernel_rfl
end Go.Proofs.Ytaamlidflfdjkaa.idx
