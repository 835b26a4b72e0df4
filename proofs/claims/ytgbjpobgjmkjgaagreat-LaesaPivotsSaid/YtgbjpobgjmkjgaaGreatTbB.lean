/-
  The contracts of New and Bulk.
-/
import Derived.Test.YtgbjpobgjmkjgaaGreatTbC
import Derived.Test.YtgbjpobgjmkjgaaGreatIdV
namespace Go.Proofs.YtgbjpobgjmkjgaaGreat.tab
open Go.RowKit Go.WideShapes law bytes only flat nums ord obj metric pv lae Go.Maps
open aro (Kept)
open store (iE iE_len itemAt)
open told (own_types blk_types)
set_option linter.unusedVariables false

theorem run_makeMap0 {P : Program} (t k e : TypeId) (w : World) (h : P.underlying t = some (.map k e)) : (Instr.makeMap t none).run P w = .ok (.map (some w.heap.size)) (w.alloc (.map #[] 0)) := by
  simp [Instr.makeMap]
theorem new_tb (g : Nat) (n k most : Int) (w : World) (hm : Mt w g n k) :
    Calls Tryz.prog 11 #[.pointer (some ⟨g, 0, none⟩), .int .i64 most] w fun e w' => ∃ tb mb T, e = .returned (.pointer (some ⟨tb, 0, none⟩)) ∧ Tx w' w.heap.size tb g mb n k most T (.slice none 0 0) (.slice none 0 0) [] [] ∧ Below w.heap.size w w' := by
  have hg := hm.lt
  have HE : Hid (Tx ((w.alloc (.map #[] 0)).alloc (.cells #[.pointer (some ⟨g, 0, none⟩), .int .i64 most, .slice none 0 0, .slice none 0 0, .map (some w.heap.size)] 95)) w.heap.size (w.heap.size + 1) g w.heap.size n k most (fun i => w.heap.size ≤ i ∧ i < w.heap.size + 2) (.slice none 0 0) (.slice none 0 0) [] [] ∧ Below w.heap.size w ((w.alloc (.map #[] 0)).alloc (.cells #[.pointer (some ⟨g, 0, none⟩), .int .i64 most, .slice none 0 0, .slice none 0 0, .map (some w.heap.size)] 95))) := Lib.hid (by
    have hb : Below w.heap.size w ((w.alloc (.map #[] 0)).alloc (.cells #[.pointer (some ⟨g, 0, none⟩), .int .i64 most, .slice none 0 0, .slice none 0 0, .map (some w.heap.size)] 95)) := ((Below.refl _ _).alloc (Nat.le_refl _) _).alloc (by simp) _
    have hblk := Blk.new (w.alloc (.map #[] 0)) 95 #[.pointer (some ⟨g, 0, none⟩), .int .i64 most, .slice none 0 0, .slice none 0 0, .map (some w.heap.size)]
    rw [show (w.alloc (.map #[] 0)).heap.size = w.heap.size + 1 by simp] at hblk
    refine ⟨⟨hblk, hm.below hb hg, hg, World.ownsRow_nil _ _ _ _, World.ownsRow_nil _ _ _ _, ⟨.map [], (World.ownsMap_made w _ _ _).alloc _, Pl.nil⟩, fun r hr => by simp at hr, fun p hp => by simp at hp, fun p hp => by simp at hp, List.Pairwise.nil, List.nodup_nil, fun i e => ⟨e.1, by simp; omega⟩, ⟨by omega, by omega⟩, ⟨by omega, by omega⟩, fun i e => (by cases e), fun i e => (by cases e)⟩, hb⟩)
  have hmm := run_makeMap0 (P := Tryz.prog) 92 32 3 w Tryz.underlying92
  clear hm
  go_enter Tryz.func11, Tryz.ntmps11
  go_wp2_with (fail)
  go_ret
  exact ⟨w.heap.size + 1, w.heap.size, _, rfl, HE.out.1, HE.out.2⟩
/-- may a thing be a pivot more? (of things alone) -/
def moreT (n most : Int) (PT : List Thing) (x : Thing) : Bool := decide ((PT.length : Int) < most) && !((row (M n) PT x).contains 0)
theorem more_T (n most : Int) (P : List At) (x : Thing) : more n most P x = moreT n most (P.map At.x) x := by
  unfold more moreT fs
  rw [List.length_map]
/-- pivots behind things that are put in -/
def ptl (n most : Int) (PT : List Thing) (l : List Thing) : List Thing := l.foldl (fun PT x => if moreT n most PT x then PT ++ [x] else PT) PT
theorem ptl_snoc (n most : Int) (PT l : List Thing) (x : Thing) : ptl n most PT (l ++ [x]) = if moreT n most (ptl n most PT l) x then ptl n most PT l ++ [x] else ptl n most PT l := by
  unfold ptl
  rw [List.foldl_append]
  rfl
theorem ptl_len (n most : Int) (PT l : List Thing) : (ptl n most PT l).length ≤ PT.length + l.length := by
  induction l generalizing PT with
  | nil => simp [ptl]
  | cons x l ih =>
    have h := ih (if moreT n most PT x then PT ++ [x] else PT)
    have e : ptl n most PT (x :: l) = ptl n most (if moreT n most PT x then PT ++ [x] else PT) l := rfl
    rw [e]
    have : (if moreT n most PT x then PT ++ [x] else PT).length ≤ PT.length + 1 := by split <;> simp
    simp only [List.length_cons]
    omega
theorem fe_zero {p : Int → Bool} {l : List Int} (h : idx.fe p l = 0) : ∀ j, j < l.length → idx.dup p l j = false := fun j hj => by
  unfold idx.fe at h
  split at h
  · cases h
  · rename_i hn
    unfold idx.fr at hn
    cases hf : (List.range l.length).find? (idx.dup p l) with
    | some q =>
      rw [hf] at hn
      have := List.find?_some hf
      have hm := List.mem_of_find?_eq_some hf
      simp at hm
      exact absurd hm hn
    | none =>
      have := List.find?_eq_none.1 hf j (by simpa using hj)
      simpa using this
/-- behind some of the things that are put in -/
def BuS (w : World) (base tb g mb : Nat) (n k most : Int) (T DS : Nat → Prop) (P0 : List Thing) (R : List Ro) (l : List (Int × Kept)) (i : Nat) (wr : World) : Prop :=
  ∃ (k' : Int) (vP' vR' : Value) (T' : Nat → Prop) (P' : List At) (R' : List Ro), Tx wr base tb g mb n k' most T' vP' vR' P' R' ∧ P'.map At.x = ptl n most P0 ((l.take i).map fun q => q.2.x) ∧ R'.map ix = R.map ix ++ (l.take i).map (fun q => (q.1, q.2.x)) ∧
    k ≤ k' ∧ k' ≤ k + (i * 2097152 : Nat) ∧ Only (fun i => i = g ∨ T i ∨ DS i) w wr ∧ ∀ j, T' j → T j ∨ w.heap.size ≤ j
/-- what Bulk leaves -/
def Bulked (w : World) (base tb g mb : Nat) (n k most : Int) (T DS : Nat → Prop) (P : List At) (R : List Ro) (l : List (Int × Kept)) (p : Int) (e : Ending) (w' : World) : Prop :=
  e = .returned (.int .i64 (idx.fe (fun id => (ids R).contains id) (idx.ids l))) ∧ ∃ (k' : Int) (vP' vR' : Value) (T' : Nat → Prop) (P' : List At) (R' : List Ro), Tx w' base tb g mb n k' most T' vP' vR' P' R' ∧ k ≤ k' ∧ k' ≤ k + (l.length * 4194304 : Nat) ∧
    (idx.fe (fun id => (ids R).contains id) (idx.ids l) = 0 → P'.map At.x = ptl n most (if P.length = 0 then att l (chs (dt n (ths l)) U63 (ths l) most p) else P.map At.x) (l.map fun q => q.2.x) ∧ R'.map ix = R.map ix ++ l.map (fun q => (q.1, q.2.x))) ∧
    (idx.fe (fun id => (ids R).contains id) (idx.ids l) ≠ 0 → P'.map At.x = P.map At.x ∧ R'.map ix = R.map ix) ∧ Only (fun i => i = g ∨ T i ∨ DS i) w w' ∧ ∀ j, T' j → T j ∨ w.heap.size ≤ j
section
variable {w w' : World} {base tb g mb B i : Nat} {n k most : Int} {T S X DS : Nat → Prop} {vP vR : Value} {P : List At} {R D : List Ro} {r : Ro} {A : Option Addr} {xs : List Value}
theorem ids_ix (R : List Ro) : ids R = (R.map ix).map (·.1) := by simp [ids, ix, Function.comp_def]
set_option maxHeartbeats 1600000 in
theorem BuS.round {wr : World} {A : Option Addr} {P0 : List Thing} {l : List (Int × Kept)} (h : BuS w base tb g mb n k most T DS P0 R l i wr) (hl : Its w (fun i => i = g ∨ T i ∨ DS i) A l) (hbf : ∀ q ∈ l, Bf q.2.x) (hw : idx.Wf l) (hi : i < l.length)
    (hd : ∀ j, j < (idx.ids l).length → idx.dup (fun id => (ids R).contains id) (idx.ids l) j = false) (hP : P0.length + l.length ≤ 1048576) (hR : R.length + l.length ≤ 1048576) (hk : 0 ≤ k ∧ k + (l.length * 2097152 : Nat) ≤ 2305843009213693952) :
    Its wr (fun i => i = g ∨ T i ∨ DS i) A l ∧ ∀ W, Below wr.heap.size wr W → Calls Tryz.prog 59 #[.pointer (some ⟨tb, 0, none⟩), .agg #[.int .u64 l[i].1, .int .i64 l[i].2.x.tag, .slice l[i].2.A l[i].2.x.vec.length l[i].2.c, .string l[i].2.x.str]] W fun e w' => e = .returned (.tuple #[]) ∧ BuS w base tb g mb n k most T DS P0 R l (i + 1) w' := by
  obtain ⟨k', vP', vR', T', P', R', hT1, hPm, hRm, hk1, hk2, hO, hT'⟩ := h
  have hI : Its wr (fun i => i = g ∨ T i ∨ DS i) A l := hl.step hO fun i _ e => e
  refine ⟨hI, fun W hW => ?_⟩
  have hmem : l[i] ∈ l := List.getElem_mem hi
  have hlen : i < (idx.ids l).length := by rw [idx.ids_length]; exact hi
  have hRl : R'.length = R.length + i := by
    have := congrArg List.length hRm
    simp at this
    omega
  have hPl : P'.length ≤ P0.length + i := by
    have h1 := congrArg List.length hPm
    have h2 := ptl_len n most P0 ((l.take i).map fun q => q.2.x)
    simp at h1 h2
    omega
  have hnew : (ids R').contains l[i].1 = false := by
    have h1 := hd i hlen
    rw [idx.dup_at (idx.ids_at hi)] at h1
    simp only [Bool.or_eq_false_iff] at h1
    rw [ids_ix, hRm, List.map_append, ← ids_ix]
    have e : ((l.take i).map (fun q => (q.1, q.2.x))).map (·.1) = (idx.ids l).take i := by simp [idx.ids, Function.comp_def, List.map_take]
    rw [e, List.contains_append, h1.2, h1.1]
    rfl
  have hO2 := hO.on hW
  have hvec := (hI.vec _ hmem).sl
  obtain ⟨q, hq⟩ : ∃ q, l[i] = q := ⟨_, rfl⟩
  have hbq := hbf _ hmem
  have hwq := hw _ hmem
  have htk : l.take (i + 1) = l.take i ++ [q] := by rw [List.take_succ_eq_append_getElem hi, hq]
  rw [hq] at hbq hwq hnew hvec ⊢
  refine (put_any (id := q.1) (x := ⟨q.2.A, q.2.c, q.2.x⟩) (hT1.below hW) hnew hwq hbq ((hvec.below hW).more hW.size) (by omega) (by omega) ⟨by omega, by omega⟩).mono fun e w' ⟨he, vP2, vR2, T2, P2, R2, h1, h2, h3, h4, h5⟩ => ⟨he, _, vP2, vR2, T2, P2, R2, h1, ?_, ?_, ?_, ?_, ?_, ?_⟩
  · rw [h2, htk, List.map_append, List.map_singleton, ptl_snoc, more_T, hPm]
  · rw [h3, hRm, htk, List.map_append, List.append_assoc]
    rfl
  · omega
  · have key : ∀ z : Nat, z ≤ R'.length → k' + (P'.length : Int) + (z : Int) ≤ k + (((i + 1) * 2097152 : Nat) : Int) := fun z hz => by omega
    refine key _ ?_
    split <;> omega
  · refine hO2.trans h4 fun i e => ?_
    rcases e with e | e
    · exact .inl (.inl e)
    · exact (hT' i e).imp (fun e => .inr (.inl e)) fun e => e
  · intro j e
    rcases h5 j e with e | e
    · exact hT' j e
    · exact .inr (by have := hW.size; have := hO.size; omega)
end
end Go.Proofs.YtgbjpobgjmkjgaaGreat.tab
