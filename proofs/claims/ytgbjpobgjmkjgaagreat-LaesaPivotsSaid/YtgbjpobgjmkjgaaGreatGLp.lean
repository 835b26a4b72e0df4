/-
  Several texts in one.
-/
import Derived.Test.YtgbjpobgjmkjgaaGreatGPiv
import Derived.Test.YtgbjpobgjmkjgaaGreatGLib
import Derived.Test.YtgbjpobgjmkjgaaGreatTbB
import Derived.Test.YtgbjpobgjmkjgaaGreatGPir
import Derived.Test.YtgbjpobgjmkjgaaGreatTbC
import Derived.Test.YtgbjpobgjmkjgaaGreatDrs
import Derived.Test.YtgbjpobgjmkjgaaGreatGObj
import Derived.Test.YtgbjpobgjmkjgaaGreatTbD
import Derived.Test.YtgbjpobgjmkjgaaGreatTbK
import Derived.Test.YtgbjpobgjmkjgaaGreatTbL
import Derived.Test.YtgbjpobgjmkjgaaGreatLaV
import Derived.Test.YtgbjpobgjmkjgaaGreatGItm
import Derived.Test.YtgbjpobgjmkjgaaGreatGMet
/-
  A row of ints that came in.
-/
namespace Go.Proofs.YtgbjpobgjmkjgaaGreat.tab
open Go.RowKit Go.ChangeShapes Go.WideShapes Go.ChangeAt law bytes only flat nums pv came
set_option linter.unusedVariables false
set_option maxRecDepth 100000

section
variable {H : Type} {enc : TypeId × Value → H} {W : World} {base b0 : Nat} {held : Bool}
/-- a row of ints that came in -/
theorem open_i64s {ts : List TypeId} {ds : List (DataW H)} {j : Nat} {v : Value} {d : DataW H} {p : List MemPlace} (hv : Value.okWide Tryz.prog W .any b0 39 v) (h : DataW.Trod enc Tryz.prog W 0 (fun _ => true) true 39 v d p)
    (hsz : (DataW.weightsEach Tryz.prog ts ds).all (· ≤ reachBytes) = true) (hj : ts[j]? = some 39) (hdj : ds[j]? = some d) :
    ∃ A c, ∃ l : List Int, v = .slice A l.length c ∧ Sl W W.heap.size A (nv l) ∧ l.length * 8 ≤ 140737488351232 ∧ ∀ x ∈ l, -9223372036854775808 ≤ x ∧ x ≤ 9223372036854775807 := by
  obtain ⟨A, len, cap, rfl⟩ := okWide_slice Tryz.underlying39 hv
  obtain ⟨fuel, hf⟩ := h
  rcases open_ints Tryz.underlying39 Tryz.underlying3 (by kernel_rfl) hf with ⟨hcs, hx⟩ | ⟨a, len', cap', zs, hcs, _, hl, hm, hz, hx, hcell, hwz⟩
  · simp [Value.cells] at hcs
    obtain ⟨rfl, rfl, rfl⟩ := hcs
    exact ⟨none, 0, [], rfl, Sl.nil, by simp, by simp⟩
  · simp [Value.cells] at hcs
    obtain ⟨rfl, rfl, rfl⟩ := hcs
    injection hx with hd hp
    simp only [if_true] at hz
    have ht : (zs.take len).length = len := by simp; omega
    have hle : len ≤ cap := by omega
    refine ⟨some a, cap, zs.take len, by rw [ht], fun j u hj => ?_, ?_, fun x hx => ?_⟩
    · simp only [nv, List.getElem?_map, List.getElem?_take] at hj
      split at hj
      · rename_i hlt
        have hlz : j < zs.length := by omega
        have hcj := hcell j hlz
        simp only [List.getElem?_eq_getElem hlz, Option.map_some, Option.some.injEq] at hj
        subst hj
        refine ⟨a, rfl, ?_, by rw [hcj]; simp [List.getD, List.getElem?_eq_getElem hlz]⟩
        have := World.block_lt_of_cell? W _ hcj
        rwa [blk_add] at this
      · cases hj
    · subst hd
      have h2 := sized_slice hsz hj hdj Tryz.underlying39
      rw [show Tryz.prog.bytesOf 3 = 8 from by kernel_rfl] at h2
      have hr : reachBytes = 140737488351232 := by decide
      simp [lits] at h2
      rw [ht]
      omega
    · have hw := hwz x (List.mem_of_mem_take hx)
      simpa [Lit.wf, IntKind.min, IntKind.max, IntKind.signed, IntKind.bits] using hw
end
end Go.Proofs.YtgbjpobgjmkjgaaGreat.tab
/-
  Mathematics of the law LaesaPivots: what is chosen of things leaves none that is apart from all pivots; the document's own way to those that are put in one by one.
-/
namespace Go.Proofs.YtgbjpobgjmkjgaaGreat.tab
open Go.RowKit Go.WideShapes law bytes only flat nums ord obj metric pv lae
open aro (Kept)
set_option linter.unusedVariables false

/-! ### behind a choice -/
section
variable {α : Type} {d : Int → α → Int} {S : Int} {l : List α}
theorem goA_fin (hS : 0 < S) : ∀ (k : Nat) (cs : List Int) (p : Nat), p < l.length → (cs ≠ [] → p = mp (lr d S cs l)) → (goA d S l k cs p).length = cs.length + k ∨ ∀ x ∈ l, pv.nr d S (goA d S l k cs p) x ≤ 0
  | 0, cs, p, _, _ => .inl rfl
  | k + 1, cs, p, hp, hm => by
    unfold goA
    by_cases h0 : 0 < (lr d S cs l).getD p 0
    · rw [if_pos h0]
      rcases goA_fin hS k (cs ++ [(p : Int)]) (mp (lr d S (cs ++ [(p : Int)]) l)) (by have := mp_lt (r := lr d S (cs ++ [(p : Int)]) l) (by rw [lr_length]; omega); rwa [lr_length] at this) (fun _ => rfl) with h | h
      · left
        rw [h, List.length_append, List.length_singleton]
        omega
      · exact .inr h
    · rw [if_neg h0]
      right
      intro x hx
      by_cases hc : cs = []
      · subst hc
        rw [lr_at _ _ _ hp, nr_nil] at h0
        exact absurd hS h0
      · obtain ⟨j, hj, rfl⟩ := List.getElem_of_mem hx
        have h1 := mp_le (r := lr d S cs l) (j := j) (by rw [lr_length]; exact hj)
        rw [← hm hc, lr_at _ _ _ hj] at h1
        omega
theorem chs_fin (hS : 0 < S) (p k : Int) : (chs d S l p k).length = p.toNat ∨ ∀ x ∈ l, pv.nr d S (chs d S l p k) x ≤ 0 := by
  unfold chs
  by_cases h0 : l.length = 0
  · right
    intro x hx
    rw [List.eq_nil_of_length_eq_zero h0] at hx
    cases hx
  · rw [if_neg h0]
    have := goA_fin (d := d) hS p.toNat [] (first l.length k) (first_lt (by omega) k) fun h => absurd rfl h
    simpa using this
theorem nr_low {cs : List Int} {x : α} (hS : 0 < S) (h : pv.nr d S cs x ≤ 0) : ∃ c ∈ cs, d c x ≤ 0 := by
  refine Classical.byContradiction fun hn => ?_
  have h1 : (1 : Int) ≤ pv.nr d S cs x := nr_ge (fun c hc => by
    have h2 : ¬ d c x ≤ 0 := fun e => hn ⟨c, hc, e⟩
    omega) (by omega)
  omega
end
/-! ### no thing is a pivot more then -/
theorem ptl_fix {n most : Int} {PT : List Thing} : ∀ (L : List Thing), (∀ x ∈ L, moreT n most PT x = false) → ptl n most PT L = PT
  | [], _ => rfl
  | x :: L, h => by
    have e : ptl n most PT (x :: L) = ptl n most (if moreT n most PT x then PT ++ [x] else PT) L := rfl
    rw [e, h x (by simp)]
    exact ptl_fix L fun y hy => h y (by simp [hy])
theorem att_length (l : List (Int × Kept)) (cs : List Int) : (att l cs).length = cs.length := by simp [att]
theorem att_mem {l : List (Int × Kept)} {cs : List Int} {c : Int} (hc : c ∈ cs) {p : At} (hp : (ths l)[c.toNat]? = some p) : p.x ∈ att l cs := by
  unfold att
  refine List.mem_map.2 ⟨c, hc, ?_⟩
  simp [List.getD, hp]
theorem ths_x (l : List (Int × Kept)) : (ths l).map At.x = l.map fun q => q.2.x := by simp [ths, tho, Function.comp_def]
theorem ptl_att (n most p : Int) (l : List (Int × Kept)) : ptl n most (att l (chs (dt n (ths l)) U63 (ths l) most p)) (l.map fun q => q.2.x) = att l (chs (dt n (ths l)) U63 (ths l) most p) := by
  refine ptl_fix _ fun x hx => ?_
  have hon : Once (dt n (ths l)) (ths l) (chs (dt n (ths l)) U63 (ths l) most p) := chs_once (fun k hk => dt_self n _ k hk) _ _
  have hfin := chs_fin (d := dt n (ths l)) (S := U63) (l := ths l) (by decide) most p
  obtain ⟨cs, hcs⟩ : ∃ cs, chs (dt n (ths l)) U63 (ths l) most p = cs := ⟨_, rfl⟩
  rw [hcs] at hon hfin ⊢
  unfold moreT
  rcases hfin with h | h
  · have : decide (((att l cs).length : Int) < most) = false := decide_eq_false (by rw [att_length, h]; omega)
    rw [this]
    rfl
  · rw [← ths_x] at hx
    obtain ⟨y, hy, rfl⟩ := List.mem_map.1 hx
    obtain ⟨c, hc, h0⟩ := nr_low (by decide) (h y hy)
    have hlow := hon.low c hc
    have hlt : c.toNat < (ths l).length := by omega
    have hp := List.getElem?_eq_getElem hlt
    rw [dt_in n hp] at h0
    have hz : M n y.x (ths l)[c.toNat].x = 0 := by
      rw [M_symm]
      have := M_nonneg n (ths l)[c.toNat].x y.x
      omega
    have hm : (row (M n) (att l cs) y.x).contains 0 = true := by
      rw [List.contains_iff_mem]
      exact List.mem_map.2 ⟨_, att_mem hc hp, hz⟩
    rw [hm]
    simp
/-! ### the document's way -/
/-- the first places -/
def rng (k : Nat) : List Int := (List.range k).map fun i : Nat => (i : Int)
theorem rng_length (k : Nat) : (rng k).length = k := by simp [rng]
theorem rng_succ (k : Nat) : rng (k + 1) = rng k ++ [(k : Int)] := by simp [rng, List.range_succ]
theorem rng_in {k : Nat} : ∀ c ∈ rng k, 0 ≤ c ∧ c < (k : Int) := fun c hc => by
  obtain ⟨i, hi, rfl⟩ := List.mem_map.1 hc
  have := List.mem_range.1 hi
  omega
theorem near_more (n : Int) (one : List At) (x : At) : decide (pv.nr (dt n one) U50 (rng one.length) x > 0) = !((row (M n) (one.map At.x) x.x).contains 0) := by
  by_cases h : (row (M n) (one.map At.x) x.x).contains 0 = true
  · rw [h]
    obtain ⟨y, hy, h0⟩ := List.mem_map.1 (List.contains_iff_mem.1 h)
    obtain ⟨p, hp, rfl⟩ := List.mem_map.1 hy
    obtain ⟨i, hi, rfl⟩ := List.getElem_of_mem hp
    have h1 : pv.nr (dt n one) U50 (rng one.length) x ≤ dt n one (i : Int) x := nr_le_mem (List.mem_map.2 ⟨i, List.mem_range.2 hi, rfl⟩)
    rw [dt_at n hi, M_symm, h0] at h1
    exact decide_eq_false (by omega)
  · have h' : (row (M n) (one.map At.x) x.x).contains 0 = false := by simpa using h
    rw [h']
    have h1 : (1 : Int) ≤ pv.nr (dt n one) U50 (rng one.length) x := nr_ge (fun c hc => by
      obtain ⟨i, hi, rfl⟩ := List.mem_map.1 hc
      have hi := List.mem_range.1 hi
      rw [dt_at n hi]
      have h2 := M_nonneg n one[i].x x.x
      have h3 : M n one[i].x x.x ≠ 0 := fun e => by
        refine h (List.contains_iff_mem.2 (List.mem_map.2 ⟨one[i].x, List.mem_map.2 ⟨_, List.getElem_mem hi, rfl⟩, ?_⟩))
        rw [M_symm]
        exact e
      omega) (by decide)
    exact decide_eq_true (by omega)
/-- things that a right metric and size make short -/
theorem bf_right {x : Thing} {m s : Int} (hb : dist.Bd x.vec) (h : rightO x m s = true) (hs : s ≤ 65536) : Bf x := by
  unfold rightO at h
  refine ⟨hb, ?_, ?_⟩
  all_goals
    split at h
    · cases h
    · split at h
      · simp only [Bool.and_eq_true, decide_eq_true_eq] at h
        omega
      · split at h
        · simp only [Bool.and_eq_true, decide_eq_true_eq] at h
          omega
        · simp only [Bool.and_eq_true, decide_eq_true_eq] at h
          omega
end Go.Proofs.YtgbjpobgjmkjgaaGreat.tab
/-
  A source of draws as an insertion, a bulk, takes it: New with what it owns.
-/
namespace Go.Proofs.YtgbjpobgjmkjgaaGreat.tab
open Go.RowKit Go.WideShapes law bytes only flat nums ord obj metric pv came
set_option linter.unusedVariables false

theorem nv_draws (l : List Int) : draws.nv l = nv l := rfl
/-- a copy in new memory -/
theorem cloneI_own (A : Option Addr) (c : Nat) (l : List Int) (hl : l.length ≤ 17592186044416) (w : World) (hs : Sl w w.heap.size A (nv l)) :
    Calls Tryz.prog 55 #[.slice A l.length c] w fun e w' => ∃ A2 c2, e = .returned (.slice A2 l.length c2) ∧ w'.ownsRow w.heap.size 3 1 (.slice A2 l.length c2) l.length (nv l) ∧ Below w.heap.size w w' := by
  rcases Nat.eq_zero_or_pos l.length with h0 | h0
  · obtain rfl := List.eq_nil_of_length_eq_zero h0
    rcases A with _ | a
    · exact (Tryz.slices_Clone_int_nil 0 c w).mono fun e w' ⟨he, hw⟩ => ⟨none, 0, he, World.ownsRow_nil _ _ _ _, hw ▸ Below.refl _ _⟩
    · refine (Tryz.slices_Clone_int_zero a c w).mono fun e w' ⟨v1, he, ho, _, hb1⟩ => ?_
      obtain ⟨A1, k1, rfl, _⟩ := own_slice ho
      exact ⟨A1, k1, he, ho, hb1⟩
  · obtain ⟨ad, rfl, hb, hat⟩ := hs.addr (by rw [nv_length]; exact h0)
    obtain ⟨b, o, s⟩ := ad
    have hs0 : s = none := by
      have := spot_none (hat 0 (by rw [nv_length]; exact h0))
      unfold Addr.add at this
      simpa using this
    subst hs0
    refine (Tryz.slices_Clone_int b o l.length c l w (Nat.le_refl _) (by omega) fun j hj => ?_).mono fun e w' ⟨v1, he, ho, _, hb1⟩ => ?_
    · have h2 := hat j (by rw [nv_length]; exact hj)
      have e2 : (⟨b, o, none⟩ : Addr).add j = ⟨b, o + j, none⟩ := by unfold Addr.add; split <;> simp_all
      rw [e2] at h2
      rw [h2]
      simp [nv, List.getD, List.getElem?_eq_getElem hj]
    · obtain ⟨A1, k1, rfl, _⟩ := own_slice ho
      rw [List.take_of_length_le (Nat.le_refl _)] at ho
      exact ⟨A1, k1, he, ho, hb1⟩
/-- a source at block g that owns its numbers, k used -/
def Sw (gs b0 : Nat) (A : Option Addr) (c : Nat) (l : List Int) (k : Nat) (W : World) : Prop :=
  Blk W gs 117 #[.slice A l.length c, .int .i64 k] ∧ W.ownsRow b0 3 1 (.slice A l.length c) l.length (nv l) ∧ ∀ i, (Value.slice A l.length c).ownBlock = some i → i < gs
/-- a new source, all of whose memory is new -/
def NewD (l : List Int) (n : Int) (w : World) (e : Ending) (w' : World) : Prop := ∃ (gs : Nat) (DS : Nat → Prop) (Dk : World → Prop), e = .returned (.pointer (some ⟨gs, 0, none⟩)) ∧ Dr (.pointer (some ⟨gs, 0, none⟩)) DS Dk n (draws.md (draws.nx l 0) n) ∧ Dk w' ∧ (∀ i, DS i → w.heap.size ≤ i ∧ i < w'.heap.size) ∧ Below w.heap.size w w'
theorem dr_of {gs b0 c : Nat} {A : Option Addr} {l : List Int} {n : Int} (hn : draws.I64 n) (hl : l.length ≤ 17592186044416) (hi : ∀ x ∈ l, draws.I64 x) : Dr (.pointer (some ⟨gs, 0, none⟩)) (fun i => i = gs ∨ (Value.slice A l.length c).ownBlock = some i) (Sw gs b0 A c l 0) n (draws.md (draws.nx l 0) n) where
  keep S W W' h o hS := ⟨Blk.only h.1 o (hS gs (.inl rfl)), own_only h.2.1 o fun i e => hS i (.inr e), h.2.2⟩
  pick W h := by
    have hso : draws.So W gs l 0 := ⟨A, c, h.1, fun j u hj => by
      obtain ⟨ad, e, hb, hc⟩ := Sl.of_own h.2.1 j u hj
      exact ⟨ad, e, h.2.2 _ (by rw [e]; rfl), hc⟩⟩
    exact (draws.pick_any n hn hl hi (by omega) W hso).mono fun e w' ⟨he, ho, _⟩ => ⟨he, ho.mono (T := fun i => i = gs ∨ (Value.slice A l.length c).ownBlock = some i) fun i (e : i = gs) => .inl (.inl e)⟩
  form := ⟨_, rfl⟩
set_option maxHeartbeats 1600000 in
theorem newD_any (A : Option Addr) (c : Nat) (l : List Int) (n : Int) (hn : draws.I64 n) (hl : l.length ≤ 17592186044416) (hi : ∀ x ∈ l, draws.I64 x) (w : World) (hs : Sl w w.heap.size A (nv l)) :
    Calls Tryz.prog 19 #[.slice A l.length c] w (NewD l n w) := by
  have HC := Lib.hid (cloneI_own A c l hl w hs)
  have HI := Lib.hid hi
  clear hs hi
  go_enter Tryz.func19, Tryz.ntmps19
  go_wp2_with (fail)
  refine HC.out.mono ?_
  rintro e w1 ⟨A2, c2, rfl, h1, hb1⟩
  have HE : Hid (NewD l n w (.returned (.pointer (some ⟨w1.heap.size, 0, none⟩))) (w1.alloc (.cells #[.slice A2 l.length c2, .int .i64 0] 117))) := Lib.hid
    ⟨w1.heap.size, _, _, rfl, dr_of hn hl HI.out, ⟨Blk.new _ _ _, h1.alloc _, fun i e => (own_lt h1 e).2⟩, fun i e => by
      rcases e with e | e
      · have := hb1.size; simp; omega
      · have := own_lt h1 e; simp; omega, hb1.alloc hb1.size _⟩
  clear HC h1 hb1
  go_wp2_with (fail)
  go_ret
  exact HE.out
end Go.Proofs.YtgbjpobgjmkjgaaGreat.tab
/-
  The contracts of first and places.
-/
namespace Go.Proofs.YtgbjpobgjmkjgaaGreat.tab
open Go.RowKit Go.WideShapes law bytes only flat nums ord obj metric pv lae
open aro (Kept)
open store (iE iE_len itemAt)
set_option linter.unusedVariables false
set_option maxRecDepth 100000

/-- the first thing; a right one of none is any -/
def fst0 : List (Int × Kept) → At
  | [] => ⟨none, 0, zeroO⟩
  | q :: _ => tho q
set_option maxHeartbeats 1600000 in
theorem first_any {A : Option Addr} {c : Nat} {l : List (Int × Kept)} (hl : l.length ≤ 9223372036854775807) (w : World) (hs : Sl w w.heap.size A (l.flatMap iE)) :
    Calls Tryz.prog 17 #[.slice A l.length c] w (Gives (oW (fst0 l)) w) := by
  have hbz : Below w.heap.size w (w.alloc (.cells #[.int .i64 0, .slice none 0 0, .string ⟨#[]⟩] 35)) := (Below.refl _ _).alloc (Nat.le_refl _) _
  cases l with
  | nil =>
    clear hs
    go_enter Tryz.func17, Tryz.ntmps17
    go_wp2_with (fail)
    obtain ⟨q0, q1, q2, -⟩ := cells3 (Blk.new w 35 #[.int .i64 0, .slice none 0 0, .string ⟨#[]⟩])
    refine bodyPost_ret (v := oW (fst0 [])) (by simp [results, Tryz.results17, go_sem, q0, q1, q2]; rfl) rfl ?_
    exact ⟨rfl, hbz⟩
  | cons q r =>
    obtain ⟨b, o, rfl, hb1, d0, d1, d2, d3⟩ := itemAt hs (k := 0) (by simp)
    simp only [List.getElem_cons_zero, Nat.zero_mul, Nat.add_zero] at d0 d1 d2 d3
    clear hs
    have k0 := (hbz.cell (p := ⟨b, o + 1, none⟩) (by show b < _; omega)).trans d1
    have k1 := (hbz.cell (p := ⟨b, o + 2, none⟩) (by show b < _; omega)).trans d2
    have k2 := (hbz.cell (p := ⟨b, o + 3, none⟩) (by show b < _; omega)).trans d3
    have i0 : ((r.length + 1 : Nat) == 0) = false := by simp
    have i1 : (((r.length + 1 : Nat) : Int) == 0) = false := by simp; omega
    have i2 : (0 : Int) < ((r.length + 1 : Nat) : Int) := by omega
    obtain ⟨-, -, -, hf⟩ := cells3 (Blk.new w 35 #[.int .i64 0, .slice none 0 0, .string ⟨#[]⟩])
    have hbe : Below w.heap.size w (w.alloc (.cells #[.int .i64 q.2.x.tag, .slice q.2.A q.2.x.vec.length q.2.c, .string q.2.x.str] 35)) := (Below.refl _ _).alloc (Nat.le_refl _) _
    rw [List.length_cons]
    go_enter Tryz.func17, Tryz.ntmps17
    go_wp2_with (fail)
    refine bodyPost_ret (v := oW (fst0 (q :: r))) (by simp [results, Tryz.results17, go_sem]; rfl) rfl ?_
    exact ⟨rfl, hbe⟩
set_option maxHeartbeats 1600000 in
theorem places_any (k : Nat) (hk : k ≤ 1048576) (w : World) : Calls Tryz.prog 22 #[.int .i64 k] w (OwnI (rng k) w) := by
  have hk63 : (k : Int) < 9223372036854775807 := by omega
  go_enter Tryz.func22, Tryz.ntmps22
  go_wp2_with (fail)
  go_loopg [3, 4] k (fun gk s3 s4 wr => ∃ (i c1 : Nat) (A1 : Option Addr), gk = k - i ∧ i ≤ k ∧ s3 = .slice A1 i c1 ∧ s4 = .int .i64 i ∧ wr.ownsRow w.heap.size 3 1 (.slice A1 i c1) i (nv (rng i)) ∧ Below w.heap.size w wr)
  case atStart => exact ⟨0, 0, none, rfl, Nat.zero_le _, rfl, rfl, World.ownsRow_nil _ _ _ _, Below.refl _ _⟩
  case round =>
    obtain ⟨i, c1, A1, rfl, hi, rfl, rfl, hown, hb⟩ := hrel
    have hsz := hb.size
    by_cases hlt : i < k
    · have i1 : (i : Int) < (k : Int) := by omega
      have HB := Lib.hid (And.intro hown hb)
      clear hown hb
      go_wp2_with (at_builtin
                   refine wpList_append_sl _ rfl (.tmp 10) (.tmp 12) _ rfl w.heap.size 3 _ 8 Tryz.underlying39 intE (.slice A1 i c1) i (nv (rng i)) rfl (World.ownsRow.alloc (w := wr) HB.out.1 _) _ _ 1 1 [.int .i64 i] rfl (Sl.one wr _ _) rfl (by simp [Value.oneCell']) (by omega) (by unfold maxLen; omega) (by simp; omega) ?_
                   intro v4 w4 hown4 hg4 hat4
                   obtain ⟨A4, c4, rfl, hc4⟩ := own_slice hown4)
      have HB4 := Lib.hid (below_append HB.out.2 hsz _ HB.out.1 (Nat.le_refl _) hg4)
      have HO4 : Hid (w4.ownsRow w.heap.size 3 1 (.slice A4 (i + 1) c4) (i + 1) (nv (rng (i + 1)))) := Lib.hid (by rw [rng_succ, nv_snoc]; exact hown4)
      clear hown4 hg4 hat4 HB
      go_wp2_with (fail)
      go_roundg (k - (i + 1))
      case measure => omega
      case rel => exact ⟨i + 1, c4, A4, rfl, by omega, rfl, by go_num, HO4.out, HB4.out⟩
    · obtain rfl : i = k := by omega
      have i1 : ¬ (i : Int) < (i : Int) := by omega
      have HE : Hid (OwnI (rng i) w (.returned (.slice A1 i c1)) wr) := Lib.hid (OwnI.mk hown hb)
      clear hown hb
      go_wp2_with (fail)
      go_ret
      exact HE.out
end Go.Proofs.YtgbjpobgjmkjgaaGreat.tab
/-
  The contract of waywiserlaw21.Right, of any deeds.
-/
namespace Go.Proofs.YtgbjpobgjmkjgaaGreat.play
open Go.RowKit Go.WideShapes law bytes only flat nums ord obj came
open aro (Kept)
open store (iE iE_len iE_one itemK itemAt)
set_option linter.unusedVariables false
set_option maxRecDepth 100000

/-- what is done: its kind, an item, items, a number, draws -/
structure Deed where
  kind : Int
  it : Int × Kept
  A : Option Addr
  c : Nat
  l : List (Int × Kept)
  m : Int
  D : Option Addr
  dc : Nat
  raw : List Int
def acE (a : Deed) : List Value := [.int .i64 a.kind, .int .u64 a.it.1, .int .i64 a.it.2.x.tag, .slice a.it.2.A a.it.2.x.vec.length a.it.2.c, .string a.it.2.x.str, .slice a.A a.l.length a.c, .int .i64 a.m, .slice a.D a.raw.length a.dc]
theorem acE_len (a : Deed) : (acE a).length = 8 := rfl
def rgt1 (n s : Int) (a : Deed) : Bool := decide (a.l.length + 1 ≤ 60) && decide (a.raw.length ≤ 100) && (a.it :: a.l).all fun q => rightO q.2.x n s
/-- are all things of deeds right, short and few? -/
def rgt (n s : Int) (l : List Deed) : Bool := decide (l.length ≤ 120) && decide (s ≤ 40) && l.all (rgt1 n s)
theorem deedAt {W : World} {B k : Nat} {A : Option Addr} {q : List Deed} (h : Sl W B A (q.flatMap acE)) (hk : k < q.length) : ∃ b o, A = some ⟨b, o, none⟩ ∧ b < B ∧ W.cell? ⟨b, o + k * 8 + 1, none⟩ = some (.int .u64 q[k].it.1) ∧ W.cell? ⟨b, o + k * 8 + 2, none⟩ = some (.int .i64 q[k].it.2.x.tag) ∧
    W.cell? ⟨b, o + k * 8 + 3, none⟩ = some (.slice q[k].it.2.A q[k].it.2.x.vec.length q[k].it.2.c) ∧ W.cell? ⟨b, o + k * 8 + 4, none⟩ = some (.string q[k].it.2.x.str) ∧ W.cell? ⟨b, o + k * 8 + 5, none⟩ = some (.slice q[k].A q[k].l.length q[k].c) ∧ W.cell? ⟨b, o + k * 8 + 7, none⟩ = some (.slice q[k].D q[k].raw.length q[k].dc) := by
  have hl := flat_length acE_len q
  obtain ⟨b, o, e, hb, hc⟩ := Sl.place h (by rw [hl]; omega)
  have key : ∀ j, (hj : j < 8) → W.cell? ⟨b, o + (k * 8 + j), none⟩ = (acE q[k])[j]? := fun j hj => by
    have h1 := hc (k * 8 + j) (by rw [hl]; omega)
    have h2 := flat_get acE_len q k j hk hj
    rw [List.getElem?_eq_getElem (by rw [hl]; omega)] at h2
    rw [h1, h2]
  exact ⟨b, o, e, hb, key 1 (by decide), key 2 (by decide), key 3 (by decide), key 4 (by decide), key 5 (by decide), key 7 (by decide)⟩
theorem all_take {α : Type} {l : List α} {p : α → Bool} {k : Nat} (hk : k < l.length) : (l.take (k + 1)).all p = ((l.take k).all p && p l[k]) := by
  rw [List.take_succ_eq_append_getElem hk, List.all_append]
  simp
theorem all_no {α : Type} {l : List α} {p : α → Bool} {k : Nat} (hk : k < l.length) (h : p l[k] = false) : l.all p = false := by
  rw [Bool.eq_false_iff]
  intro e
  have := List.all_eq_true.1 e _ (List.getElem_mem hk)
  rw [h] at this
  cases this
set_option maxHeartbeats 6400000 in
theorem right_any (n s : Int) (A : Option Addr) (c : Nat) (l : List Deed) (w : World) (hs : Sl w w.heap.size A (l.flatMap acE)) (hi : ∀ a ∈ l, Sl w w.heap.size a.A (a.l.flatMap iE) ∧ (a.l.length + 1) * 56 ≤ 140737488355328) (hl : l.length ≤ 9223372036854775807) :
    Calls Tryz.prog 8 #[.int .i64 n, .int .i64 s, .slice A l.length c] w (Gives (.bool (rgt n s l)) w) := by
  by_cases h1 : (l.length : Int) > 120
  · have hr : rgt n s l = false := by unfold rgt; rw [decide_eq_false (by omega : ¬ l.length ≤ 120)]; rfl
    have d0 : decide ((l.length : Int) > 120) = true := decide_eq_true h1
    rw [hr]
    clear hs hi hr h1
    go_enter Tryz.func8, Tryz.ntmps8
    go_wp2_with (fail)
    go_ret
    exact ⟨rfl, Below.refl _ _⟩
  have d0 : decide ((l.length : Int) > 120) = false := decide_eq_false h1
  by_cases h2 : s > 40
  · have hr : rgt n s l = false := by unfold rgt; rw [decide_eq_false (by omega : ¬ s ≤ 40)]; simp
    have d1 : decide (s > 40) = true := decide_eq_true h2
    rw [hr]
    clear hs hi hr h1 h2
    go_enter Tryz.func8, Tryz.ntmps8
    go_wp2_with (fail)
    go_ret
    exact ⟨rfl, Below.refl _ _⟩
  have d1 : decide (s > 40) = false := decide_eq_false h2
  have hr : rgt n s l = l.all (rgt1 n s) := by unfold rgt; rw [decide_eq_true (by omega : l.length ≤ 120), decide_eq_true (by omega : s ≤ 40)]; simp
  rw [hr]
  have HS := Lib.hid hs
  have HI := Lib.hid hi
  clear hs hi hr h2
  go_enter Tryz.func8, Tryz.ntmps8
  go_wp2_with (fail)
  clear d0 d1
  go_loopg [7] l.length (fun gk s7 wr => ∃ i : Nat, gk = l.length - i ∧ i ≤ l.length ∧ s7 = .int .i64 i ∧ (l.take i).all (rgt1 n s) = true ∧ Below w.heap.size w wr)
  case atStart => exact ⟨0, rfl, Nat.zero_le _, rfl, rfl, Below.refl _ _⟩
  case round =>
    obtain ⟨i, rfl, hi, rfl, hall, hb⟩ := hrel
    by_cases hlt : i < l.length
    · have i1 : (i : Int) < (l.length : Int) := by omega
      have i0 : (0 : Int) ≤ (i : Int) := by omega
      have hsz := hb.size
      obtain ⟨b, o, rfl, hb1, c1, c2, c3, c4, c5, c7⟩ := deedAt (HS.out.below hb) hlt
      obtain ⟨hsl, hby⟩ := HI.out _ (List.getElem_mem hlt)
      have htk := all_take (p := rgt1 n s) hlt
      rw [hall, Bool.true_and] at htk
      have hno := all_no (p := rgt1 n s) hlt
      obtain ⟨a, ha⟩ : ∃ a, l[i] = a := ⟨_, rfl⟩
      rw [ha] at c1 c2 c3 c4 c5 c7 hsl hby htk hno
      have HC7 : Hid (∀ W, Below w.heap.size w W → Below wr.heap.size wr W → W.cell? ⟨b, o + i * 8 + 7, none⟩ = some (.slice a.D a.raw.length a.dc)) := Lib.hid fun W _ hW => (hW.cell (p := ⟨b, _, none⟩) (by show b < _; omega)).trans c7
      have HST : Hid (∀ W, Below wr.heap.size wr W → W.cell? ⟨b, o + i * 8 + 5, none⟩ = some (.slice a.A a.l.length a.c) ∧ Sl W W.heap.size a.A (a.l.flatMap iE)) := Lib.hid fun W hW =>
        ⟨(hW.cell (p := ⟨b, _, none⟩) (by show b < _; omega)).trans c5, ((hsl.below hb).below (hW.mono hsz)).more (by have := hW.size; omega)⟩
      clear HS HI hall ha hsl c7
      have hml : a.l.length * 56 ≤ 140737488355328 := by omega
      have e8 : wr.heap.size < (wr.alloc (.cells (iE a.it).toArray 37)).heap.size := by simp
      have HE1 : Hid ((wr.alloc (.cells (iE a.it).toArray 37)).ownsRow w.heap.size 37 4 (.slice (some ⟨wr.heap.size, 0, none⟩) 1 1) 1 (iE a.it)) := Lib.hid
        ⟨rfl, .inr ⟨wr.heap.size, 1, _, rfl, hsz, Blk.new wr _ _, Nat.le_refl _, by unfold maxLen; omega, rfl, rfl⟩⟩
      have hsq := HST.out (wr.alloc (.cells (iE a.it).toArray 37)) ((Below.refl _ _).alloc (Nat.le_refl _) _)
      have HQ := Lib.hid hsq
      have c5a := hsq.1
      have HB := Lib.hid hb
      unfold iE at c5a
      have HF : Hid (∀ W w4, Below wr.heap.size wr W → W.grownBy w4 (Value.slice (some ⟨wr.heap.size, 0, none⟩) 1 1).ownBlock → Below wr.heap.size wr w4) := Lib.hid fun W w4 hW hg => hW.grown hg hW.size (by simp [Value.ownBlock])
      clear hsq hb e8
      go_wp2_with (fail)
      go_cut [8] from 35 (fun s8 wx => ∃ (A4 : Option Addr) (k4 : Nat), s8 = .slice A4 (1 + a.l.length) k4 ∧ wx.ownsRow w.heap.size 37 4 (.slice A4 (1 + a.l.length) k4) (1 + a.l.length) ((a.it :: a.l).flatMap iE) ∧ Below w.heap.size w wx ∧ wx.cell? ⟨b, o + i * 8 + 7, none⟩ = some (.slice a.D a.raw.length a.dc))
      case first =>
        go_region_law (refine step_append_slk _ (by rfl) _ _ _ (by rfl) w.heap.size 37 4 56 Tryz.underlying38 itemK (by omega) (.slice (some ⟨wr.heap.size, 0, none⟩) 1 1) 1 (iE a.it) (by rfl) HE1.out _ _ a.l.length a.c (a.l.flatMap iE) (by rfl) HQ.out.2 (flat_length iE_len _) (iE_one _) (by omega) (by unfold maxLen; omega) (by simp; omega) ?_; intro v4 w4 hown4 hg4 hat4; obtain ⟨A4, k4, rfl, hk4⟩ := own_slice hown4)
        all_goals
          have hb4 := HF.out _ w4 (by repeat' (first | (with_reducible exact Below.refl _ _) | (with_reducible assumption) | (with_reducible refine Below.drew ?_) | (with_reducible refine below_drewN' ?_ _) | (with_reducible refine Below.alloc ?_ (Nat.le_refl _) _))) hg4
          have HX := Lib.hid (And.intro hown4 (And.intro (HB.out.trans (hb4.mono hsz)) (HC7.out w4 (HB.out.trans (hb4.mono hsz)) hb4)))
          clear hown4 hg4 hat4 hb4 HF HE1 HQ HST HC7 HB c1 c2 c3 c4 c5 c5a
          go_wp2_with (fail)
          go_meet
          case rel => exact ⟨A4, _, rfl, HX.out.1, HX.out.2.1, HX.out.2.2⟩
      case rest =>
        obtain ⟨A4, k4, rfl, hown, hb, c7⟩ := hcut
        clear HC7 HST HE1 HQ HB HF c1 c2 c3 c4 c5 c5a
        have hR : rgt1 n s a = (decide (a.l.length + 1 ≤ 60) && decide (a.raw.length ≤ 100) && (a.it :: a.l).all fun q => rightO q.2.x n s) := rfl
        have hql : (a.it :: a.l).length = 1 + a.l.length := by rw [List.length_cons]; omega
        obtain ⟨m, hm⟩ : ∃ m, 1 + a.l.length = m := ⟨_, rfl⟩
        obtain ⟨q, hq⟩ : ∃ q, a.it :: a.l = q := ⟨_, rfl⟩
        rw [hm] at hown hql ⊢
        rw [hq] at hown hql hR
        rw [show a.l.length + 1 = m by omega] at hR
        have hmb : m * 56 ≤ 140737488355328 := by omega
        clear hby hml hm hq
        have m0 : (0 : Int) ≤ (m : Int) := by omega
        have m63 : (m : Int) < 9223372036854775807 := by omega
        by_cases h60 : (m : Int) > 60
        · have e60 : decide ((m : Int) > 60) = true := decide_eq_true h60
          have HNO := Lib.hid (hno (by rw [hR, decide_eq_false (by omega : ¬ m ≤ 60)]; rfl))
          have HB := Lib.hid hb
          clear hno hb hown h60 hR htk
          go_wp2_with (fail)
          go_ret
          rw [HNO.out]
          exact ⟨rfl, HB.out⟩
        have e60 : decide ((m : Int) > 60) = false := decide_eq_false h60
        by_cases h100 : (a.raw.length : Int) > 100
        · have e100 : decide ((a.raw.length : Int) > 100) = true := decide_eq_true h100
          have HNO := Lib.hid (hno (by rw [hR, decide_eq_false (by omega : ¬ a.raw.length ≤ 100)]; simp))
          have HB := Lib.hid hb
          clear hno hb hown h60 h100 hR htk
          go_wp2_with (fail)
          go_ret
          rw [HNO.out]
          exact ⟨rfl, HB.out⟩
        have e100 : decide ((a.raw.length : Int) > 100) = false := decide_eq_false h100
        have hR2 : rgt1 n s a = q.all fun q => rightO q.2.x n s := by rw [hR, decide_eq_true (by omega : m ≤ 60), decide_eq_true (by omega : a.raw.length ≤ 100)]; rfl
        have HO := Lib.hid (And.intro hown hb)
        have HR2 := Lib.hid hR2
        have HNO := Lib.hid hno
        have HTK := Lib.hid htk
        have HQL := Lib.hid hql
        clear hown hb hno htk hR hR2 h60 h100 hql hmb
        go_wp2_with (fail)
        clear c7 e60 e100
        go_loopg [9] m (fun gk s9 wr => ∃ k : Nat, gk = m - k ∧ k ≤ m ∧ s9 = .int .i64 k ∧ (q.take k).all (fun q => rightO q.2.x n s) = true ∧ Below w.heap.size w wr ∧ wr.ownsRow w.heap.size 37 4 (.slice A4 m k4) m (q.flatMap iE))
        case atStart => exact ⟨0, rfl, Nat.zero_le _, rfl, rfl, HO.out.2, HO.out.1⟩
        case round =>
          clear HO
          obtain ⟨k, rfl, hk, rfl, hal, hb, hown⟩ := hrel
          by_cases hkl : k < m
          · have j1 : (k : Int) < (m : Int) := by omega
            have j0 : (0 : Int) ≤ (k : Int) := by omega
            have hkq : k < q.length := by rw [HQL.out]; exact hkl
            obtain ⟨b', o', rfl, -, -, d1, d2, d3⟩ := itemAt (Sl.of_ownK hown) hkq
            have htk2 := all_take (p := fun q : Int × Kept => rightO q.2.x n s) hkq
            rw [hal, Bool.true_and] at htk2
            have hno2 := all_no (p := fun q : Int × Kept => rightO q.2.x n s) hkq
            obtain ⟨p, hp⟩ : ∃ p, q[k]'hkq = p := ⟨_, rfl⟩
            rw [hp] at d1 d2 d3
            have hc := rright_any p.2.A p.2.c p.2.x n s wr
            obtain ⟨z, hz⟩ : ∃ z, rightO p.2.x n s = z := ⟨_, rfl⟩
            rw [hz] at hc
            simp only [hp, hz] at htk2 hno2
            clear hp hkq
            have HC := Lib.hid hc
            have HB := Lib.hid (And.intro hb hown)
            have H2 := Lib.hid (And.intro htk2 hno2)
            clear hc hb hown htk2 hno2 hz hal
            go_wp2_with (fail)
            refine HC.out.mono ?_
            rintro e w5 ⟨rfl, hb5⟩
            have HB5 := Lib.hid (And.intro (HB.out.1.trans (hb5.mono HB.out.1.size)) (own_below HB.out.2 hb5 (Nat.le_refl _)))
            clear hb5 HB HC d1 d2 d3
            cases z with
            | true =>
              go_wp2_with (fail)
              go_roundg (m - (k + 1))
              case measure => omega
              case rel => exact ⟨k + 1, rfl, by omega, by go_num, H2.out.1, HB5.out.1, HB5.out.2⟩
            | false =>
              have HF := Lib.hid (HNO.out (by rw [HR2.out]; exact H2.out.2 rfl))
              go_wp2_with (fail)
              go_ret
              rw [HF.out]
              exact ⟨rfl, HB5.out.1⟩
          · obtain rfl : k = m := by omega
            have j1 : ¬ (k : Int) < (k : Int) := by omega
            rw [List.take_of_length_le (by rw [HQL.out]; exact Nat.le_refl _)] at hal
            have HX := Lib.hid (And.intro (HTK.out.trans (HR2.out.trans hal)) hb)
            clear hal hb hown
            go_wp2_with (fail)
            go_roundg (l.length - (i + 1))
            case measure => omega
            case rel => exact ⟨i + 1, rfl, by omega, by go_num, HX.out.1, HX.out.2⟩
    · obtain rfl : i = l.length := by omega
      have i1 : ¬ (l.length : Int) < (l.length : Int) := by omega
      rw [List.take_length] at hall
      rw [hall]
      have HE := Lib.hid hb
      clear hb
      go_wp2_with (fail)
      go_ret
      exact ⟨rfl, HE.out⟩
end Go.Proofs.YtgbjpobgjmkjgaaGreat.play
/-
  Where the law LaesaPivots stands: two tables of one meter, two rows of things; what each step leaves.
-/
namespace Go.Proofs.YtgbjpobgjmkjgaaGreat.tab
open Go.RowKit Go.WideShapes law bytes only flat nums ord obj metric pv lae Go.Maps
open aro (Kept)
open store (iE iE_len itemAt)
open told (own_types blk_types)
set_option linter.unusedVariables false

theorem Tx.other {w w' : World} {base tb g mb : Nat} {n k k' most : Int} {T S : Nat → Prop} {vP vR : Value} {P : List At} {R : List Ro} (h : Tx w base tb g mb n k most T vP vR P R) (o : Only S w w') (hS : ∀ i, T i → ¬ S i) (hm : Mt w' g n k') : Tx w' base tb g mb n k' most T vP vR P R := by
  obtain ⟨D, h1, h2⟩ := h.map
  exact ⟨Blk.only h.blk o (hS _ h.tt), hm, h.gb, own_only h.piv o fun i e => hS i (h.tP i e), own_only h.rows o fun i e => hS i (h.tR i e), ⟨D, map_only h1 o (hS _ h.tm), h2⟩,
    fun r hr => (h.rx r hr).only o hS, fun p hp => (h.vecP p hp).only o fun i e _ => hS i e, h.bP, h.ap, h.nd, fun i e => ⟨(h.low i e).1, Nat.lt_of_lt_of_le (h.low i e).2 o.size⟩, h.tt, h.tm, h.tP, h.tR⟩
/-- what the law is asked -/
structure Dat where
  n : Int
  s : Int
  most : Int
  Aa : Option Addr
  an : Nat
  ac : Nat
  A : Option Addr
  c : Nat
  l : List (Int × Kept)
  D : Option Addr
  dc : Nat
  raw : List Int
def rC (d : Dat) : Array Value := #[.int .i64 d.n, .int .i64 d.s, .int .i64 d.most, .slice d.Aa d.an d.ac]
/-- .. in memory -/
structure Hyp (w : World) (d : Dat) : Prop where
  row : Sl w w.heap.size d.A (d.l.flatMap iE)
  vec : ∀ q ∈ d.l, Sl w w.heap.size q.2.A (iv q.2.x.vec)
  bd : ∀ q ∈ d.l, dist.Bd q.2.x.vec
  wf : idx.Wf d.l
  len : (d.l.length + 1) * 56 ≤ 140737488355328
  raw : Sl w w.heap.size d.D (nv d.raw)
  rlen : d.raw.length ≤ 17592186044416
  ri : ∀ x ∈ d.raw, draws.I64 x
/-- .. where all are right, short and few -/
structure Fine (d : Dat) : Prop where
  few : d.l.length ≤ 60
  bf : ∀ q ∈ d.l, Bf q.2.x
structure LpS (w W : World) (d : Dat) (g ta tb ba bb ma mb : Nat) (k : Int) (Ta Tb : Nat → Prop) (vPa vRa vPb vRb : Value) (Pa Pb : List At) (Ra Rb : List Ro) (vA vO : Value) (al one : List At) : Prop where
  low : Below w.heap.size w W
  box : Blk W w.heap.size 24 (rC d)
  g0 : w.heap.size < g
  a0 : w.heap.size < ba
  b0 : w.heap.size < bb
  a : Tx W ba ta g ma d.n k d.most Ta vPa vRa Pa Ra
  b : Tx W bb tb g mb d.n k d.most Tb vPb vRb Pb Rb
  ab : ∀ i, Ta i → ¬ Tb i
  al : W.ownsRow (w.heap.size + 1) 35 3 vA al.length (ocs al)
  one : W.ownsRow (w.heap.size + 1) 35 3 vO one.length (ocs one)
  la : ∀ i, vA.ownBlock = some i → i ≠ g ∧ ¬ Ta i ∧ ¬ Tb i
  lo : ∀ i, vO.ownBlock = some i → i ≠ g ∧ ¬ Ta i ∧ ¬ Tb i
  lao : ∀ i, vA.ownBlock = some i → vO.ownBlock ≠ some i
section
variable {w W W' : World} {d : Dat} {g ta tb ba bb ma mb : Nat} {k : Int} {Ta Tb : Nat → Prop} {vPa vRa vPb vRb : Value} {Pa Pb : List At} {Ra Rb : List Ro} {vA vO : Value} {al one : List At}
theorem LpS.below (h : LpS w W d g ta tb ba bb ma mb k Ta Tb vPa vRa vPb vRb Pa Pb Ra Rb vA vO al one) (o : Below W.heap.size W W') : LpS w W' d g ta tb ba bb ma mb k Ta Tb vPa vRa vPb vRb Pa Pb Ra Rb vA vO al one :=
  ⟨h.low.trans (o.mono h.low.size), h.box.below o h.box.lt, h.g0, h.a0, h.b0, h.a.below o, h.b.below o, h.ab, own_below h.al o (Nat.le_refl _), own_below h.one o (Nat.le_refl _), h.la, h.lo, h.lao⟩
/-- the row of all is longer -/
theorem LpS.setA {v : Value} {al' : List At} (h : LpS w W d g ta tb ba bb ma mb k Ta Tb vPa vRa vPb vRb Pa Pb Ra Rb vA vO al one) (o : Only (fun i => vA.ownBlock = some i) W W') (hown : W'.ownsRow (w.heap.size + 1) 35 3 v al'.length (ocs al')) (hv : v.ownBlock = vA.ownBlock ∨ ∃ i, v.ownBlock = some i ∧ W.heap.size ≤ i) :
    LpS w W' d g ta tb ba bb ma mb k Ta Tb vPa vRa vPb vRb Pa Pb Ra Rb v vO al' one := by
  have hb : ∀ i, vA.ownBlock = some i → w.heap.size + 1 ≤ i := fun i e => (own_lt h.al e).1
  refine ⟨h.low.trans (o.below h.low.size fun i e => by have := hb i e; omega), Blk.only h.box o fun e => by have := hb _ e; omega, h.g0, h.a0, h.b0, h.a.only o fun i e e2 => ?_, h.b.only o fun i e e2 => ?_, h.ab, hown, own_only h.one o fun i e e2 => h.lao i e2 e, fun i e => ?_, h.lo, fun i e => ?_⟩
  · have := h.la i e2
    exact e.elim this.1 this.2.1
  · have := h.la i e2
    exact e.elim this.1 this.2.2
  · rcases hv with hv | ⟨j, hj, hjl⟩
    · exact h.la i (hv ▸ e)
    · rw [hj] at e
      injection e with e
      subst e
      exact ⟨fun e => by have := h.a.mt.lt; omega, fun e => by have := (h.a.low _ e).2; omega, fun e => by have := (h.b.low _ e).2; omega⟩
  · rcases hv with hv | ⟨j, hj, hjl⟩
    · exact h.lao i (hv ▸ e)
    · rw [hj] at e
      injection e with e
      subst e
      exact fun e => by have := (own_lt h.one e).2; omega
/-- the row of those put in is longer -/
theorem LpS.setO {v : Value} {one' : List At} (h : LpS w W d g ta tb ba bb ma mb k Ta Tb vPa vRa vPb vRb Pa Pb Ra Rb vA vO al one) (o : Only (fun i => vO.ownBlock = some i) W W') (hown : W'.ownsRow (w.heap.size + 1) 35 3 v one'.length (ocs one')) (hv : v.ownBlock = vO.ownBlock ∨ ∃ i, v.ownBlock = some i ∧ W.heap.size ≤ i) :
    LpS w W' d g ta tb ba bb ma mb k Ta Tb vPa vRa vPb vRb Pa Pb Ra Rb vA v al one' := by
  have hb : ∀ i, vO.ownBlock = some i → w.heap.size + 1 ≤ i := fun i e => (own_lt h.one e).1
  refine ⟨h.low.trans (o.below h.low.size fun i e => by have := hb i e; omega), Blk.only h.box o fun e => by have := hb _ e; omega, h.g0, h.a0, h.b0, h.a.only o fun i e e2 => ?_, h.b.only o fun i e e2 => ?_, h.ab, own_only h.al o fun i e e2 => h.lao i e e2, hown, h.la, fun i e => ?_, fun i e e2 => ?_⟩
  · have := h.lo i e2
    exact e.elim this.1 this.2.1
  · have := h.lo i e2
    exact e.elim this.1 this.2.2
  · rcases hv with hv | ⟨j, hj, hjl⟩
    · exact h.lo i (hv ▸ e)
    · rw [hj] at e
      injection e with e
      subst e
      exact ⟨fun e => by have := h.a.mt.lt; omega, fun e => by have := (h.a.low _ e).2; omega, fun e => by have := (h.b.low _ e).2; omega⟩
  · rcases hv with hv | ⟨j, hj, hjl⟩
    · exact h.lao i e (hv ▸ e2)
    · rw [hj] at e2
      injection e2 with e2
      subst e2
      have := (own_lt h.al e).2
      omega
/-- the second table has turned -/
theorem LpS.setB {k' : Int} {Tb' : Nat → Prop} {vPb' vRb' : Value} {Pb' : List At} {Rb' : List Ro} (h : LpS w W d g ta tb ba bb ma mb k Ta Tb vPa vRa vPb vRb Pa Pb Ra Rb vA vO al one) (hb : Tx W' bb tb g mb d.n k' d.most Tb' vPb' vRb' Pb' Rb') (o : Only (fun i => i = g ∨ Tb i) W W') (hT : ∀ i, Tb' i → Tb i ∨ W.heap.size ≤ i) :
    LpS w W' d g ta tb ba bb ma mb k' Ta Tb' vPa vRa vPb' vRb' Pa Pb' Ra Rb' vA vO al one := by
  have hTl : ∀ i, Tb i → w.heap.size + 1 ≤ i := fun i e => by have := (h.b.low i e).1; have := h.b0; omega
  have hg := h.g0
  refine ⟨h.low.trans (o.below h.low.size fun i e => ?_), Blk.only h.box o fun e => ?_, h.g0, h.a0, h.b0, h.a.other o (fun i e e2 => ?_) hb.mt, hb, fun i e e2 => ?_, own_only h.al o fun i e e2 => ?_, own_only h.one o fun i e e2 => ?_, fun i e => ?_, fun i e => ?_, h.lao⟩
  · rcases e with e | e
    · omega
    · have := hTl i e; omega
  · rcases e with e | e
    · omega
    · have := hTl _ e; omega
  · rcases e2 with e2 | e2
    · have := (h.a.low i e).1; have := h.a.gb; omega
    · exact h.ab i e e2
  · rcases hT i e2 with e2 | e2
    · exact h.ab i e e2
    · have := (h.a.low i e).2; omega
  · exact e2.elim (h.la i e).1 (h.la i e).2.2
  · exact e2.elim (h.lo i e).1 (h.lo i e).2.2
  · refine ⟨(h.la i e).1, (h.la i e).2.1, fun e2 => ?_⟩
    rcases hT i e2 with e2 | e2
    · exact (h.la i e).2.2 e2
    · have := (own_lt h.al e).2; omega
  · refine ⟨(h.lo i e).1, (h.lo i e).2.1, fun e2 => ?_⟩
    rcases hT i e2 with e2 | e2
    · exact (h.lo i e).2.2 e2
    · have := (own_lt h.one e).2; omega
/-- the first table has turned, and a source of draws; no row was made yet -/
theorem LpS.setT {k' : Int} {Ta' DS : Nat → Prop} {vPa' vRa' : Value} {Pa' : List At} {Ra' : List Ro} (h : LpS w W d g ta tb ba bb ma mb k Ta Tb vPa vRa vPb vRb Pa Pb Ra Rb (.slice none 0 0) (.slice none 0 0) [] []) (ha : Tx W' ba ta g ma d.n k' d.most Ta' vPa' vRa' Pa' Ra') (o : Only (fun i => i = g ∨ Ta i ∨ DS i) W W') (hT : ∀ i, Ta' i → Ta i ∨ W.heap.size ≤ i) (hD : ∀ i, DS i → ¬ Tb i ∧ w.heap.size < i) :
    LpS w W' d g ta tb ba bb ma mb k' Ta' Tb vPa' vRa' vPb vRb Pa' Pb Ra' Rb (.slice none 0 0) (.slice none 0 0) [] [] := by
  have hTl : ∀ i, Ta i → w.heap.size + 1 ≤ i := fun i e => by have := (h.a.low i e).1; have := h.a0; omega
  have hg := h.g0
  have hS : ∀ i, (i = g ∨ Ta i ∨ DS i) → w.heap.size < i := fun i e => by
    rcases e with e | e | e
    · omega
    · have := hTl i e; omega
    · exact (hD i e).2
  refine ⟨h.low.trans (o.below h.low.size fun i e => by have := hS i e; omega), Blk.only h.box o fun e => by have := hS _ e; omega, h.g0, h.a0, h.b0, ha, h.b.other o (fun i e e2 => ?_) ha.mt, fun i e e2 => ?_, World.ownsRow_nil _ _ _ _, World.ownsRow_nil _ _ _ _, fun i e => (by cases e), fun i e => (by cases e), fun i e => (by cases e)⟩
  · rcases e2 with e2 | e2 | e2
    · have := (h.b.low i e).1; have := h.b.gb; omega
    · exact h.ab i e2 e
    · exact (hD i e2).1 e
  · rcases hT i e with e | e
    · exact h.ab i e e2
    · have := (h.b.low i e2).2; omega
end
end Go.Proofs.YtgbjpobgjmkjgaaGreat.tab
/-
  What each step of the law LaesaPivots leaves, as contracts.
-/
namespace Go.Proofs.YtgbjpobgjmkjgaaGreat.tab
open Go.RowKit Go.WideShapes law bytes only flat nums ord obj metric pv lae Go.Maps
open aro (Kept)
open store (iE iE_len itemAt)
set_option linter.unusedVariables false

/-- where the law stands, of what is told of the tables alone -/
def Lq (w W : World) (d : Dat) (g ta tb : Nat) (PA PB : List Thing) (kb : Nat) (vA vO : Value) (al one : List At) : Prop :=
  ∃ (ba bb ma mb : Nat) (k : Int) (Ta Tb : Nat → Prop) (vPa vRa vPb vRb : Value) (Pa Pb : List At) (Ra Rb : List Ro), LpS w W d g ta tb ba bb ma mb k Ta Tb vPa vRa vPb vRb Pa Pb Ra Rb vA vO al one ∧
    Pa.map At.x = PA ∧ Pb.map At.x = PB ∧ 0 ≤ k ∧ k ≤ 400000000 + (kb * 200 : Nat) ∧ Rb.length ≤ kb ∧ Pb.length ≤ kb ∧ Pa.length ≤ 1048576
theorem Away.fresh {w W : World} {T : Nat → Prop} {A : Option Addr} {xs : List Value} (h : Sl w w.heap.size A xs) (hb : Below w.heap.size w W) (hT : ∀ i, T i → w.heap.size ≤ i) : Away W T A xs := fun j u hj => by
  obtain ⟨ad, e, h1, hc⟩ := (h.below hb) j u hj
  exact ⟨ad, e, Nat.lt_of_lt_of_le h1 hb.size, fun ht => by have := hT _ ht; omega, hc⟩
section
variable {w W W' : World} {d : Dat} {g ta tb kb : Nat} {PA PB : List Thing} {vA vO : Value} {al one : List At}
theorem Lq.on (h : Lq w W d g ta tb PA PB kb vA vO al one) (o : Below W.heap.size W W') : Lq w W' d g ta tb PA PB kb vA vO al one := by
  obtain ⟨ba, bb, ma, mb, k, Ta, Tb, vPa, vRa, vPb, vRb, Pa, Pb, Ra, Rb, hs, r⟩ := h
  exact ⟨ba, bb, ma, mb, k, Ta, Tb, vPa, vRa, vPb, vRb, Pa, Pb, Ra, Rb, hs.below o, r⟩
theorem Lq.low (h : Lq w W d g ta tb PA PB kb vA vO al one) : Below w.heap.size w W := by
  obtain ⟨ba, bb, ma, mb, k, Ta, Tb, vPa, vRa, vPb, vRb, Pa, Pb, Ra, Rb, hs, r⟩ := h
  exact hs.low
theorem Lq.box (h : Lq w W d g ta tb PA PB kb vA vO al one) : W.cell? ⟨w.heap.size, 0, none⟩ = some (.int .i64 d.n) ∧ W.cell? ⟨w.heap.size, 2, none⟩ = some (.int .i64 d.most) := by
  obtain ⟨ba, bb, ma, mb, k, Ta, Tb, vPa, vRa, vPb, vRb, Pa, Pb, Ra, Rb, hs, r⟩ := h
  exact ⟨hs.box.cell 0, hs.box.cell 2⟩
theorem Lq.rows (h : Lq w W d g ta tb PA PB kb vA vO al one) : W.ownsRow (w.heap.size + 1) 35 3 vA al.length (ocs al) ∧ W.ownsRow (w.heap.size + 1) 35 3 vO one.length (ocs one) := by
  obtain ⟨ba, bb, ma, mb, k, Ta, Tb, vPa, vRa, vPb, vRb, Pa, Pb, Ra, Rb, hs, r⟩ := h
  exact ⟨hs.al, hs.one⟩
theorem Lq.size (h : Lq w W d g ta tb PA PB kb vA vO al one) : w.heap.size + 1 ≤ W.heap.size := by
  obtain ⟨ba, bb, ma, mb, k, Ta, Tb, vPa, vRa, vPb, vRb, Pa, Pb, Ra, Rb, hs, r⟩ := h
  have := hs.box.lt
  omega
theorem Lq.lenB (h : Lq w W d g ta tb PA PB kb vA vO al one) : PB.length ≤ kb ∧ PA.length ≤ 1048576 := by
  obtain ⟨ba, bb, ma, mb, k, Ta, Tb, vPa, vRa, vPb, vRb, Pa, Pb, Ra, Rb, hs, h1, h2, _, _, _, h3, h4⟩ := h
  rw [← h2, ← h1, List.length_map, List.length_map]
  exact ⟨h3, h4⟩
/-- one more thing in the row of all -/
theorem Lq.moreA {v : Value} {o : Obj} {p : At} (h : Lq w W d g ta tb PA PB kb vA vO al one) (hg : (W.alloc o).grownBy W' vA.ownBlock) (hown : W'.ownsRow (w.heap.size + 1) 35 3 v (al.length + 1) (ocs al ++ oc p)) (hat : v.ownBlock = vA.ownBlock ∨ v.ownBlock = some (W.alloc o).heap.size) :
    Lq w W' d g ta tb PA PB kb v vO (al ++ [p]) one := by
  obtain ⟨ba, bb, ma, mb, k, Ta, Tb, vPa, vRa, vPb, vRb, Pa, Pb, Ra, Rb, hs, r⟩ := h
  refine ⟨ba, bb, ma, mb, k, Ta, Tb, vPa, vRa, vPb, vRb, Pa, Pb, Ra, Rb, hs.setA (((Only.refl _ W).alloc o).trans (Only.of_grown hg fun j e => .inl e) fun j e => .inl e) ?_ (hat.imp (fun e => e) fun e => ⟨_, e, by simp⟩), r⟩
  rw [List.length_append, List.length_singleton, show ocs (al ++ [p]) = ocs al ++ oc p by simp [ocs]]
  exact hown
theorem Lq.moreO {v : Value} {o : Obj} {p : At} (h : Lq w W d g ta tb PA PB kb vA vO al one) (hg : (W.alloc o).grownBy W' vO.ownBlock) (hown : W'.ownsRow (w.heap.size + 1) 35 3 v (one.length + 1) (ocs one ++ oc p)) (hat : v.ownBlock = vO.ownBlock ∨ v.ownBlock = some (W.alloc o).heap.size) :
    Lq w W' d g ta tb PA PB kb vA v al (one ++ [p]) := by
  obtain ⟨ba, bb, ma, mb, k, Ta, Tb, vPa, vRa, vPb, vRb, Pa, Pb, Ra, Rb, hs, r⟩ := h
  refine ⟨ba, bb, ma, mb, k, Ta, Tb, vPa, vRa, vPb, vRb, Pa, Pb, Ra, Rb, hs.setO (((Only.refl _ W).alloc o).trans (Only.of_grown hg fun j e => .inl e) fun j e => .inl e) ?_ (hat.imp (fun e => e) fun e => ⟨_, e, by simp⟩), r⟩
  rw [List.length_append, List.length_singleton, show ocs (one ++ [p]) = ocs one ++ oc p by simp [ocs]]
  exact hown
theorem Lq.insert {q : Int × Kept} (h : Lq w W d g ta tb PA PB kb vA vO al one) (hq : (Lit.int .u64 q.1).wf = true) (hb : Bf q.2.x) (hv : Sl w w.heap.size q.2.A (iv q.2.x.vec)) (hk : kb ≤ 60) (a : Option Addr) :
    Calls Tryz.prog 20 #[.pointer (some ⟨tb, 0, none⟩), .agg #[.int .u64 q.1, .int .i64 q.2.x.tag, .slice q.2.A q.2.x.vec.length q.2.c, .string q.2.x.str], .pointer a] W fun e w' => ∃ f : Bool, e = .returned (.int .i64 (if f then 0 else 4)) ∧
      Lq w w' d g ta tb PA (if f && moreT d.n d.most PB q.2.x then PB ++ [q.2.x] else PB) (kb + 1) vA vO al one := by
  obtain ⟨ba, bb, ma, mb, k, Ta, Tb, vPa, vRa, vPb, vRb, Pa, Pb, Ra, Rb, hs, h1, h2, h3, h4, h5, h6, h7⟩ := h
  refine (insert_any (x := ⟨q.2.A, q.2.c, q.2.x⟩) hs.b hq hb ((hv.below hs.low).more hs.low.size) a (by omega) (by omega) ⟨h3, by omega⟩).mono fun e w' ⟨he, k', vP', vR', T', P', R', hT, hk1, hk2, hy, hn, hO, hT'⟩ => ?_
  have hl : R'.length ≤ kb + 1 ∧ P'.length ≤ kb + 1 := by
    cases hc : (ids Rb).contains q.1 with
    | true =>
      have a1 := congrArg List.length (hy hc).1
      have a2 := congrArg List.length (hy hc).2
      simp at a1 a2
      omega
    | false =>
      have a1 := congrArg List.length (hn hc).1
      have a2 := congrArg List.length (hn hc).2
      simp at a2
      split at a1
      · simp at a1; omega
      · simp at a1; omega
  refine ⟨!(ids Rb).contains q.1, ?_, ba, bb, ma, mb, k', Ta, T', vPa, vRa, vP', vR', Pa, P', Ra, R', hs.setB hT hO hT', h1, ?_, by omega, by omega, hl.1, hl.2, h7⟩
  · rw [he]
    cases (ids Rb).contains q.1 <;> rfl
  · cases hc : (ids Rb).contains q.1 with
    | true => rw [(hy hc).1, h2]; rfl
    | false => rw [(hn hc).1, more_T, h2]; simp
theorem Lq.pivA (h : Lq w W d g ta tb PA PB kb vA vO al one) : Calls Tryz.prog 14 #[.pointer (some ⟨ta, 0, none⟩)] W fun e w' => ∃ A c l, e = .returned (.slice A PA.length c) ∧ w'.ownsRow W.heap.size 35 3 (.slice A PA.length c) PA.length (ocs l) ∧ l.map At.x = PA ∧ OwT W.heap.size w' l ∧ Below W.heap.size W w' := by
  obtain ⟨ba, bb, ma, mb, k, Ta, Tb, vPa, vRa, vPb, vRb, Pa, Pb, Ra, Rb, hs, h1, h2, h3, h4, h5, h6, h7⟩ := h
  refine (pivots_any hs.a h7).mono fun e w' ⟨A, c, l, he, g1, g2, g3, g4⟩ => ⟨A, c, l, ?_, ?_, g2.trans h1, g3, g4⟩
  · rw [he, ← h1, List.length_map]
  · rw [← h1, List.length_map]; exact g1
theorem Lq.pivB (h : Lq w W d g ta tb PA PB kb vA vO al one) (hk : kb ≤ 1048576) : Calls Tryz.prog 14 #[.pointer (some ⟨tb, 0, none⟩)] W fun e w' => ∃ A c l, e = .returned (.slice A PB.length c) ∧ w'.ownsRow W.heap.size 35 3 (.slice A PB.length c) PB.length (ocs l) ∧ l.map At.x = PB ∧ OwT W.heap.size w' l ∧ Below W.heap.size W w' := by
  obtain ⟨ba, bb, ma, mb, k, Ta, Tb, vPa, vRa, vPb, vRb, Pa, Pb, Ra, Rb, hs, h1, h2, h3, h4, h5, h6, h7⟩ := h
  refine (pivots_any hs.b (by omega)).mono fun e w' ⟨A, c, l, he, g1, g2, g3, g4⟩ => ⟨A, c, l, ?_, ?_, g2.trans h2, g3, g4⟩
  · rw [he, ← h2, List.length_map]
  · rw [← h2, List.length_map]; exact g1
/-- how bulk ends, and the pivots behind it -/
def fe0 (d : Dat) : Int := idx.fe (fun id => (ids []).contains id) (idx.ids d.l)
def cs0 (d : Dat) : List Int := chs (dt d.n (ths d.l)) U63 (ths d.l) d.most (draws.md (draws.nx d.raw 0) d.l.length)
def PA0 (d : Dat) : List Thing := if fe0 d = 0 then att d.l (cs0 d) else []
/-- two new tables -/
def L0 (w W : World) (d : Dat) (g ta tb : Nat) : Prop := ∃ (ba bb ma mb : Nat) (Ta Tb : Nat → Prop), LpS w W d g ta tb ba bb ma mb 0 Ta Tb (.slice none 0 0) (.slice none 0 0) (.slice none 0 0) (.slice none 0 0) [] [] [] [] (.slice none 0 0) (.slice none 0 0) [] []
theorem L0.on (h : L0 w W d g ta tb) (o : Below W.heap.size W W') : L0 w W' d g ta tb := by
  obtain ⟨ba, bb, ma, mb, Ta, Tb, hs⟩ := h
  exact ⟨ba, bb, ma, mb, Ta, Tb, hs.below o⟩
theorem L0.low (h : L0 w W d g ta tb) : Below w.heap.size w W := by
  obtain ⟨ba, bb, ma, mb, Ta, Tb, hs⟩ := h
  exact hs.low
theorem L0.bulk (h : L0 w W d g ta tb) (hy : Hyp w d) (hf : Fine d) {gs : Nat} {DS : Nat → Prop} {Dk : World → Prop} (hd : Dr (.pointer (some ⟨gs, 0, none⟩)) DS Dk d.l.length (draws.md (draws.nx d.raw 0) d.l.length)) (hk : Dk W') (hb : Below W.heap.size W W') (hDS : ∀ i, DS i → W.heap.size ≤ i ∧ i < W'.heap.size) :
    Calls Tryz.prog 18 #[.pointer (some ⟨ta, 0, none⟩), .slice d.A d.l.length d.c, .pointer (some ⟨gs, 0, none⟩)] W' fun e w' => e = .returned (.int .i64 (fe0 d)) ∧ Lq w w' d g ta tb (PA0 d) [] 0 (.slice none 0 0) (.slice none 0 0) [] [] := by
  obtain ⟨ba, bb, ma, mb, Ta, Tb, hs0⟩ := h
  have hs := hs0.below hb
  have hfew := hf.few
  have hg0 := hs0.g0
  have ha0 := hs0.a0
  have hws := hs0.box.lt
  have hT : ∀ i, (i = g ∨ Ta i ∨ DS i) → w.heap.size ≤ i := fun i e => by
    rcases e with e | e | e
    · omega
    · have := (hs0.a.low i e).1; omega
    · have := (hDS i e).1; omega
  have hits : Its W' (fun i => i = g ∨ Ta i ∨ DS i) d.A d.l := ⟨Away.fresh hy.row hs.low hT, fun q hq => Away.fresh (hy.vec q hq) hs.low hT⟩
  refine (bulk_any (c := d.c) hs.a hits hf.bf hy.wf hd hk (fun i e => ⟨fun e2 => ?_, (hDS i e).2⟩) (by simp; omega) (by simp; omega) ⟨by omega, by omega⟩).mono fun e w' ⟨he, k', vP', vR', T', P', R', g1, g2, g3, g4, g5, g6, g7⟩ => ⟨he, ba, bb, ma, mb, k', T', Tb, vP', vR', _, _, P', [], R', [], hs.setT g1 g6 g7 (fun i e => ⟨fun e2 => ?_, ?_⟩), ?_, rfl, g2, by omega, Nat.le_refl _, Nat.le_refl _, ?_⟩
  · have h1 := (hDS i e).1
    rcases e2 with e2 | e2
    · have := hs0.a.mt.lt; omega
    · have := (hs0.a.low i e2).2; omega
  · have h1 := (hDS i e).1
    have := (hs0.b.low i e2).2; omega
  · have h1 := (hDS i e).1
    omega
  · unfold PA0 fe0
    by_cases h0 : idx.fe (fun id => (ids []).contains id) (idx.ids d.l) = 0
    · rw [if_pos h0, (g4 h0).1, if_pos (show ([] : List At).length = 0 from rfl)]
      exact ptl_att _ _ _ _
    · rw [if_neg h0, (g5 h0).1]
      rfl
  · by_cases h0 : idx.fe (fun id => (ids []).contains id) (idx.ids d.l) = 0
    · have a1 := congrArg List.length (g4 h0).1
      rw [if_pos (show ([] : List At).length = 0 from rfl), ptl_att, att_length, List.length_map] at a1
      have hon : Once (dt d.n (ths d.l)) (ths d.l) (chs (dt d.n (ths d.l)) U63 (ths d.l) d.most (draws.md (draws.nx d.raw 0) d.l.length)) := chs_once (fun k hk => dt_self d.n _ k hk) _ _
      have := hon.len
      rw [ths_length] at this
      omega
    · have a1 := congrArg List.length (g5 h0).1
      simp at a1
      rw [a1]
      simp
/-! ### the document's answers -/
theorem brief_of (hf : Fine d) : Brief (ths d.l) := fun p hp => by
  obtain ⟨q, hq, rfl⟩ := List.mem_map.1 hp
  exact hf.bf q hq
theorem fe0_or (d : Dat) : fe0 d = 0 ∨ fe0 d = 4 := by
  unfold fe0 idx.fe
  split <;> simp
theorem cs0_len (d : Dat) : (cs0 d).length ≤ d.l.length := by
  have hon : Once (dt d.n (ths d.l)) (ths d.l) (cs0 d) := chs_once (fun k hk => dt_self d.n _ k hk) _ _
  have := hon.len
  rwa [ths_length] at this
theorem cs0_at (d : Dat) {i : Nat} (hi : i < (cs0 d).length) : ∃ j : Nat, ∃ hj : j < d.l.length, (cs0 d)[i] = (j : Int) ∧ (att d.l (cs0 d))[i]? = some (d.l[j]).2.x := by
  have hon : Once (dt d.n (ths d.l)) (ths d.l) (cs0 d) := chs_once (fun k hk => dt_self d.n _ k hk) _ _
  have h1 := hon.low _ (List.getElem_mem hi)
  rw [ths_length] at h1
  obtain ⟨j, hj⟩ : ∃ j : Nat, (cs0 d)[i] = (j : Int) := ⟨((cs0 d)[i]).toNat, by omega⟩
  have hjl : j < d.l.length := by omega
  refine ⟨j, hjl, hj, ?_⟩
  simp [att, hi, hj, ths, tho, List.getD, hjl]
/-- Choose of all, as the document does it -/
theorem Lq.choose (h : Lq w W d g ta tb PA PB kb vA vO (ths d.l) one) (hy : Hyp w d) (hf : Fine d) {A : Option Addr} {c : Nat} (hv : vA = .slice A d.l.length c) (hb : Below W.heap.size W W') :
    Calls Tryz.prog 23 #[.int .i64 d.n, .slice A d.l.length c, .int .i64 d.most, .int .i64 (draws.md (draws.nx d.raw 0) d.l.length)] W' fun e w' => ∃ A3 c3, e = .returned (.slice A3 (cs0 d).length c3) ∧ w'.ownsRow W'.heap.size 3 1 (.slice A3 (cs0 d).length c3) (cs0 d).length (nv (cs0 d)) ∧ Below W.heap.size W w' := by
  have h2 := (h.on hb).rows.1
  have hlow := (h.on hb).low
  rw [hv, ths_length] at h2
  have hts : Ts W' (fun _ => False) A (ths d.l) := ⟨fun j u hj => by
    obtain ⟨ad, e, hb2, hc⟩ := Sl.of_ownK h2 j u hj
    exact ⟨ad, e, hb2, fun e => e, hc⟩, fun p hp => by
    obtain ⟨q, hq, rfl⟩ := List.mem_map.1 hp
    exact Away.fresh (hy.vec q hq) hlow fun i e => e.elim⟩
  have hbr := brief_of hf
  have hdt : ∀ c : Int, ∀ x ∈ ths d.l, dt d.n (ths d.l) c x ≤ 281474976710656 := fun c x hx => hbr.dt_le d.n c hx
  have hcs : chs (dt d.n (ths d.l)) U50 (ths d.l) d.most (draws.md (draws.nx d.raw 0) d.l.length) = cs0 d :=
    chs_start (fun c x hx => Int.le_trans (hdt c x hx) (by decide)) (fun c x hx => Int.le_trans (hdt c x hx) (by decide)) (by decide) (by decide) _ _
  have hr := rchoose_any W' (fun _ => False) d.n A c (ths d.l) d.most (draws.md (draws.nx d.raw 0) d.l.length) hts hbr (by rw [ths_length]; have := hf.few; omega)
  rw [hcs, ths_length] at hr
  exact hr.mono fun e w' ⟨A3, c3, he, ho, hb2⟩ => ⟨A3, c3, he, ho, hb.trans (hb2.mono hb.size)⟩
/-- the document's Near, of those put in -/
theorem Lq.near (h : Lq w W d g ta tb PA PB kb vA vO al one) (hb : Below W.heap.size W W') {A : Option Addr} {c : Nat} (hv : vO = .slice A one.length c) (hob : ∀ p ∈ one, Bf p.x ∧ Sl w w.heap.size p.a (iv p.x.vec)) {q : Int × Kept} (hq : Bf q.2.x) (hqv : Sl w w.heap.size q.2.A (iv q.2.x.vec)) {A' : Option Addr} {c' : Nat} (hs : Sl W' W'.heap.size A' (nv (rng one.length))) (hl : one.length ≤ 1048576) :
    Calls Tryz.prog 21 #[.int .i64 d.n, .slice A one.length c, .slice A' one.length c', .agg #[.int .i64 q.2.x.tag, .slice q.2.A q.2.x.vec.length q.2.c, .string q.2.x.str]] W' fun e w' => e = .returned (.int .i64 (pv.nr (dt d.n one) U50 (rng one.length) (tho q))) ∧ Below W.heap.size W w' := by
  have h2 := (h.on hb).rows.2
  have hlow := (h.on hb).low
  rw [hv] at h2
  have hts : Ts W' (fun _ => False) A one := ⟨fun j u hj => by
    obtain ⟨ad, e, hb2, hc⟩ := Sl.of_ownK h2 j u hj
    exact ⟨ad, e, hb2, fun e => e, hc⟩, fun p hp => Away.fresh (hob p hp).2 hlow fun i e => e.elim⟩
  have hn := near_any W' (fun _ => False) d.n A c one A' c' (rng one.length) (tho q) hts hs ((hqv.below hlow).more hlow.size) (fun p hp => (hob p hp).1.small) hq.small hl (by rw [rng_length]; exact hl)
  rw [ins_all rng_in, rng_length] at hn
  exact hn.mono fun e w' ⟨he, hb2⟩ => ⟨he, hb.trans (hb2.mono hb.size)⟩
end
end Go.Proofs.YtgbjpobgjmkjgaaGreat.tab
/-
  The argument of the law LaesaPivots as it comes in.
-/
namespace Go.Proofs.YtgbjpobgjmkjgaaGreat.tab
open Go.RowKit law bytes only flat nums ord obj metric came
open aro (Kept zK)
open store (iE RI item_in item_fit Lie)
open Go.ChangeShapes Go.WideShapes Go.Deep Go.ChangeAt
set_option linter.unusedVariables false
set_option maxRecDepth 100000

section
variable {H : Type} {enc : TypeId × Value → H} {P : Program} {w : World} {base : Nat} {held : Bool}
theorem first_wf {fuel : Nat} {t : TypeId} {f0 f1 : Field} {cs : List Value} {y : DataW H × List MemPlace} (ht : P.underlying t = some (.struct #[f0, f1])) (hoff : f0.offset = 0) (hsz : P.cellsOf f0.type = 1)
    (k0 : P.underlying f0.type = some (.int .u64)) (h : DataW.trod enc P w base (fun _ => true) held fuel t cs = some y) {id : Int} {r : List Value} (hcs : cs = .int .u64 id :: r) : (Lit.int .u64 id).wf = true := by
  obtain ⟨xs, n, _, hx, hl, hlen, hg⟩ := DataW.trod_struct ht h
  match xs, hlen with
  | [y0, y1], _ =>
    have g0 : DataW.trod enc P w base (fun _ => true) held n f0.type [.int .u64 id] = some y0 := by simpa [hoff, hsz, hcs] using hg 0 f0 rfl
    obtain ⟨m, e0, -, hw⟩ := DataW.trod_int k0 g0
    have e1 := List.singleton_inj.1 e0
    injection e1 with _ e2
    rw [e2]; exact hw
end
section
variable {H : Type} {enc : TypeId × Value → H} {W : World} {base b0 : Nat} {held : Bool}
/-- one and the same row reads one and the same -/
theorem iv_one {W : World} {B B' : Nat} {A : Option Addr} {xs ys : List Int} (h : Sl W B A (iv xs)) (h' : Sl W B' A (iv ys)) (hl : xs.length = ys.length) : xs = ys := by
  refine List.ext_getElem hl fun i h1 h2 => ?_
  obtain ⟨a, e, -, hc⟩ := h i _ (List.getElem?_eq_getElem (by simpa [iv] using h1))
  obtain ⟨a', e', -, hc'⟩ := h' i _ (List.getElem?_eq_getElem (by simpa [iv] using h2))
  rw [e] at e'
  injection e' with e'
  subst e'
  rw [hc] at hc'
  injection hc' with hc'
  simpa [iv] using hc'
theorem obj_in (fuel : Nat) (cs : List Value) (y : DataW H × List MemPlace) (h : DataW.trod enc Tryz.prog W base (fun _ => true) held fuel 35 cs = some y) : ∃ p : At, cs = oc p ∧ Lies W p :=
  metric.cells_obj Tryz.underlying35 (by kernel_rfl) (by kernel_rfl) Tryz.underlying3 Tryz.underlying33 Tryz.underlying21 (by kernel_rfl) Tryz.underlying9 h
theorem obj_of {t : TypeId} {f0 f1 : Field} {R : At → Prop} {fuel : Nat} {cs : List Value} {y : DataW H × List MemPlace} (ht : Tryz.prog.underlying t = some (.struct #[f0, f1])) (hC : Tryz.prog.cellsOf t = 4) (hoff : f1.offset = 1) (hsz : Tryz.prog.cellsOf f1.type = 3)
    (k : ∀ (fuel : Nat) (cs : List Value) (y : DataW H × List MemPlace), DataW.trod enc Tryz.prog W base (fun _ => true) held fuel f1.type cs = some y → ∃ p : At, cs = oc p ∧ R p)
    (h : DataW.trod enc Tryz.prog W base (fun _ => true) held fuel t cs = some y) : ∃ c0 p, cs = c0 :: oc p ∧ R p := by
  obtain ⟨xs, n, _, hx, hl, hlen, hg⟩ := DataW.trod_struct ht h
  match cs, hl.trans hC with
  | [c0, c1, c2, c3], _ =>
    match xs, hlen with
    | [y0, y1], _ =>
      have g1 : DataW.trod enc Tryz.prog W base (fun _ => true) held n f1.type [c1, c2, c3] = some y1 := by simpa [hoff, hsz] using hg 1 f1 rfl
      obtain ⟨p, e, hR⟩ := k _ _ _ g1
      exact ⟨c0, p, by rw [← e], hR⟩
theorem item_bd (fuel : Nat) (cs : List Value) (y : DataW H × List MemPlace) (h : DataW.trod enc Tryz.prog W base (fun _ => true) held fuel 37 cs = some y) : ∃ c0 p, cs = c0 :: oc p ∧ Lies W p :=
  obj_of Tryz.underlying37 (by kernel_rfl) (by kernel_rfl) (by kernel_rfl) obj_in h
/-- a row of items that came in -/
theorem open_itemsB {r : Reach} {ts : List TypeId} {ds : List (DataW H)} {j : Nat} {v : Value} {d : DataW H} {p : List MemPlace} (hv : Value.okWide Tryz.prog W r b0 38 v) (h : DataW.Trod enc Tryz.prog W base (fun _ => true) held 38 v d p)
    (hsz : (DataW.weightsEach Tryz.prog ts ds).all (· ≤ reachBytes) = true) (hj : ts[j]? = some 38) (hdj : ds[j]? = some d) :
    ∃ A c, ∃ l : List (Int × Kept), v = .slice A l.length c ∧ Came 4 iE W A l ∧ Lie W W.heap.size l ∧ idx.Wf l ∧ (∀ q ∈ l, dist.Bd q.2.x.vec) ∧ l.length * 56 ≤ 140737488351232 := by
  have k : ∀ (fuel : Nat) (cs : List Value) (y : DataW H × List MemPlace), DataW.trod enc Tryz.prog W base (fun _ => true) held fuel 37 cs = some y → ∃ a : Int × Kept, cs = iE a ∧ (RI W a y.1 ∧ (Lit.int .u64 a.1).wf = true ∧ dist.Bd a.2.x.vec) := fun fuel cs y h => by
    obtain ⟨a, e, hR⟩ := item_in fuel cs y h
    obtain ⟨c0, p, e2, hs2, hbd⟩ := item_bd fuel cs y h
    refine ⟨a, e, hR, first_wf Tryz.underlying37 (by kernel_rfl) (by kernel_rfl) Tryz.underlying32 h e, ?_⟩
    obtain ⟨d0, d1, -, hs1, -⟩ := hR
    rw [e] at e2
    simp only [iE, oc, List.cons.injEq, Value.slice.injEq] at e2
    obtain ⟨-, -, ⟨eA, el, -⟩, -⟩ := e2
    rw [← eA] at hs2
    rw [iv_one hs1 hs2 el]
    exact hbd.2
  obtain ⟨A, cap, l, rfl, hr, hd⟩ := open_rowD (N := 4) (R := fun a d => RI W a d ∧ (Lit.int .u64 a.1).wf = true ∧ dist.Bd a.2.x.vec) Tryz.underlying38 (by kernel_rfl) k hv h
  refine ⟨A, cap, l, rfl, hr, ?_⟩
  rcases hd with rfl | ⟨el, sp, rfl, hle, hR⟩
  · exact ⟨fun p hp => by simp at hp, fun p hp => by simp at hp, fun p hp => by simp at hp, by simp⟩
  · refine ⟨fun p hp => ?_, fun p hp => ?_, fun p hp => ?_, ?_⟩
    · obtain ⟨i, hi, rfl⟩ := List.getElem_of_mem hp
      obtain ⟨x, hx, hRI, -⟩ := hR i hi
      exact ⟨by obtain ⟨d0, d1, -, h1⟩ := hRI; exact h1.1, item_fit hRI (weighs_slice hsz hj hdj Tryz.underlying38 hx)⟩
    · obtain ⟨i, hi, rfl⟩ := List.getElem_of_mem hp
      obtain ⟨x, hx, -, hw, -⟩ := hR i hi
      exact hw
    · obtain ⟨i, hi, rfl⟩ := List.getElem_of_mem hp
      obtain ⟨x, hx, -, -, hw⟩ := hR i hi
      exact hw
    · have h2 := sized_slice hsz hj hdj Tryz.underlying38
      have hr : reachBytes = 140737488351232 := by decide
      rw [show Tryz.prog.bytesOf 37 = 56 from by kernel_rfl, hr] at h2
      omega
/-- what is to be done, by value: four cells -/
theorem open_run {r : Reach} {v : Value} {d : DataW H} {p : List MemPlace} (hval : Value.okWide Tryz.prog W r b0 24 v) (h : DataW.Trod enc Tryz.prog W base (fun _ => true) held 24 v d p) : ∃ (n s m : Int) (A : Option Addr) (k c : Nat), v = .agg #[.int .i64 n, .int .i64 s, .int .i64 m, .slice A k c] := by
  obtain ⟨cs, rfl, hsz⟩ := okWide_struct Tryz.underlying24 hval
  obtain ⟨fuel, hf⟩ := h
  obtain ⟨xs, n, _, hx, hl, hlen, hg⟩ := DataW.trod_struct Tryz.underlying24 hf
  have hl4 : (Value.cells (.agg cs)).toList.length = 4 := hl.trans (by kernel_rfl)
  have hcs : (Value.cells (.agg cs)).toList = cs.toList := rfl
  rw [hcs] at hl4 hg
  obtain ⟨L, hL⟩ : ∃ L, cs.toList = L := ⟨_, rfl⟩
  rw [hL] at hl4 hg
  match L, hl4, xs, hlen with
  | [c0, c1, c2, c3], _, [y0, y1, y2, y3], _ =>
    have g0 : DataW.trod enc Tryz.prog W base (fun _ => true) held n 3 [c0] = some y0 := hg 0 _ rfl
    have g1 : DataW.trod enc Tryz.prog W base (fun _ => true) held n 3 [c1] = some y1 := hg 1 _ rfl
    have g2 : DataW.trod enc Tryz.prog W base (fun _ => true) held n 3 [c2] = some y2 := hg 2 _ rfl
    have g3 : DataW.trod enc Tryz.prog W base (fun _ => true) held n 22 [c3] = some y3 := hg 3 _ rfl
    obtain ⟨n0, e0, -, -⟩ := DataW.trod_int Tryz.underlying3 g0
    obtain ⟨p0, e1, -, -⟩ := DataW.trod_int Tryz.underlying3 g1
    obtain ⟨f0, e2, -, -⟩ := DataW.trod_int Tryz.underlying3 g2
    have h3 : ∃ A k c, c3 = .slice A k c := by
      rcases open_slice Tryz.underlying22 g3 with ⟨hcs, -⟩ | ⟨a, len, cap, m, n, D, Pl, hcs, -⟩
      · exact ⟨_, _, _, List.singleton_inj.1 hcs⟩
      · exact ⟨_, _, _, List.singleton_inj.1 hcs⟩
    obtain ⟨A, kk, c, e3⟩ := h3
    refine ⟨n0, p0, f0, A, kk, c, ?_⟩
    have h0 := List.singleton_inj.1 e0
    have h1 := List.singleton_inj.1 e1
    have h2 := List.singleton_inj.1 e2
    subst h0 h1 h2 e3
    rw [show cs = (cs.toList).toArray from by simp, hL]
end
end Go.Proofs.YtgbjpobgjmkjgaaGreat.tab
