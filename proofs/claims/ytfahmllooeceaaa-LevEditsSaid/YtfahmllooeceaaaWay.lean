/-
  Program-free for the most part: a text of bytes in memory of the call's own, that came of a string (its row bears a mark behind its end), and appends of one byte to it.
-/
import Derived.Test.YtfahmllooeceaaaTrim
import Derived.Test.YtfahmllooeceaaaShelf
import Derived.Laws.IdiomStrings
import Derived.Laws.IdiomCopy
namespace Go.Proofs.Ytfahmllooeceaaa.lev
open Go.RowKit law bytes
set_option linter.unusedVariables false

/-- a slice of just these bytes, in memory from base on -/
def Txt (w : World) (base : Nat) (v : Value) (xs : List UInt8) : Prop :=
  ∃ (g cap : Nat) (t : TypeId) (cs : Array Value) (fz : Nat × Nat), v = .slice (some ⟨g, 0, none⟩) xs.length cap ∧ base ≤ g ∧ w.heap[g]? = some (.cells cs t fz) ∧ (∀ i, i < cs.size → ¬ (fz.1 ≤ i ∧ i < fz.2)) ∧
    xs.length ≤ cap ∧ cap ≤ cs.size ∧ ∀ j (hj : j < xs.length), cs[j]? = some (.int .u8 (xs[j].toNat : Int))
section
variable {w w' : World} {base : Nat} {v : Value} {xs : List UInt8}
theorem Txt.own (h : Txt w base v xs) : ∃ g, v.ownBlock = some g ∧ base ≤ g ∧ g < w.heap.size := by
  obtain ⟨g, cap, t, cs, fz, rfl, hb, hh, _⟩ := h
  exact ⟨g, rfl, hb, (Array.getElem?_eq_some_iff.1 hh).1⟩
theorem Txt.form (h : Txt w base v xs) : ∃ A c, v = .slice A xs.length c := by obtain ⟨g, cap, t, cs, fz, rfl, _⟩ := h; exact ⟨_, _, rfl⟩
theorem Txt.mono {b' : Nat} (h : Txt w base v xs) (hb : b' ≤ base) : Txt w b' v xs := by
  obtain ⟨g, cap, t, cs, fz, hv, h1, r⟩ := h; exact ⟨g, cap, t, cs, fz, hv, by omega, r⟩
theorem Txt.grown {row : Option Nat} (h : Txt w base v xs) (hg : w.grownBy w' row) (hne : v.ownBlock ≠ row) : Txt w' base v xs := by
  obtain ⟨g, cap, t, cs, fz, rfl, hb, hh, r⟩ := h
  exact ⟨g, cap, t, cs, fz, rfl, hb, by rw [hg.block g (Array.getElem?_eq_some_iff.1 hh).1 hne]; exact hh, r⟩
theorem Txt.below {B : Nat} (h : Txt w base v xs) (hb : Below B w w') (hB : w.heap.size ≤ B) : Txt w' base v xs := by
  obtain ⟨g, cap, t, cs, fz, rfl, hbb, hh, r⟩ := h
  exact ⟨g, cap, t, cs, fz, rfl, hbb, by rw [hb.block g (Nat.lt_of_lt_of_le (Array.getElem?_eq_some_iff.1 hh).1 hB)]; exact hh, r⟩
theorem Txt.same (h : Txt w base v xs) (hh : w'.heap = w.heap) : Txt w' base v xs := by
  obtain ⟨g, cap, t, cs, fz, hv, hb, hg, r⟩ := h
  exact ⟨g, cap, t, cs, fz, hv, hb, by rw [hh]; exact hg, r⟩
theorem Txt.alloc (h : Txt w base v xs) (o : Obj) : Txt (w.alloc o) base v xs := by
  obtain ⟨g, cap, t, cs, fz, rfl, hb, hh, r⟩ := h
  exact ⟨g, cap, t, cs, fz, rfl, hb, by rw [Below.heap_alloc w o g (Array.getElem?_eq_some_iff.1 hh).1]; exact hh, r⟩
theorem Txt.cellAt {g c n : Nat} (h : Txt w base (.slice (some ⟨g, 0, none⟩) n c) xs) (j : Nat) (hj : j < xs.length) : w.cell? ((⟨g, 0, none⟩ : Addr).add j) = some (.int .u8 (xs[j].toNat : Int)) := by
  obtain ⟨g', cap, t, cs, fz, hv, hb, hh, _, _, _, hc⟩ := h
  injection hv with hg
  injection hg with hg
  injection hg with hg
  subst hg
  have hadd : (⟨g, 0, none⟩ : Addr).add j = ⟨g, j, none⟩ := by unfold Addr.add; split <;> simp_all
  rw [hadd]
  have : w.cell? ⟨g, j, none⟩ = cs[j]? := by simp [World.cell?, hh]
  rw [this, hc j hj]
end
/-- '[]byte(s)' -/
theorem way_conv {Pr : Program} (w : World) (src dst e : TypeId) (s : ByteArray) (hs : Pr.underlying src = some .string) (hd : Pr.underlying dst = some (.slice e)) (he : Pr.underlying e = some (.int .u8)) :
    ∃ v w', (convert src dst (.string s)).run Pr w = .ok v w' ∧ Txt w' w.heap.size v (bl s) ∧ Below w.heap.size w w' := by
  have hge := grownCap_ge w s.size 0 e
  refine ⟨_, _, run_bytes_of_string w src dst e s hs hd he, ⟨w.heap.size, grownCap w s.size 0 e, e, _, _, by rw [bl_len], Nat.le_refl _, heap_alloc_new w.drew _, fun i hi h => by omega, by rw [bl_len]; exact hge, ?_, fun j hj => ?_⟩, (below_drewN' (Below.refl _ _) 1).alloc (Nat.le_refl _) _⟩
  · simp [bytesRow]; omega
  · exact bytesRow_at s _ j (by rw [bl_len] at hj; exact hj)
/-- 'string(v)' -/
theorem way_back {Pr : Program} {w : World} {base : Nat} {v : Value} {xs : List UInt8} (h : Txt w base v xs) (src dst e : TypeId) (hs : Pr.underlying src = some (.slice e)) (he : Pr.underlying e = some (.int .u8)) (hd : Pr.underlying dst = some .string) :
    (convert src dst v).run Pr w = .ok (.string (of xs)) w := by
  have h2 := h
  obtain ⟨g, cap, t, cs, fz, rfl, _⟩ := h2
  exact run_convert_bytes_back w src dst e ⟨g, 0, none⟩ cap xs hs he hd fun j hj => h.cellAt j hj
/-- 'append(v, x)' -/
theorem way_append {Pr : Program} {w : World} {base : Nat} {v : Value} {xs : List UInt8} (h : Txt w base v xs) (hbase : base ≤ w.heap.size) (t ty e : TypeId) (ht : Pr.underlying t = some (.slice e)) (he : Elem Pr e (.int .u8 0) 1)
    (ad : Addr) (c : Nat) (x : UInt8) (hx : w.cell? ad = some (.int .u8 (x.toNat : Int))) (hl : xs.length ≤ 1048576) :
    ∃ v' w', (Builtin.append_ #[t, t] ty #[v, .slice (some ad) 1 c]).run Pr w = .ok v' w' ∧ Txt w' base v' (xs ++ [x]) ∧ w.grownBy w' v.ownBlock ∧ (v'.ownBlock = v.ownBlock ∨ v'.ownBlock = some w.heap.size) := by
  obtain ⟨i, hi, hz, hsize, hby, hzs⟩ := he
  have hnews : ∀ j u, [Value.int .u8 (x.toNat : Int)][j]? = some u → w.cell? (ad.add j) = some u := fun j u hj => by
    rcases j with _ | j
    · simp at hj
      subst hj
      have : ad.add 0 = ad := by simp [Addr.add]
      rw [this]; exact hx
    · simp at hj
  have h2 := h
  obtain ⟨g, cap, t', cs, fz, rfl, hb, hh, hfz, hlc, hcc, hcs⟩ := h2
  have hlt := (Array.getElem?_eq_some_iff.1 hh).1
  by_cases hroom : xs.length + 1 ≤ cap
  · have hf := run_firstCells_some (P := Pr) w i.size 1 ad 1 c [.int .u8 (x.toNat : Int)] (by rw [hsize]; rfl) hnews
    have hcell : w.cell? ⟨g, xs.length, none⟩ = some cs[xs.length] := by simp [World.cell?, hh]
    have hfr : w.frozen? ⟨g, xs.length, none⟩ = false := by
      have := hfz xs.length (by omega)
      unfold World.frozen?
      rw [hh]
      simp only [Bool.and_eq_false_iff, decide_eq_false_iff_not]
      by_cases h1 : fz.1 ≤ xs.length
      · right; omega
      · left; exact h1
    have hst := run_storeCells_cells (P := Pr) g (xs.length * i.size) [.int .u8 (x.toNat : Int)] 0 w (fun j hj => by
        obtain rfl : j = 0 := by simpa using hj
        simp only [hsize, Nat.mul_one, Nat.add_zero]; rw [hcell]; rfl) (fun j hj => by
        obtain rfl : j = 0 := by simpa using hj
        simp only [hsize, Nat.mul_one, Nat.add_zero]; exact hfr) (fun u hu => by simp at hu; subst hu; rfl)
    refine ⟨.slice (some ⟨g, 0, none⟩) (xs.length + 1) cap, w.setCells g (xs.length * i.size + 0) [.int .u8 (x.toNat : Int)], ?_, ?_, ?_, .inl rfl⟩
    · simp [Builtin.append_, run_underlying ht, sizeOf, typeInfo, hi, Builtin.lenOf, hroom, hf, Addr.add_lit, hst]
    · simp only [hsize, Nat.mul_one, Nat.add_zero]
      refine ⟨g, cap, t', cs.setIfInBounds xs.length (.int .u8 (x.toNat : Int)), fz, by simp, hb, ?_, by simpa using hfz, by simpa using hroom, by simpa using hcc, fun j hj => ?_⟩
      · show (w.setCell ⟨g, xs.length, none⟩ _).heap[g]? = _
        simp [World.setCell, Array.getElem?_modify, hh]
      · rw [Array.getElem?_setIfInBounds]
        by_cases hje : xs.length = j
        · subst hje
          rw [if_pos rfl, if_pos (by omega)]; simp
        · have hj2 : j < xs.length := by simp at hj; omega
          rw [if_neg hje, hcs j hj2, List.getElem_append_left hj2]
    · simp only [hsize, Nat.mul_one, Nat.add_zero]
      exact only_setCell (g := g) (only_refl w _) (p := ⟨g, xs.length, none⟩) (.inl rfl) _
  · have hcl : cap = xs.length := by omega
    subst hcl
    have holds : ∀ j u, (bv xs)[j]? = some u → w.cell? ((⟨g, 0, none⟩ : Addr).add j) = some u := fun j u hj => by
      have hjl : j < xs.length := by have := (List.getElem?_eq_some_iff.1 hj).1; rwa [bv_length] at this
      rw [h.cellAt j hjl, ← hj]
      simp [bv, hjl]
    have hr := run_append_grow (P := Pr) w t ty e i (.int .u8 0) ht hi hz ⟨g, 0, none⟩ xs.length xs.length (bv xs) (by rw [bv_length, hsize, Nat.mul_one]) holds ad 1 c [.int .u8 (x.toNat : Int)] (by rw [hsize]; rfl) hnews (by omega) (by omega) (growslice_fits (by omega) (by rw [hby]; omega))
    have hge := grownCap_ge w (xs.length + 1) xs.length e
    refine ⟨_, _, hr, ⟨w.heap.size, grownCap w (xs.length + 1) xs.length e, e, _, (0, 0), by simp, hbase, heap_alloc_new w.drew _, fun i hi h => by simp at h, by simpa using hge, ?_, fun j hj => ?_⟩, ⟨rfl, rfl, rfl, by simp, fun k hk _ => Below.heap_alloc w.drew _ k hk⟩, .inr rfl⟩
    · simp only [Array.size_append, List.size_toArray, size_zeroCells, bv_length, hzs, List.length_singleton]
      omega
    · rw [Array.getElem?_append_left (by simp [bv_length]; simpa using hj)]
      rw [show (bv xs).toArray ++ [Value.int .u8 (x.toNat : Int)].toArray = (bv (xs ++ [x])).toArray from by rw [bv_append]; simp [bv]]
      simp only [List.getElem?_toArray]
      unfold bv
      rw [List.getElem?_map, List.getElem?_eq_getElem hj]
      rfl
theorem wpList_append_way {Pr : Program} (w : World) {ops : Array Oper} {rest : List Oper} {o : Oper} {a : Act} {Q : Exit → Act → World → Prop} (hgd : o.guard = none) (s y : Operand) (t : TypeId)
    (ho : o.op = .call { callee := .builtin .append, args := #[s, y], argTypes := #[t, t] }) (base : Nat) (e : TypeId) (ht : Pr.underlying t = some (.slice e)) (he : Elem Pr e (.int .u8 0) 1)
    (v : Value) (xs : List UInt8) (hs : a.eval s = v) (hw : Txt w base v xs) (hbase : base ≤ w.heap.size) (ad : Addr) (c : Nat) (x : UInt8) (hy : a.eval y = .slice (some ad) 1 c) (hx : w.cell? ad = some (.int .u8 (x.toNat : Int))) (hl : xs.length ≤ 1048576)
    (h : ∀ v' w', Txt w' base v' (xs ++ [x]) → w.grownBy w' v.ownBlock → (v'.ownBlock = v.ownBlock ∨ v'.ownBlock = some w.heap.size) → wpList Pr ops Q rest (a.put o.dst v') w') : wpList Pr ops Q (o :: rest) a w := by
  obtain ⟨v', w', hr, h2, h3, h4⟩ := way_append (Pr := Pr) hw hbase t o.type e ht he ad c x hx hl
  refine wpList_plain hgd fun K hK => ?_
  unfold Oper.wp execOp
  simp only [ho, resolve, invoke, builtin, Sem.run_bind, Sem.run_pure, Result.andThen_ok, List.map_toArray, List.map_cons, List.map_nil, hs, hy, hr]
  exact hK _ _ (h v' w' h2 h3 h4)
theorem byteE : Elem Try.prog 5 (.int .u8 0) 1 := elem_mk (by kernel_rfl) rfl

/-! ### strings.Repeat of one byte -/
theorem repeatL_one_byte (c : UInt8) (n : Nat) : Lib.repeatL [c] n = List.replicate n c := by
  induction n with
  | zero => rfl
  | succ n ih => rw [Lib.repeatL, ih]; rfl
theorem rep_any (c : UInt8) (n : Nat) (hn : n ≤ 1048576) (w : World) :
    Calls Try.prog 26 #[.string ⟨#[c]⟩, .int .i64 n] w fun e w' => e = .returned (.string (of (List.replicate n c))) ∧ Below w.heap.size w w' := by
  rcases n with _ | _ | n
  · exact (Try.strings_Repeat_zero ⟨#[c]⟩ w).mono fun e w' ⟨he, hw⟩ => ⟨he, by rw [hw]; exact Below.refl _ _⟩
  · exact (Try.strings_Repeat_one ⟨#[c]⟩ w).mono fun e w' ⟨he, hw⟩ => ⟨he, by rw [hw]; exact Below.refl _ _⟩
  · have h := Try.strings_Repeat_main ⟨#[c]⟩ (n + 2) w (by omega) (by omega) (by show 1 * (n + 2) ≤ _; omega) (by show 0 < 1; omega)
    refine h.mono fun e w' ⟨he, hb⟩ => ⟨?_, hb⟩
    rw [he, ← repeatL_one_byte]
    rfl
end Go.Proofs.Ytfahmllooeceaaa.lev
