/-
  Program-free: parts that came in, by value and as rows.
-/
import Derived.Test.YtmaebebckbfjpaaWrite
import Derived.Test.YtmaebebckbfjpaaUpto
import Derived.Deep.Slices
import Derived.Deep.Fields
import Derived.ChangeSame
namespace Go.Proofs.Ytmaebebckbfjpaa.code
open Go.RowKit law bytes nums
open Go.ChangeShapes Go.WideShapes Go.Deep
section
variable {H : Type} {enc : TypeId × Value → H} {P : Program} {w : World} {base : Nat} {spare : Nat → Bool} {held : Bool}

/-- a struct of one-cell fields that lies in memory: each field's cell, and what it reads as -/
theorem struct_cells {e : TypeId} {fs : Array Field} {fuel : Nat} {at_ : Addr} {cs : List Value} {x : DataW H × List MemPlace} (he : P.underlying e = some (.struct fs)) (hone : oneCellFields P fs = true) (hC : P.cellsOf e = fs.size)
    (hc : w.cells? base at_ (P.cellsOf e) = some cs) (h : DataW.trod enc P w base spare held fuel e cs = some x) :
    ∃ (ys : List (DataW H × List MemPlace)) (n : Nat), x.1 = .agg (ys.map (·.1)) ∧ ys.length = fs.size ∧
      ∀ (j : Nat) (f : Field), fs[j]? = some f → ∃ (v : Value) (y : DataW H × List MemPlace), w.cell? (at_.add j) = some v ∧ ys[j]? = some y ∧ DataW.trod enc P w base spare held n f.type [v] = some y := by
  obtain ⟨ys, n, _, hx, hl, hy, hf⟩ := DataW.trod_struct he h
  obtain ⟨-, -, hat⟩ := World.cells?_some hc
  refine ⟨ys, n, by rw [hx], hy, fun j f hj => ?_⟩
  have hjs : j < fs.size := (Array.getElem?_eq_some_iff.1 hj).1
  have hjc : j < cs.length := by rw [hl, hC]; exact hjs
  have hjy : j < ys.length := by rw [hy]; exact hjs
  obtain ⟨ho, hk⟩ := hone_of hone j f hj
  have hr := hf j f hj
  rw [ho, hk, List.drop_eq_getElem_cons hjc, List.getElem?_eq_getElem hjy] at hr
  refine ⟨cs[j], ys[j], ?_, List.getElem?_eq_getElem hjy, hr⟩
  rw [hat j (by rw [hC]; exact hjs), List.getElem?_eq_getElem hjc]


theorem bulk_mem {d : DataW H} {l : List (DataW H)} (h : d ∈ l) : Rows.uptoBulk d ≤ Rows.uptoBulkAll l := by
  induction l with
  | nil => cases h
  | cons x r ih =>
    simp only [Rows.uptoBulkAll]
    rcases List.mem_cons.1 h with rfl | h
    · omega
    · have := ih h; omega
theorem bulk_append (l m : List (DataW H)) : Rows.uptoBulkAll (l ++ m) = Rows.uptoBulkAll l + Rows.uptoBulkAll m := by
  induction l with
  | nil => simp [Rows.uptoBulkAll]
  | cons x r ih => simp only [List.cons_append, Rows.uptoBulkAll, ih]; omega
theorem list_of {α : Type} {R : Nat → α → Prop} {n : Nat} (h : ∀ i, i < n → ∃ q, R i q) : ∃ l : List α, l.length = n ∧ ∀ i, i < n → ∀ hi : i < l.length, R i l[i] := by
  induction n with
  | zero => exact ⟨[], rfl, fun i hi => absurd hi (by omega)⟩
  | succ n ih =>
    obtain ⟨l, hl, hR⟩ := ih (fun i hi => h i (by omega))
    obtain ⟨q, hq⟩ := h n (by omega)
    refine ⟨l ++ [q], by simp [hl], fun i hi hi2 => ?_⟩
    rcases Nat.lt_or_ge i l.length with hlt | hge
    · rw [List.getElem_append_left hlt]; exact hR i (by omega) hlt
    · obtain rfl : i = n := by omega
      rw [List.getElem_append_right hge]
      simpa using hq
theorem sum_bulk (D : Nat → DataW H) (l : List Part) (h : ∀ i (hi : i < l.length), l[i].t.size + 1 ≤ Rows.uptoBulk (D i)) : (l.map fun q => q.t.size).sum + l.length ≤ Rows.uptoBulkAll ((List.range l.length).map D) := by
  have key : ∀ k, k ≤ l.length → ((l.take k).map fun q => q.t.size).sum + k ≤ Rows.uptoBulkAll ((List.range k).map D) := by
    intro k hk
    induction k with
    | zero => simp
    | succ k ih =>
      have h1 := ih (by omega)
      have h2 := h k (by omega)
      rw [List.take_succ_eq_append_getElem (by omega), List.range_succ, List.map_append, List.map_append, List.sum_append, bulk_append]
      simp only [List.map_cons, List.map_nil, List.sum_cons, List.sum_nil, Rows.uptoBulkAll]
      omega
  have := key l.length (Nat.le_refl _)
  rwa [List.take_length] at this
def Fit (p : Part) : Prop := Ok p ∧ (-9223372036854775808 ≤ p.low ∧ p.low ≤ 9223372036854775807) ∧ (-9223372036854775808 ≤ p.high ∧ p.high ≤ 9223372036854775807) ∧ (-9223372036854775808 ≤ p.most ∧ p.most ≤ 9223372036854775807)
theorem i64_bd {n : Int} (h : (Lit.int .i64 n).wf = true) : -9223372036854775808 ≤ n ∧ n ≤ 9223372036854775807 := by
  simpa [Lit.wf, IntKind.min, IntKind.max, IntKind.signed, IntKind.bits] using h
/-- eight cells that read as a part's fields are a part -/
theorem part_of {fs : Array Field} (k0 : ∃ f, fs[0]? = some f ∧ P.underlying f.type = some (.int .i64)) (k1 : ∃ f, fs[1]? = some f ∧ P.underlying f.type = some (.int .u64)) (k2 : ∃ f, fs[2]? = some f ∧ P.underlying f.type = some (.int .i64)) (k3 : ∃ f, fs[3]? = some f ∧ P.underlying f.type = some .bool) (k4 : ∃ f, fs[4]? = some f ∧ P.underlying f.type = some .string) (k5 : ∃ f, fs[5]? = some f ∧ P.underlying f.type = some (.int .i64)) (k6 : ∃ f, fs[6]? = some f ∧ P.underlying f.type = some (.int .i64)) (k7 : ∃ f, fs[7]? = some f ∧ P.underlying f.type = some (.int .i64))
    {ys : List (DataW H × List MemPlace)} {n : Nat} {C : Nat → Value → Prop}
    (h : ∀ (j : Nat) (f : Field), fs[j]? = some f → ∃ (v : Value) (y : DataW H × List MemPlace), C j v ∧ ys[j]? = some y ∧ DataW.trod enc P w base spare held n f.type [v] = some y) :
    ∃ p : Part, (∀ j u, (pcs p)[j]? = some u → C j u) ∧ Fit p ∧ p.t.size + 1 ≤ Rows.uptoBulk (.agg (ys.map (·.1)) : DataW H) := by
  obtain ⟨f0, g0, u0⟩ := k0
  obtain ⟨v0, y0, c0, e0, r0⟩ := h 0 f0 g0
  obtain ⟨x0, q0, -, w0⟩ := DataW.trod_int u0 r0
  obtain rfl := List.singleton_inj.1 q0
  obtain ⟨f1, g1, u1⟩ := k1
  obtain ⟨v1, y1, c1, e1, r1⟩ := h 1 f1 g1
  obtain ⟨x1, q1, -, w1⟩ := DataW.trod_int u1 r1
  obtain rfl := List.singleton_inj.1 q1
  obtain ⟨f2, g2, u2⟩ := k2
  obtain ⟨v2, y2, c2, e2, r2⟩ := h 2 f2 g2
  obtain ⟨x2, q2, -, w2⟩ := DataW.trod_int u2 r2
  obtain rfl := List.singleton_inj.1 q2
  obtain ⟨f3, g3, u3⟩ := k3
  obtain ⟨v3, y3, c3, e3, r3⟩ := h 3 f3 g3
  obtain ⟨x3, q3, -⟩ := DataW.trod_bool u3 r3
  obtain rfl := List.singleton_inj.1 q3
  obtain ⟨f4, g4, u4⟩ := k4
  obtain ⟨v4, y4, c4, e4, r4⟩ := h 4 f4 g4
  obtain ⟨x4, q4, z4, w4⟩ := DataW.trod_string u4 r4
  obtain rfl := List.singleton_inj.1 q4
  obtain ⟨f5, g5, u5⟩ := k5
  obtain ⟨v5, y5, c5, e5, r5⟩ := h 5 f5 g5
  obtain ⟨x5, q5, -, w5⟩ := DataW.trod_int u5 r5
  obtain rfl := List.singleton_inj.1 q5
  obtain ⟨f6, g6, u6⟩ := k6
  obtain ⟨v6, y6, c6, e6, r6⟩ := h 6 f6 g6
  obtain ⟨x6, q6, -, w6⟩ := DataW.trod_int u6 r6
  obtain rfl := List.singleton_inj.1 q6
  obtain ⟨f7, g7, u7⟩ := k7
  obtain ⟨v7, y7, c7, e7, r7⟩ := h 7 f7 g7
  obtain ⟨x7, q7, -, w7⟩ := DataW.trod_int u7 r7
  obtain rfl := List.singleton_inj.1 q7
  obtain ⟨N, rfl, hN⟩ := open_u64 w1
  refine ⟨⟨x0, N, x2, x3, x4, x5, x6, x7⟩, ?_, ⟨⟨hN, (i64_bd w2).1, (i64_bd w2).2⟩, i64_bd w5, i64_bd w6, i64_bd w7⟩, ?_⟩
  · intro j u hu
    match j, hu with
    | 0, hu => cases hu; exact c0
    | 1, hu => cases hu; exact c1
    | 2, hu => cases hu; exact c2
    | 3, hu => cases hu; exact c3
    | 4, hu => cases hu; exact c4
    | 5, hu => cases hu; exact c5
    | 6, hu => cases hu; exact c6
    | 7, hu => cases hu; exact c7
    | j + 8, hu => simp [pcs] at hu
  · have hm : y4.1 ∈ ys.map (·.1) := List.mem_map.2 ⟨y4, List.mem_of_getElem? e4, rfl⟩
    have hb := bulk_mem hm
    have h4 : Rows.uptoBulk y4.1 = x4.size + 1 := by rw [z4]; simp [Rows.uptoBulk]
    simp only [Rows.uptoBulk]
    omega

theorem open_parts {r : Reach} {b0 : Nat} {t e : TypeId} {fs : Array Field} {v : Value} {d : DataW H} {p : List MemPlace} (ht : P.underlying t = some (.slice e)) (he : P.underlying e = some (.struct fs)) (hone : oneCellFields P fs = true) (hC : P.cellsOf e = fs.size) (h8 : fs.size = 8)
    (k0 : ∃ f, fs[0]? = some f ∧ P.underlying f.type = some (.int .i64)) (k1 : ∃ f, fs[1]? = some f ∧ P.underlying f.type = some (.int .u64)) (k2 : ∃ f, fs[2]? = some f ∧ P.underlying f.type = some (.int .i64)) (k3 : ∃ f, fs[3]? = some f ∧ P.underlying f.type = some .bool) (k4 : ∃ f, fs[4]? = some f ∧ P.underlying f.type = some .string) (k5 : ∃ f, fs[5]? = some f ∧ P.underlying f.type = some (.int .i64)) (k6 : ∃ f, fs[6]? = some f ∧ P.underlying f.type = some (.int .i64)) (k7 : ∃ f, fs[7]? = some f ∧ P.underlying f.type = some (.int .i64))
    (hv : Value.okWide P w r b0 t v) (h : DataW.Trod enc P w base (fun _ => true) held t v d p) :
    ∃ A c l, v = .slice A l.length c ∧ l.length ≤ c ∧ Sl w w.heap.size A (pcl l) ∧ (∀ q ∈ l, Fit q) ∧ l.length + (l.map fun q => q.t.size).sum ≤ Rows.uptoBulk d ∧ ((l = [] ∧ d = .nil) ∨ ∃ el sp, d = .slice el sp ∧ el.length = l.length) := by
  obtain ⟨A, len, cap, rfl⟩ := okWide_slice ht hv
  obtain ⟨fuel, hf⟩ := h
  rcases open_slice ht hf with ⟨hcs, hx⟩ | ⟨a, len', cap', m, n, D, Pl, hcs, _, hl, hm, hmm, hx, hi⟩
  · simp [Value.cells] at hcs
    obtain ⟨rfl, rfl, rfl⟩ := hcs
    injection hx with hd hp
    exact ⟨none, 0, [], rfl, Nat.le_refl _, Sl.nil, by simp, by simp, .inl ⟨rfl, hd⟩⟩
  · simp [Value.cells] at hcs
    obtain ⟨rfl, rfl, rfl⟩ := hcs
    injection hx with hd hp
    simp only [if_true] at hmm
    have hex : ∀ i, i < len → ∃ q : Part, (∀ j u, (pcs q)[j]? = some u → w.cell? (a.add (i * 8 + j)) = some u) ∧ Fit q ∧ q.t.size + 1 ≤ Rows.uptoBulk (D i) := fun i hlt => by
      obtain ⟨cs', hc, hr⟩ := hi i (by omega)
      obtain ⟨ys, n', hD, hys, hfs⟩ := struct_cells he hone hC hc hr
      rw [hC, h8] at hfs
      have hD' : D i = .agg (ys.map (·.1)) := hD
      rw [hD']
      simp only [← Go.Deep.add_add]
      exact part_of k0 k1 k2 k3 k4 k5 k6 k7 hfs
    obtain ⟨l, hl2, hR⟩ := list_of hex
    refine ⟨some a, cap, l, by rw [hl2], by omega, ?_, ?_, ?_, .inr ⟨_, _, hd, by simp [hl2]⟩⟩
    · intro j u hj
      have hjl : j < (pcl l).length := (List.getElem?_eq_some_iff.1 hj).1
      rw [pcl_len] at hjl
      have hi8 : j / 8 < l.length := by omega
      have hat := pcl_at l (j / 8) (j % 8) hi8 (by omega)
      rw [show j / 8 * 8 + j % 8 = j from by omega] at hat
      have hc := (hR (j / 8) (by omega) hi8).1 (j % 8) u (hat.symm.trans hj)
      rw [show j / 8 * 8 + j % 8 = j from by omega] at hc
      refine ⟨a, rfl, ?_, hc⟩
      have := World.block_lt_of_cell? w _ hc
      rwa [blk_add] at this
    · intro q hq
      obtain ⟨i, hi2, rfl⟩ := List.getElem_of_mem hq
      exact (hR i (by omega) hi2).2.1
    · rw [hd]
      have hs : (l.map fun q => q.t.size).sum + l.length ≤ Rows.uptoBulkAll ((List.range len).map D) := by
        rw [← hl2]
        exact sum_bulk D l (fun i h => (hR i (by omega) h).2.2)
      simp only [Rows.uptoBulk]
      omega
/-- a part by value -/
theorem open_part {r : Reach} {b0 : Nat} {t : TypeId} {fs : Array Field} {v : Value} {d : DataW H} {p : List MemPlace} (ht : P.underlying t = some (.struct fs)) (hone : oneCellFields P fs = true) (hC : P.cellsOf t = fs.size) (h8 : fs.size = 8)
    (k0 : ∃ f, fs[0]? = some f ∧ P.underlying f.type = some (.int .i64)) (k1 : ∃ f, fs[1]? = some f ∧ P.underlying f.type = some (.int .u64)) (k2 : ∃ f, fs[2]? = some f ∧ P.underlying f.type = some (.int .i64)) (k3 : ∃ f, fs[3]? = some f ∧ P.underlying f.type = some .bool) (k4 : ∃ f, fs[4]? = some f ∧ P.underlying f.type = some .string) (k5 : ∃ f, fs[5]? = some f ∧ P.underlying f.type = some (.int .i64)) (k6 : ∃ f, fs[6]? = some f ∧ P.underlying f.type = some (.int .i64)) (k7 : ∃ f, fs[7]? = some f ∧ P.underlying f.type = some (.int .i64))
    (hv : Value.okWide P w r b0 t v) (h : DataW.Trod enc P w base spare held t v d p) : ∃ q : Part, v = .agg (pcs q).toArray ∧ Fit q := by
  obtain ⟨cs, rfl, hsz⟩ := okWide_struct ht hv
  obtain ⟨fuel, hf⟩ := h
  obtain ⟨ys, n, _, hx, hl, hy, hg⟩ := DataW.trod_struct ht hf
  have hcs : (Value.agg cs).cells.toList = cs.toList := by simp [Value.cells]
  obtain ⟨q, h1, h2, -⟩ := part_of (enc := enc) (C := fun j u => cs[j]? = some u) k0 k1 k2 k3 k4 k5 k6 k7 (ys := ys) (n := n) (fun j f hj => by
    have hjs : j < fs.size := (Array.getElem?_eq_some_iff.1 hj).1
    have hjc : j < cs.size := by omega
    obtain ⟨ho, hk⟩ := hone_of hone j f hj
    have hr := hg j f hj
    rw [ho, hk] at hr
    have hd : ((Value.agg cs).cells.toList.drop j).take 1 = [cs[j]] := by
      rw [hcs, List.drop_eq_getElem_cons (by simpa using hjc)]
      rfl
    rw [hd, List.getElem?_eq_getElem (by omega)] at hr
    exact ⟨cs[j], ys[j]'(by omega), Array.getElem?_eq_getElem hjc, List.getElem?_eq_getElem (by omega), hr⟩)
  refine ⟨q, ?_, h2⟩
  congr 1
  apply Array.ext
  · simp [pcs]; omega
  · intro j hj1 hj2
    have := h1 j (pcs q)[j] (List.getElem?_eq_getElem (by simpa using hj2))
    rw [Array.getElem?_eq_getElem hj1] at this
    simpa using this
end
/-- what small parts are written as is small -/
theorem small {l : List Part} (hok : ∀ q ∈ l, Ok q) (h : l.length + (l.map fun q => q.t.size).sum ≤ 1048576) :
    (∀ k, k ≤ l.length → (encL (l.take k)).length + 20 ≤ 140737488355000) ∧ l.length ≤ 140737488355328 ∧ ∀ k (h : k < l.length), (encL (l.take k)).length + 20 + l[k].t.size ≤ 140737488355000 := by
  have hsum : ∀ k, ((l.take k).map fun q => q.t.size).sum ≤ (l.map fun q => q.t.size).sum := fun k => by
    have e : (l.map fun q => q.t.size).sum = ((l.take k).map fun q => q.t.size).sum + ((l.drop k).map fun q => q.t.size).sum := by rw [← List.sum_append, ← List.map_append, List.take_append_drop]
    omega
  have hlen : ∀ k, k ≤ l.length → (encL (l.take k)).length ≤ 10 * k + (l.map fun q => q.t.size).sum := fun k hk => by
    have h1 := encL_len (l.take k) (fun q hq => hok q (List.mem_of_mem_take hq)) 1048576 (Nat.le_trans (hsum k) (by omega)) (by omega)
    have h2 := hsum k
    rw [List.length_take, Nat.min_eq_left hk] at h1
    omega
  refine ⟨fun k hk => by have := hlen k hk; omega, by omega, fun k hk => ?_⟩
  have h1 := hlen k (by omega)
  have h2 : l[k].t.size ≤ (l.map fun q => q.t.size).sum := by
    have := hsum (k + 1)
    rw [List.take_succ_eq_append_getElem hk, List.map_append, List.sum_append] at this
    simp only [List.map_cons, List.map_nil, List.sum_cons, List.sum_nil] at this
    omega
  omega
end Go.Proofs.Ytmaebebckbfjpaa.code
