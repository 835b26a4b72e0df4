/-
  The contract of widen: one more slot, which is free.
-/
import Derived.Test.YtaickhhbdbbmjaaAo
namespace Go.Proofs.Ytaickhhbdbbmjaa.aro
open Go.RowKit law bytes only flat ord
set_option linter.unusedVariables false

theorem made_cE (m : Nat) : (madeCells #[.int .i64 0, .slice none 0 0, .string ⟨#[]⟩, .bool false] (m * 4)).toList = (List.replicate m (none : Option Kept)).flatMap cE := by
  apply List.ext_getElem?
  intro j
  by_cases hj : j < m * 4
  · have e : j / 4 * 4 + j % 4 = j := by omega
    have h1 := flat_get (k := 4) cE_len (List.replicate m (none : Option Kept)) (j / 4) (j % 4) (by simp; omega) (by omega)
    rw [e] at h1
    rw [h1]
    have hr : j % 4 = 0 ∨ j % 4 = 1 ∨ j % 4 = 2 ∨ j % 4 = 3 := by omega
    rcases hr with hr | hr | hr | hr <;> simp [madeCells, hj, hr, cE, kx, zK, zeroO]
  · rw [List.getElem?_eq_none (by simp [madeCells]; omega), List.getElem?_eq_none (by rw [flat_length cE_len]; simp; omega)]
theorem make_slots (m : Nat) (hm : m ≤ 5026338869833) (u : World) : ∃ Z : Array Value, Z.toList = (List.replicate m (none : Option Kept)).flatMap cE ∧ (Instr.makeSlice 68 (.int .i64 (m : Int)) (.int .i64 (m : Int))).run Try.prog u =
    .ok (.slice (some ⟨u.heap.size, 0, none⟩) m m) (u.alloc (.cells Z 82)) := by
  have hinf : (Try.prog.info? 82).map (fun i => (i.zero, i.size, i.bytes)) = some (some (.agg #[.int .i64 0, .slice none 0 0, .string ⟨#[]⟩, .bool false]), 4, 56) := by kernel_rfl
  obtain ⟨i, hi, hz, hsz, hby⟩ := info_parts hinf
  have h := run_make (P := Try.prog) u 68 82 i (.agg #[.int .i64 0, .slice none 0 0, .string ⟨#[]⟩, .bool false]) Try.underlying68 hi hz .i64 .i64 m m (by omega) (by omega) (by rw [hby]; omega) (by omega)
  simp only [Int.toNat_natCast] at h
  refine ⟨_, ?_, h⟩
  rw [hsz]
  exact made_cE m
theorem cE_one (l : List (Option Kept)) : ∀ u ∈ l.flatMap cE, u.oneCell' = true := by
  intro u hu
  simp only [List.mem_flatMap, cE, List.mem_cons, List.not_mem_nil, or_false] at hu
  obtain ⟨a, -, rfl | rfl | rfl | rfl⟩ := hu <;> rfl
/-- a new row of slots into which the old ones are copied -/
theorem copy_slots {w : World} {base m : Nat} {A : Option Addr} {d : List (Option Kept)} {Z : Array Value} (ty : TypeId) (h : w.ownsRow base 82 4 (.slice A d.length d.length) d.length (d.flatMap cE))
    (hZ : Z.toList = (List.replicate m (none : Option Kept)).flatMap cE) (hm : d.length ≤ m) (hmx : m ≤ maxLen) (hB : base ≤ w.heap.size) :
    ∃ V n, (Builtin.copy_ #[68, 68] ty #[.slice (some ⟨w.heap.size, 0, none⟩) m m, .slice A d.length d.length]).run Try.prog (w.alloc (.cells Z 82)) = .ok (goInt n) V ∧
      V.ownsRow base 82 4 (.slice (some ⟨w.heap.size, 0, none⟩) m m) m ((d ++ List.replicate (m - d.length) none).flatMap cE) ∧ Below w.heap.size w V := by
  have hba : Below w.heap.size w (w.alloc (.cells Z 82)) := (Below.refl _ w).alloc (Nat.le_refl _) _
  have hzs : Z.size = m * 4 := by
    have := congrArg List.length hZ
    rw [flat_length cE_len] at this
    simpa using this
  rcases A with _ | ad
  · obtain rfl : d = [] := by
      rcases h.2 with ⟨_, h0⟩ | ⟨g, c, cur, hv, _⟩
      · exact List.eq_nil_of_length_eq_zero h0
      · simp at hv
    have h1 : (w.alloc (.cells Z 82)).ownsRow base 82 4 (.slice (some ⟨w.heap.size, 0, none⟩) m m) m Z.toList := World.ownsRow_lit w Z m hB hmx hzs
    rw [hZ] at h1
    exact ⟨_, 0, run_copy_nilK (P := Try.prog) _ _ _ ty 82 _ m m Try.underlying68 (by kernel_rfl), by simpa using h1, hba⟩
  · have hsl := (Sl.of_ownK h).below hba
    have hn : (d.flatMap cE).length = Nat.min d.length m * 4 := by rw [flat_length cE_len, show Nat.min d.length m = d.length from Nat.min_eq_left hm]
    have hg : (w.alloc (.cells Z 82)).heap[w.heap.size]? = some (.cells Z 82 (0, 0)) := heap_alloc_new w _
    have hl : (d.flatMap cE).length = d.length * 4 := flat_length cE_len d
    refine ⟨_, _, run_copy_rowK (P := Try.prog) _ _ _ ty 82 4 w.heap.size 0 m m ad d.length d.length Z 82 (d.flatMap cE) Try.underlying68 (by kernel_rfl) hg hn
      (fun j v hj => ?_) (by rw [hl, hzs]; omega) (cE_one d), ?_, ?_⟩
    · obtain ⟨ad', e, _, hc⟩ := hsl j v hj
      injection e with e
      subst e
      exact hc
    · have hcur : ([] ++ d.flatMap cE ++ Z.toList.drop (0 + (d.flatMap cE).length)) = (d ++ List.replicate (m - d.length) none).flatMap cE := by
        rw [hZ, Nat.zero_add, hl, List.nil_append, List.flatMap_append]
        congr 1
        have e1 : List.replicate m (none : Option Kept) = List.replicate d.length none ++ List.replicate (m - d.length) none := by rw [List.replicate_append_replicate]; congr 1; omega
        have e2 : ((List.replicate d.length (none : Option Kept)).flatMap cE).length = d.length * 4 := by rw [flat_length cE_len]; simp
        rw [e1, List.flatMap_append, ← e2, List.drop_left]
      rw [List.take_zero, hcur]
      have hlen : ((d ++ List.replicate (m - d.length) none).flatMap cE).length = m * 4 := by rw [flat_length cE_len]; simp; omega
      refine ⟨hlen, .inr ⟨w.heap.size, m, _, rfl, hB, setRow_heap _ _ Z _ _ _ hg, Nat.le_refl _, hmx, by simpa using hlen, ?_⟩⟩
      exact List.take_of_length_le (by rw [hlen]; exact Nat.le_refl _)
    · exact below_setRow hba (Nat.le_refl _) _

/-- behind the room's being made: slots may stand elsewhere still -/
structure Pre (w : World) (base ab g m : Nat) (S F : Value) (d : List (Option Kept)) (f : List Nat) : Prop where
  blk : Blk w ab 71 #[S, .slice (some ⟨g, 0, none⟩) m m, F]
  room : w.ownsRow base 82 4 (.slice (some ⟨g, 0, none⟩) m m) m ((d ++ List.replicate (m - d.length) none).flatMap cE)
  free : w.ownsRow base 3 1 F f.length (fv f)
  low : base ≤ ab
  ra : g ≠ ab
  fa : F.ownBlock ≠ some ab
  rf : F.ownBlock ≠ some g
/-- .. and its end: the slots are the room's first ones, the new one is free -/
theorem Pre.fin {w w4 : World} {base ab g m : Nat} {S F v4 : Value} {d : List (Option Kept)} {f : List Nat} (h : Pre w base ab g m S F d f) (hm : d.length < m) (n1 : Nat) (hn1 : n1 = d.length + 1) (hB : base ≤ w.heap.size)
    (ho : w4.ownsRow base 3 1 v4 (f.length + 1) (fv f ++ [.int .i64 (d.length : Int)])) (hg : ((w.setCell ⟨ab, 0, none⟩ (.slice (some ⟨g, 0, none⟩) n1 n1)).alloc (.cells #[.int .i64 (d.length : Int)] 3)).grownBy w4 F.ownBlock)
    (hv : v4.ownBlock = F.ownBlock ∨ v4.ownBlock = some ((w.setCell ⟨ab, 0, none⟩ (.slice (some ⟨g, 0, none⟩) n1 n1)).alloc (.cells #[.int .i64 (d.length : Int)] 3)).heap.size) :
    w4.cell? ⟨ab, 2, none⟩ = some F ∧ w4.frozen? ⟨ab, 2, none⟩ = false ∧ Ax (w4.setCell ⟨ab, 2, none⟩ v4) base ab (some ⟨g, 0, none⟩) v4 (d ++ [none]) (m - n1) (f ++ [d.length]) ∧
      Only (fun i => i = ab ∨ F.ownBlock = some i) w (w4.setCell ⟨ab, 2, none⟩ v4) ∧ ∀ i, v4.ownBlock = some i → F.ownBlock = some i ∨ w.heap.size ≤ i := by
  have hs1 := ((h.blk.set_ 0 (.slice (some ⟨g, 0, none⟩) n1 n1)).alloc (.cells #[.int .i64 (d.length : Int)] 3)).grown hg (fun e => h.fa e.symm)
  have hlt := h.blk.lt
  have hgl := (own_lt h.room (g := g) rfl).2
  have hnew : ((w.setCell ⟨ab, 0, none⟩ (.slice (some ⟨g, 0, none⟩) n1 n1)).alloc (.cells #[.int .i64 (d.length : Int)] 3)).heap.size = w.heap.size + 1 := by simp [World.setCell]
  rw [hnew] at hv
  have ho1 : Only (fun i => i = ab ∨ F.ownBlock = some i) w w4 := (((Only.refl (fun i => i = ab ∨ F.ownBlock = some i) w).setCell (p := ⟨ab, 0, none⟩) (.inl (.inl rfl)) _).alloc _).trans (Only.of_grown hg (S := fun i => F.ownBlock = some i) fun g e => .inl e) fun i e => .inl (.inr e)
  have ho2 := ho1.setCell (p := ⟨ab, 2, none⟩) (.inl (.inl rfl)) v4
  have hab4 : v4.ownBlock ≠ some ab := fun e => by
    rcases hv with e1 | e1
    · exact h.fa (e1.symm.trans e)
    · rw [e1] at e
      injection e with e
      omega
  refine ⟨hs1.cell 2, hs1.frozen 2, ⟨?_, ?_, ?_, h.low, fun a e => by injection e with e; subst e; exact h.ra, hab4, fun a e e2 => ?_⟩, ho2, fun i e => ?_⟩
  · have hs2 := hs1.set_ 2 v4
    have e1 : (d ++ [none]).length = n1 := by simp [hn1]
    have e2 : n1 + (m - n1) = m := by omega
    rw [e1, e2]
    exact hs2
  · have e1 : (d ++ [none]).length = n1 := by simp [hn1]
    have e2 : n1 + (m - n1) = m := by omega
    rw [e1, e2]
    have e3 : (d ++ [none]) ++ List.replicate (m - n1) none = d ++ List.replicate (m - d.length) none := by
      rw [List.append_assoc, show m - d.length = (m - n1) + 1 by omega, List.replicate_succ]
      rfl
    rw [e3]
    exact own_only h.room ho2 fun g' e => by
      simp only [Value.ownBlock, Option.some.injEq] at e
      subst e
      intro e4
      rcases e4 with e4 | e4
      · exact h.ra e4
      · exact h.rf e4
  · rw [List.length_append, fv_append]
    exact own_only ho (Only.setCell (S := fun i => i = ab) (p := ⟨ab, 2, none⟩) (Only.refl _ _) (.inl rfl) _) fun g' e e2 => hab4 (by rw [e, e2])
  · injection e with e
    subst e
    rcases hv with e1 | e1
    · exact h.rf (e1.symm.trans e2)
    · rw [e1] at e2
      injection e2 with e2
      simp only at e2
      omega
  · rcases hv with e1 | e1
    · exact .inl (e1.symm.trans e)
    · rw [e1] at e
      injection e with e
      exact .inr (by omega)
/-- what an arena's method leaves -/
def Turned (w : World) (base ab : Nat) (A : Option Addr) (F : Value) (d : List (Option Kept)) (f : List Nat) (w' : World) : Prop :=
  Only (Mine ab A F) w w' ∧ ∃ A' F' e', Ax w' base ab A' F' d e' f ∧ ∀ i, Mine ab A' F' i → Mine ab A F i ∨ w.heap.size ≤ i
section
variable {w w' w2 : World} {base ab g m : Nat} {S F F2 : Value} {A A2 : Option Addr} {d d2 : List (Option Kept)} {e : Nat} {f f2 : List Nat}
theorem Pre.turned {u : World} {v4 : Value} {d' : List (Option Kept)} {f' : List Nat} {e' : Nat} (hu : Only (Mine ab A F) u w) (hg : (∃ a, A = some a ∧ g = a.block) ∨ u.heap.size ≤ g) (hx : Ax w2 base ab (some ⟨g, 0, none⟩) v4 d' e' f')
    (ho : Only (fun i => i = ab ∨ F.ownBlock = some i) w w2) (hm : ∀ i, v4.ownBlock = some i → F.ownBlock = some i ∨ w.heap.size ≤ i) : Turned u base ab A F d' f' w2 :=
  ⟨hu.trans ho fun i e => .inl (by
    rcases e with e | e
    · exact .inl e
    · exact .inr (.inr e)), _, _, _, hx, fun i e => by
    rcases e with e | ⟨a, e1, e2⟩ | e
    · exact .inl (.inl e)
    · injection e1 with e1
      subst e1 e2
      rcases hg with hg | hg
      · exact .inl (.inr (.inl hg))
      · exact .inr hg
    · rcases hm i e with e1 | e1
      · exact .inl (.inr (.inr e1))
      · exact .inr (Nat.le_trans hu.size e1)⟩
end
/-- where the slots' room has been enlarged, what widen asks of the world -/
theorem Ax.pre {w : World} {base ab g e : Nat} {F : Value} {d : List (Option Kept)} {f : List Nat} (h : Ax w base ab (some ⟨g, 0, none⟩) F d e f) : Pre w base ab g (d.length + e) (.slice (some ⟨g, 0, none⟩) d.length d.length) F d f :=
  ⟨h.blk, by rw [show d.length + e - d.length = e by omega]; exact h.room, h.free, h.low, h.ra _ rfl, h.fa, h.rf _ rfl⟩
theorem Ax.wider {w V : World} {base ab m : Nat} {A : Option Addr} {F : Value} {d : List (Option Kept)} {f : List Nat} (h : Ax w base ab A F d 0 f) (hb : Below w.heap.size w V)
    (hr : V.ownsRow base 82 4 (.slice (some ⟨w.heap.size, 0, none⟩) m m) m ((d ++ List.replicate (m - d.length) none).flatMap cE)) :
    V.cell? ⟨ab, 1, none⟩ = some (.slice A d.length d.length) ∧ V.frozen? ⟨ab, 1, none⟩ = false ∧ Pre (V.setCell ⟨ab, 1, none⟩ (.slice (some ⟨w.heap.size, 0, none⟩) m m)) base ab w.heap.size m (.slice A d.length d.length) F d f ∧
      Only (Mine ab A F) w (V.setCell ⟨ab, 1, none⟩ (.slice (some ⟨w.heap.size, 0, none⟩) m m)) := by
  have hs := h.blk.below hb h.blk.lt
  have hlt := h.blk.lt
  have ho : Only (fun i => i = ab) V (V.setCell ⟨ab, 1, none⟩ (.slice (some ⟨w.heap.size, 0, none⟩) m m)) := Only.setCell (S := fun i => i = ab) (p := ⟨ab, 1, none⟩) (Only.refl _ _) (.inl rfl) _
  have hne : w.heap.size ≠ ab := by omega
  refine ⟨hs.cell 1, hs.frozen 1, ⟨hs.set_ 1 _, own_only hr ho fun g e => ?_, own_only (own_below h.free hb (Nat.le_refl _)) ho fun g e e2 => h.fa (by rw [e, e2]), h.low, hne, h.fa, fun e => ?_⟩, (Only.of_below hb (Nat.le_refl _) _).trans ho fun i e => .inl (.inl e)⟩
  · simp only [Value.ownBlock, Option.some.injEq] at e
    omega
  · have := (own_lt h.free e).2
    omega
theorem one_at (w : World) (x : Value) (t : TypeId) (g : Nat) (hg : g = w.heap.size) : Sl (w.alloc (.cells #[x] t)) (w.alloc (.cells #[x] t)).heap.size (some ⟨g, 0, none⟩) [x] := by
  subst hg
  exact Sl.one w x t
set_option maxRecDepth 100000 in
set_option maxHeartbeats 3200000 in
theorem widen_room {w : World} {base ab : Nat} {A : Option Addr} {F : Value} {d : List (Option Kept)} {e : Nat} {f : List Nat} (h : Ax w base ab A F d e f) (he : 0 < e) (hB : base ≤ w.heap.size) (hfd : f.length ≤ d.length) (hm : d.length ≤ 2513169434916) :
    Calls Try.prog 38 #[.pointer (some ⟨ab, 0, none⟩)] w fun x w' => x = .returned (.tuple #[]) ∧ Turned w base ab A F (d ++ [none]) (f ++ [d.length]) w' := by
  obtain ⟨g, rfl⟩ := h.formA (by omega)
  obtain ⟨m, hmm⟩ : ∃ m, d.length + e = m := ⟨_, rfl⟩
  obtain ⟨n1, hn1⟩ : ∃ n1, n1 = d.length + 1 := ⟨_, rfl⟩
  have hp := h.pre
  rw [hmm] at hp
  have HP := Lib.hid hp
  have hown : (w.setCell ⟨ab, 0, none⟩ (.slice (some ⟨g, 0, none⟩) n1 n1)).ownsRow base 3 1 F f.length (fv f) := own_only h.free (Only.setCell (S := fun i => i = ab) (p := ⟨ab, 0, none⟩) (Only.refl _ _) (.inl rfl) _) fun g e e2 => h.fa (by rw [e, e2])
  have c0 : w.cell? ⟨ab, 0, none⟩ = some (.slice (some ⟨g, 0, none⟩) d.length d.length) := hp.blk.cell 0
  have c1 : w.cell? ⟨ab, 1, none⟩ = some (.slice (some ⟨g, 0, none⟩) m m) := hp.blk.cell 1
  have f0 : w.frozen? ⟨ab, 0, none⟩ = false := hp.blk.frozen 0
  have hs1 := hp.blk.set_ 0 (.slice (some ⟨g, 0, none⟩) n1 n1)
  have c2 : (w.setCell ⟨ab, 0, none⟩ (.slice (some ⟨g, 0, none⟩) n1 n1)).cell? ⟨ab, 2, none⟩ = some F := hs1.cell 2
  have i0 : ((d.length : Int) == (m : Int)) = false := by rw [beq_eq_false_iff_ne]; omega
  have i1 : IntKind.i64.wrap ((d.length : Int) + 1) = (n1 : Int) := by rw [IntKind.wrap_i64]; omega
  have i2 : (n1 : Int) ≤ (m : Int) := by omega
  have i3 : n1 ≤ m := by omega
  have hfin := fun v4 w4 => hp.fin (w4 := w4) (v4 := v4) (by omega) n1 hn1 hB
  have hend := fun v4 w4 => Pre.turned (u := w) (w2 := w4) (v4 := v4) (base := base) (d' := d ++ [none]) (f' := f ++ [d.length]) (e' := m - n1) (A := some ⟨g, 0, none⟩) (F := F) (ab := ab) (Only.refl _ w) (.inl ⟨_, rfl, rfl⟩)
  have HF := Lib.hid hfin
  have HE := Lib.hid hend
  clear hfin hend h hp hs1 hn1 hmm he
  go_enter Try.func38, Try.ntmps38
  go_wp2_with (at_builtin
               refine wpList_append_sl _ rfl (.tmp 46) (.tmp 48) _ rfl base 3 _ 8 Try.underlying69 intE F f.length (fv f) rfl (World.ownsRow.alloc (w := w.setCell ⟨ab, 0, none⟩ (.slice (some ⟨g, 0, none⟩) n1 n1)) hown _) _ _ 1 1 [.int .i64 d.length] rfl (one_at (w.setCell ⟨ab, 0, none⟩ (.slice (some ⟨g, 0, none⟩) n1 n1)) _ _ _ (by simp [World.setCell])) rfl (by simp [Value.oneCell']) (by omega) (by unfold maxLen; omega) (by simp [World.setCell]; omega) ?_
               intro v4 w4 hown4 hg4 hat4
               obtain ⟨q0, q1, hx, ho, hv⟩ := HF.out v4 w4 hown4 hg4 hat4
               have HX := Lib.hid (HE.out v4 _ hx ho hv)
               obtain ⟨A4, c4, rfl, -⟩ := own_slice hown4
               clear hown4 hg4 hat4 hx ho hv HF HE)
  go_end0
  exact ⟨rfl, HX.out⟩
set_option maxRecDepth 100000 in
set_option maxHeartbeats 3200000 in
theorem widen_full {w : World} {base ab : Nat} {A : Option Addr} {F : Value} {d : List (Option Kept)} {f : List Nat} (h : Ax w base ab A F d 0 f) (hB : base ≤ w.heap.size) (hfd : f.length ≤ d.length) (hm : d.length ≤ 2513169434916) :
    Calls Try.prog 38 #[.pointer (some ⟨ab, 0, none⟩)] w fun x w' => x = .returned (.tuple #[]) ∧ Turned w base ab A F (d ++ [none]) (f ++ [d.length]) w' := by
  obtain ⟨m2, hm2⟩ : ∃ m2, m2 = 2 * d.length := ⟨_, rfl⟩
  obtain ⟨m, hmm⟩ : ∃ m, m = m2 + 1 := ⟨_, rfl⟩
  obtain ⟨n1, hn1⟩ : ∃ n1, n1 = d.length + 1 := ⟨_, rfl⟩
  obtain ⟨Z, hZ, hmk⟩ := make_slots m (by omega) w
  obtain ⟨V, nc, hcp, hrow, hbV⟩ := copy_slots (m := m) 3 (by simpa using h.room) hZ (by omega) (by unfold maxLen; omega) hB
  obtain ⟨q1, f1, hp, hu⟩ := h.wider hbV hrow
  obtain ⟨g, hg⟩ : ∃ g, g = w.heap.size := ⟨_, rfl⟩
  have c0 : w.cell? ⟨ab, 0, none⟩ = some (.slice A d.length d.length) := h.blk.cell 0
  have c1 : w.cell? ⟨ab, 1, none⟩ = some (.slice A d.length d.length) := h.blk.cell 1
  have hga : Below w.heap.size w (w.alloc (.cells Z 82)) := (Below.refl _ w).alloc (Nat.le_refl _) _
  have c3 : (w.alloc (.cells Z 82)).cell? ⟨ab, 1, none⟩ = some (.slice A d.length d.length) := (h.blk.below hga h.blk.lt).cell 1
  rw [← hg] at hmk hcp hp hu
  have hgV : g ≤ V.heap.size := by rw [hg]; exact hbV.size
  have hBV : base ≤ V.heap.size := Nat.le_trans hB hbV.size
  clear hZ hrow hbV hga h
  have hVs : (V.setCell ⟨ab, 1, none⟩ (.slice (some ⟨g, 0, none⟩) m m)).heap.size = V.heap.size := by simp [World.setCell]
  have hown : ((V.setCell ⟨ab, 1, none⟩ (.slice (some ⟨g, 0, none⟩) m m)).setCell ⟨ab, 0, none⟩ (.slice (some ⟨g, 0, none⟩) n1 n1)).ownsRow base 3 1 F f.length (fv f) := own_only hp.free (Only.setCell (S := fun i => i = ab) (p := ⟨ab, 0, none⟩) (Only.refl _ _) (.inl rfl) _) fun g e e2 => hp.fa (by rw [e, e2])
  have d0 : (V.setCell ⟨ab, 1, none⟩ (.slice (some ⟨g, 0, none⟩) m m)).cell? ⟨ab, 0, none⟩ = some (.slice A d.length d.length) := hp.blk.cell 0
  have d1 : (V.setCell ⟨ab, 1, none⟩ (.slice (some ⟨g, 0, none⟩) m m)).cell? ⟨ab, 1, none⟩ = some (.slice (some ⟨g, 0, none⟩) m m) := hp.blk.cell 1
  have f0 : (V.setCell ⟨ab, 1, none⟩ (.slice (some ⟨g, 0, none⟩) m m)).frozen? ⟨ab, 0, none⟩ = false := hp.blk.frozen 0
  have hs1 := hp.blk.set_ 0 (.slice (some ⟨g, 0, none⟩) n1 n1)
  have d2 : ((V.setCell ⟨ab, 1, none⟩ (.slice (some ⟨g, 0, none⟩) m m)).setCell ⟨ab, 0, none⟩ (.slice (some ⟨g, 0, none⟩) n1 n1)).cell? ⟨ab, 2, none⟩ = some F := hs1.cell 2
  have i0 : ((d.length : Int) == (d.length : Int)) = true := by simp
  have j0 : IntKind.i64.wrap (2 * (d.length : Int)) = (m2 : Int) := by rw [IntKind.wrap_i64]; omega
  have j1 : IntKind.i64.wrap ((m2 : Int) + 1) = (m : Int) := by rw [IntKind.wrap_i64]; omega
  have i1 : IntKind.i64.wrap ((d.length : Int) + 1) = (n1 : Int) := by rw [IntKind.wrap_i64]; omega
  have i2 : (n1 : Int) ≤ (m : Int) := by omega
  have i3 : n1 ≤ m := by omega
  have hfin := fun v4 w4 => hp.fin (w4 := w4) (v4 := v4) (by omega) n1 hn1 (by omega)
  have hend := fun v4 w4 => Pre.turned (u := w) (w := (V.setCell ⟨ab, 1, none⟩ (.slice (some ⟨g, 0, none⟩) m m))) (w2 := w4) (g := g) (v4 := v4) (base := base) (d' := d ++ [none]) (f' := f ++ [d.length]) (e' := m - n1) (A := A) (F := F) (ab := ab) hu (.inr (by omega))
  have HF := Lib.hid hfin
  have HE := Lib.hid hend
  clear hfin hend hp hs1 hn1 hmm hm2 hVs hu hg
  go_enter Try.func38, Try.ntmps38
  go_wp2_with (at_builtin
               refine wpList_append_sl _ rfl (.tmp 46) (.tmp 48) _ rfl base 3 _ 8 Try.underlying69 intE F f.length (fv f) rfl (World.ownsRow.alloc (w := (V.setCell ⟨ab, 1, none⟩ (.slice (some ⟨g, 0, none⟩) m m)).setCell ⟨ab, 0, none⟩ (.slice (some ⟨g, 0, none⟩) n1 n1)) hown _) _ _ 1 1 [.int .i64 d.length] rfl (one_at ((V.setCell ⟨ab, 1, none⟩ (.slice (some ⟨g, 0, none⟩) m m)).setCell ⟨ab, 0, none⟩ (.slice (some ⟨g, 0, none⟩) n1 n1)) _ _ _ (by simp [World.setCell])) rfl (by simp [Value.oneCell']) (by omega) (by unfold maxLen; omega) (by simp [World.setCell]; omega) ?_
               intro v4 w4 hown4 hg4 hat4
               obtain ⟨q0, q1, hx, ho, hv⟩ := HF.out v4 w4 hown4 hg4 hat4
               have HX := Lib.hid (HE.out v4 _ hx ho hv)
               obtain ⟨A4, c4, rfl, -⟩ := own_slice hown4
               clear hown4 hg4 hat4 hx ho hv HF HE)
  go_end0
  exact ⟨rfl, HX.out⟩
end Go.Proofs.Ytaickhhbdbbmjaa.aro
