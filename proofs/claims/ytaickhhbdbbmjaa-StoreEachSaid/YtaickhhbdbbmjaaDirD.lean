/-
  A directory in memory; the contracts of New, all, node, Find, Len, Ids, Rank, At.
-/
import Derived.Test.YtaickhhbdbbmjaaDirI
import Derived.Laws.MakeOwn
namespace Go.Proofs.Ytaickhhbdbbmjaa.direct
open Go.RowKit law bytes only flat
set_option linter.unusedVariables false

/-- a directory at block db, with the tree t -/
structure Dr (w : World) (base db : Nat) (t : T) : Prop where
  blk : Blk w db 74 #[pt t]
  tree : Tr w t
  nodup : (db :: t.bs).Nodup
  low : ∀ i ∈ db :: t.bs, base ≤ i
  rise : Rise t.flat
section
variable {w w' : World} {base db B : Nat} {t : T} {S : Nat → Prop}
theorem Dr.below (h : Dr w base db t) (o : Below B w w') (hB : w.heap.size ≤ B) : Dr w' base db t :=
  ⟨h.blk.below o (Nat.lt_of_lt_of_le h.blk.lt hB), Tr.below o hB h.tree, h.nodup, h.low, h.rise⟩
theorem Dr.only (h : Dr w base db t) (o : Only S w w') (hS : ∀ i ∈ db :: t.bs, ¬ S i) : Dr w' base db t :=
  ⟨Blk.only h.blk o (hS db (by simp)), Tr.only o h.tree fun i hi => hS i (by simp [hi]), h.nodup, h.low, h.rise⟩
theorem Dr.lt (h : Dr w base db t) : ∀ i ∈ db :: t.bs, i < w.heap.size := fun i hi => by
  rcases List.mem_cons.1 hi with rfl | hi
  · exact h.blk.lt
  · exact h.tree.lt i hi
end
theorem new_any (w : World) : Calls Try.prog 22 #[] w fun e w' => e = .returned (.pointer (some ⟨w.heap.size, 0, none⟩)) ∧ Below w.heap.size w w' ∧ Dr w' w.heap.size w.heap.size .nil := by
  have HB := Lib.hid (show Below w.heap.size w (w.alloc (.cells #[.pointer none] 74)) from (Below.refl _ _).alloc (Nat.le_refl _) _)
  have HM := Lib.hid (show Dr (w.alloc (.cells #[.pointer none] 74)) w.heap.size w.heap.size .nil from ⟨Blk.new _ _ _, trivial, by simp [T.bs], fun i hi => by simp [T.bs] at hi; omega, List.Pairwise.nil⟩)
  go_enter Try.func22, Try.ntmps22
  go_wp2_with (fail)
  go_ret
  exact ⟨rfl, HB.out, HM.out⟩
theorem all_any {w : World} {base db : Nat} {t : T} (h : Dr w base db t) : Calls Try.prog 42 #[.pointer (some ⟨db, 0, none⟩)] w fun e w' => e = .returned (.pointer (pa t)) ∧ w = w' := by
  have c0 : w.cell? ⟨db, 0, none⟩ = some (.pointer (pa t)) := h.blk.cell 0
  generalize pa t = q at c0 ⊢
  clear h
  go_enter Try.func42, Try.ntmps42
  go_wp2_with (fail)
  go_ret
  exact ⟨rfl, rfl⟩
theorem all_nil (w : World) : Calls Try.prog 42 #[.pointer none] w fun e w' => e = .returned (.pointer none) ∧ w = w' := by
  go_enter Try.func42, Try.ntmps42
  go_wp2_with (fail)
  go_ret
  exact ⟨rfl, rfl⟩
theorem T.cases_node (t : T) (h : t ≠ .nil) : ∃ b l k s r, t = .node b l k s r := by
  cases t with
  | nil => exact absurd rfl h
  | node b l k s r => exact ⟨b, l, k, s, r, rfl⟩
/-- a number's node, or nil -/
def NodePost (w : World) (F : List (Int × Int)) (id : Int) (e : Ending) (w' : World) : Prop := ∃ q, e = .returned (.pointer q) ∧ Below w.heap.size w w' ∧ ((fd F id = none ∧ q = none) ∨ ∃ b v, fd F id = some v ∧ q = some ⟨b, 0, none⟩ ∧ w'.cell? ⟨b, 1, none⟩ = some (.int .i64 v))
set_option maxRecDepth 100000 in
set_option maxHeartbeats 3200000 in
theorem node_any {w : World} {base db : Nat} {t : T} (h : Dr w base db t) (id : Int) : Calls Try.prog 34 #[.pointer (some ⟨db, 0, none⟩), .int .u64 id] w (NodePost w t.flat id) := by
  have HA := Lib.hid (all_any h)
  obtain ⟨q, hq⟩ : ∃ v, v = pa t := ⟨_, rfl⟩
  rw [← hq] at HA
  have HQ := Lib.hid hq
  have HT := Lib.hid h.tree
  have HRi := Lib.hid h.rise
  clear h hq
  go_enter Try.func34, Try.ntmps34
  go_wp2_with (go_at_call 42; (with_reducible refine HA.out.mono ?_); rintro e w' ⟨rfl, rfl⟩)
  go_loopg [5] t.n (fun gk s5 wr => Below w.heap.size w wr ∧ ∃ c : T, s5 = .pointer (pa c) ∧ Tr wr c ∧ Rise c.flat ∧ fd c.flat id = fd t.flat id ∧ c.n = gk)
  case atStart => exact ⟨Below.refl _ _, t, by rw [HQ.out], HT.out, HRi.out, rfl, rfl⟩
  case round =>
    clear HQ HT HRi HA
    obtain ⟨hb, c, rfl, hc, hR, hf, rfl⟩ := hrel
    cases c with
    | nil =>
      have HE : Hid (NodePost w t.flat id (.returned (.pointer none)) wr) := Lib.hid ⟨none, rfl, hb, .inl ⟨hf.symm, rfl⟩⟩
      have hpa : pa T.nil = none := rfl
      rw [hpa]
      clear hpa hb hc hR hf
      go_wp2_with (fail)
      go_ret
      exact HE.out
    | node b l k s r =>
      have c0 : wr.cell? ⟨b, 0, none⟩ = some (.int .u64 k) := hc.1.cell 0
      have c1 : wr.cell? ⟨b, 1, none⟩ = some (.int .i64 s) := hc.1.cell 1
      have hpa : pa (T.node b l k s r) = some ⟨b, 0, none⟩ := rfl
      rw [hpa]
      by_cases hk : k = id
      · subst hk
        have HE : Hid (NodePost w t.flat k (.returned (.pointer (some ⟨b, 0, none⟩))) wr) := Lib.hid ⟨_, rfl, hb, .inr ⟨b, s, by rw [← hf]; exact fd_here hR, rfl, c1⟩⟩
        have d0 : (k != k) = false := by simp
        clear hpa hb hc hR hf c1
        go_wp2_with (fail)
        go_ret
        exact HE.out
      · have d0 : (k != id) = true := by simp [hk]
        have hS := fun W (hW : Below wr.heap.size wr W) => side_any (w := W) ((hc.1.below hW hc.1.lt).cell 0) id
        have w0 : IntKind.i64.wrap 0 = 0 := by decide
        have w1 : IntKind.i64.wrap 1 = 1 := by decide
        have hRp := Rise.parts hR
        by_cases hlt : id < k
        · have c3 : wr.cell? ⟨b, 3, none⟩ = some (.pointer (pa l)) := hc.1.cell 3
          have HR : Hid (Below w.heap.size w wr.drew ∧ ∃ c : T, (Value.pointer (pa l)) = .pointer (pa c) ∧ Tr wr.drew c ∧ Rise c.flat ∧ fd c.flat id = fd t.flat id ∧ c.n = l.n) := Lib.hid ⟨hb.drew, l, rfl, Tr.below (Below.refl _ _).drew (Nat.le_refl _) hc.2.1, hRp.1, by rw [← hf]; exact (fd_low hR hlt).symm, rfl⟩
          have HM : Hid (l.n < (T.node b l k s r).n) := Lib.hid (by simp only [T.n]; omega)
          have HS : Hid (∀ W, Below wr.heap.size wr W → Calls Try.prog 45 #[.pointer (some ⟨b, 0, none⟩), .int .u64 id] W fun e w' => e = .returned (.int .i64 0) ∧ W = w') := Lib.hid fun W hW => by
            have h1 := hS W hW
            rw [if_pos hlt] at h1
            exact h1
          clear hpa hb hc hR hf c1 hk hS hRp hlt
          generalize pa l = ql at c3 HR
          go_wp2_with (fail)
          go_region_held3 (fun W => W.cell? ⟨b, 3, none⟩ = some (.pointer ql))
            (first | exact c3)
            (first
              | (go_at_call 45; (with_reducible refine (HS.out _ (by repeat' (first | (with_reducible exact Below.refl _ _) | (with_reducible assumption) | (with_reducible refine Below.drew ?_) | (with_reducible refine below_drewN' ?_ _)))).mono ?_); rintro e w5 ⟨rfl, rfl⟩))
          go_wp2_with (fail)
          go_roundg l.n
          case measure => exact HM.out
          case rel => exact HR.out
        · have hgt : k < id := by omega
          have c4 : wr.cell? ⟨b, 4, none⟩ = some (.pointer (pa r)) := hc.1.cell 4
          have HR : Hid (Below w.heap.size w wr.drew ∧ ∃ c : T, (Value.pointer (pa r)) = .pointer (pa c) ∧ Tr wr.drew c ∧ Rise c.flat ∧ fd c.flat id = fd t.flat id ∧ c.n = r.n) := Lib.hid ⟨hb.drew, r, rfl, Tr.below (Below.refl _ _).drew (Nat.le_refl _) hc.2.2, hRp.2.1, by rw [← hf]; exact (fd_high hR hgt).symm, rfl⟩
          have HM : Hid (r.n < (T.node b l k s r).n) := Lib.hid (by simp only [T.n]; omega)
          have HS : Hid (∀ W, Below wr.heap.size wr W → Calls Try.prog 45 #[.pointer (some ⟨b, 0, none⟩), .int .u64 id] W fun e w' => e = .returned (.int .i64 1) ∧ W = w') := Lib.hid fun W hW => by
            have h1 := hS W hW
            rw [if_neg hlt] at h1
            exact h1
          clear hpa hb hc hR hf c1 hk hS hRp hlt hgt
          generalize pa r = qr at c4 HR
          go_wp2_with (fail)
          go_region_held3 (fun W => W.cell? ⟨b, 4, none⟩ = some (.pointer qr))
            (first | exact c4)
            (first
              | (go_at_call 45; (with_reducible refine (HS.out _ (by repeat' (first | (with_reducible exact Below.refl _ _) | (with_reducible assumption) | (with_reducible refine Below.drew ?_) | (with_reducible refine below_drewN' ?_ _)))).mono ?_); rintro e w5 ⟨rfl, rfl⟩))
          go_wp2_with (fail)
          go_roundg r.n
          case measure => exact HM.out
          case rel => exact HR.out
theorem find_any {w : World} {base db : Nat} {t : T} (h : Dr w base db t) (id : Int) : Calls Try.prog 23 #[.pointer (some ⟨db, 0, none⟩), .int .u64 id] w fun e w' =>
    e = .returned (.tuple #[.int .i64 ((fd t.flat id).getD 0), .bool (fd t.flat id).isSome]) ∧ Below w.heap.size w w' := by
  have HN := Lib.hid (node_any h id)
  clear h
  go_enter Try.func23, Try.ntmps23
  go_wp2_with (fail)
  refine HN.out.mono ?_
  rintro e w1 ⟨q, rfl, hb, ⟨hf, rfl⟩ | ⟨b, v, hf, rfl, c1⟩⟩
  · have HB := Lib.hid hb
    have HF := Lib.hid hf
    clear HN hb hf
    go_wp2_with (fail)
    refine bodyPost_ret (v := .tuple #[.int .i64 0, .bool false]) (by simp [results, Try.results23, go_sem]) rfl ?_
    exact ⟨by rw [HF.out]; rfl, HB.out⟩
  · have HB := Lib.hid hb
    have HF := Lib.hid hf
    clear HN hb hf
    go_wp2_with (fail)
    refine bodyPost_ret (v := .tuple #[.int .i64 v, .bool true]) (by simp [results, Try.results23, go_sem]) rfl ?_
    exact ⟨by rw [HF.out]; rfl, HB.out⟩
theorem dlen_any {w : World} {base db : Nat} {t : T} (h : Dr w base db t) : Calls Try.prog 31 #[.pointer (some ⟨db, 0, none⟩)] w fun e w' => e = .returned (.int .i64 t.n) ∧ w = w' := by
  have HA := Lib.hid (all_any h)
  have HL := Lib.hid (len_any h.tree)
  have hp : pt t = .pointer (pa t) := rfl
  rw [hp] at HL
  generalize pa t = q at HA HL
  clear h hp
  go_enter Try.func31, Try.ntmps31
  go_wp2_with (first
    | (go_at_call 42; (with_reducible refine HA.out.mono ?_); rintro e w' ⟨rfl, rfl⟩)
    | (go_at_call 43; (with_reducible refine HL.out.mono ?_); rintro e w' ⟨rfl, rfl⟩))
  go_ret
  exact ⟨rfl, rfl⟩
theorem make_u64s (n : Nat) (hn : n ≤ 8796093022208) (u : World) : ∃ Z : Array Value, Z.size = n * 1 ∧ (Instr.makeSlice 88 (.int .i64 0) (.int .i64 (n : Int))).run Try.prog u =
    .ok (.slice (some ⟨u.heap.size, 0, none⟩) 0 n) (u.alloc (.cells Z 26)) := by
  obtain ⟨i, hi, hz, hsz, hby, hzs⟩ := u64E
  have h := run_make (P := Try.prog) u 88 26 i (.int .u64 0) Try.underlying88 hi hz .i64 .i64 0 (n : Int) (by omega) (by omega) (by rw [hby]; omega) (by omega)
  simp only [Int.toNat_zero, Int.toNat_natCast] at h
  exact ⟨_, by rw [size_madeCells, hsz], h⟩
set_option maxRecDepth 100000 in
set_option maxHeartbeats 1600000 in
theorem dids_any {w : World} {base db : Nat} {t : T} (h : Dr w base db t) (hn : t.n ≤ 8796093022208) : Calls Try.prog 44 #[.pointer (some ⟨db, 0, none⟩)] w (IdsPost w w.heap.size t.n (kv t.flat)) := by
  have HA := Lib.hid (all_any h)
  have HL := Lib.hid (len_any h.tree)
  obtain ⟨Z, hZ, hmk⟩ := make_u64s t.n hn w
  have hown : (w.alloc (.cells Z 26)).ownsRow w.heap.size 26 1 (.slice (some ⟨w.heap.size, 0, none⟩) 0 t.n) 0 [] := World.ownsRow_made w Z _ (Nat.le_refl _) (by unfold maxLen; omega) hZ
  have hb : Below w.heap.size w (w.alloc (.cells Z 26)) := (Below.refl _ _).alloc (Nat.le_refl _) _
  have HI := Lib.hid ((ids_any t (Tr.below hb (Nat.le_refl _) h.tree) (fun i hi => h.tree.lt i hi) hown hb.size (by omega)).mono fun e w' h => (show IdsPost w w.heap.size t.n (kv t.flat) e w' by
    obtain ⟨A, c, he, ho, hb2⟩ := h
    exact IdsPost.cast ⟨A, c, he, ho, hb.trans hb2⟩ (by omega) (by simp)))
  have hp : pt t = .pointer (pa t) := rfl
  rw [hp] at HL HI
  generalize pa t = q at HA HL HI
  have HN := Lib.hid hn
  clear h hp hown hb hn
  go_enter Try.func44, Try.ntmps44
  go_wp2_with (first
    | (go_at_call 42; (with_reducible refine HA.out.mono ?_); rintro e w' ⟨rfl, rfl⟩)
    | (go_at_call 43; (with_reducible refine HL.out.mono ?_); rintro e w' ⟨rfl, rfl⟩))
  refine HI.out.mono ?_
  rintro e w1 hE
  have HE := Lib.hid hE
  obtain ⟨A1, c1, rfl, -⟩ := hE
  go_wp2_with (fail)
  go_ret
  exact HE.out
end Go.Proofs.Ytaickhhbdbbmjaa.direct
