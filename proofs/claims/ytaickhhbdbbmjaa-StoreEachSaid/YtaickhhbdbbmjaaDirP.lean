/-
  The contracts of Put and Cut; of a nil directory's methods; a directory by what is in it; what lives.
-/
import Derived.Test.YtaickhhbdbbmjaaDirQ
namespace Go.Proofs.Ytaickhhbdbbmjaa.direct
open Go.RowKit law bytes only flat
set_option linter.unusedVariables false

theorem tfl (t : T) : t.flat.length = t.n := t.flat_length
/-- a directory at block db with the numbers F; T is all that it may turn -/
def Dy (w : World) (base db : Nat) (T : Nat → Prop) (F : List (Int × Int)) : Prop := ∃ t, Dr w base db t ∧ t.flat = F ∧ ∀ i, T i ↔ i ∈ db :: t.bs
/-- what a method leaves -/
def Left (w : World) (base db : Nat) (T : Nat → Prop) (F : List (Int × Int)) (w' : World) : Prop := Only T w w' ∧ ∃ T', Dy w' base db T' F ∧ ∀ i, T' i → T i ∨ w.heap.size ≤ i
/-- the directory's own row of one cell, behind a turn of its tree -/
theorem dir_tail {w w1 w2 : World} {base db : Nat} {t t' : T} {T : Nat → Prop} {L : List Nat} (h : Dr w base db t) (hT : ∀ i, T i ↔ i ∈ db :: t.bs) (hb : Below w.heap.size w w1) (ho : Only (· ∈ t.bs) w1 w2) (ht : Tr w2 t') (hR : Rise t'.flat) (hnd : (db :: t'.bs).Nodup)
    (hm : ∀ i ∈ t'.bs, i ∈ t.bs ∨ w1.heap.size ≤ i) (hB : base ≤ w.heap.size) :
    w2.cell? ⟨db, 0, none⟩ = some (pt t) ∧ w2.frozen? ⟨db, 0, none⟩ = false ∧ Left w base db T t'.flat (w2.setCell ⟨db, 0, none⟩ (pt t')) := by
  have hdt : ∀ i ∈ t.bs, i ≠ db := fun i hi e => (List.nodup_cons.1 h.nodup).1 (by rw [← e]; exact hi)
  have hdt' : ∀ i ∈ t'.bs, i ≠ db := fun i hi e => (List.nodup_cons.1 hnd).1 (by rw [← e]; exact hi)
  have g1 := Blk.only (h.blk.below hb h.blk.lt) ho fun e => hdt db e rfl
  have o1 : Only (· = db) w2 (w2.setCell ⟨db, 0, none⟩ (pt t')) := (Only.refl (· = db) w2).setCell (p := ⟨db, 0, none⟩) (.inl rfl) _
  have hlow : ∀ i ∈ db :: t'.bs, i ∈ db :: t.bs ∨ w.heap.size ≤ i := fun i hi => by
    rcases List.mem_cons.1 hi with rfl | hi
    · exact .inl (by simp)
    · rcases hm i hi with h1 | h1
      · exact .inl (by simp [h1])
      · exact .inr (Nat.le_trans hb.size h1)
  refine ⟨g1.cell 0, g1.frozen 0, ?_, (· ∈ db :: t'.bs), ⟨t', ⟨g1.set_ 0 _, Tr.only o1 ht fun i hi e => hdt' i hi e, hnd, fun i hi => ?_, hR⟩, rfl, fun i => Iff.rfl⟩, fun i hi => (hlow i hi).imp_left (hT i).2⟩
  · exact ((Only.of_below hb (Nat.le_refl _) T).trans ho fun i hi => .inl ((hT i).2 (by simp [show i ∈ t.bs from hi]))).trans o1 fun i e => .inl ((hT i).2 (by rw [show i = db from e]; simp))
  · rcases hlow i hi with h1 | h1
    · exact h.low i h1
    · exact Nat.le_trans hB h1
section
variable {w w' : World} {base db B : Nat} {T S : Nat → Prop} {F G : List (Int × Int)}
theorem Dy.below (h : Dy w base db T F) (o : Below B w w') (hB : w.heap.size ≤ B) : Dy w' base db T F := by
  obtain ⟨t, h1, h2, h3⟩ := h
  exact ⟨t, h1.below o hB, h2, h3⟩
theorem Dy.only (h : Dy w base db T F) (o : Only S w w') (hS : ∀ i, T i → ¬ S i) : Dy w' base db T F := by
  obtain ⟨t, h1, h2, h3⟩ := h
  exact ⟨t, h1.only o fun i hi => hS i ((h3 i).2 hi), h2, h3⟩
theorem Dy.low (h : Dy w base db T F) {i : Nat} (hi : T i) : base ≤ i ∧ i < w.heap.size := by
  obtain ⟨t, h1, h2, h3⟩ := h
  exact ⟨h1.low i ((h3 i).1 hi), h1.lt i ((h3 i).1 hi)⟩
theorem Dy.rise (h : Dy w base db T F) : Rise F := by
  obtain ⟨t, h1, rfl, h3⟩ := h
  exact h1.rise
theorem Dy.left (h : Dy w base db T F) (o : Below w.heap.size w w') : Left w base db T F w' := ⟨Only.of_below o (Nat.le_refl _) _, T, h.below o (Nat.le_refl _), fun i hi => .inl hi⟩
theorem Left.below (h : Left w base db T G w') (h0 : Dy w base db T F) (hB : base ≤ w.heap.size) : Below base w w' := h.1.below hB fun i e => (h0.low e).1
theorem Left.dy (h : Left w base db T F w') : ∃ T', Dy w' base db T' F := ⟨_, h.2.choose_spec.1⟩
end
/-- what Put leaves of what is there -/
def putF (F : List (Int × Int)) (id s : Int) : List (Int × Int) := if (fd F id).isSome = true then F else ins F id s
theorem putF_length (F : List (Int × Int)) (id s : Int) : (putF F id s).length ≤ F.length + 1 := by
  unfold putF
  split
  · omega
  · rename_i h
    exact ins_length_le F id s (by simpa using h)
theorem flatn {w : World} {base db : Nat} {T : Nat → Prop} {F : List (Int × Int)} (h : Dy w base db T F) : ∃ t, Dr w base db t ∧ t.flat = F ∧ t.n = F.length ∧ ∀ i, T i ↔ i ∈ db :: t.bs := by
  obtain ⟨t, h1, h2, h3⟩ := h
  exact ⟨t, h1, h2, by rw [← h2, tfl], h3⟩
set_option maxRecDepth 100000 in
set_option maxHeartbeats 3200000 in
theorem put_any {w : World} {base db : Nat} {T : Nat → Prop} {F : List (Int × Int)} (h : Dy w base db T F) (id s : Int) (hn : F.length + 1 ≤ 1152921504606846976) (hB : base ≤ w.heap.size) :
    Calls Try.prog 26 #[.pointer (some ⟨db, 0, none⟩), .int .u64 id, .int .i64 s] w fun e w' => e = .returned (.bool (!(fd F id).isSome)) ∧ Left w base db T (putF F id s) w' := by
  obtain ⟨t, hD, rfl, hlen, hT⟩ := flatn h
  have HN := Lib.hid (node_any hD id)
  cases hf : fd t.flat id with
  | some v =>
    have HL := Lib.hid (fun W (hW : Below w.heap.size w W) => (show Left w base db T (putF t.flat id s) W by
      unfold putF
      rw [if_pos (by rw [hf]; rfl)]
      exact h.left hW))
    have HF := Lib.hid hf
    clear h hD hlen hT hf
    go_enter Try.func26, Try.ntmps26
    go_wp2_with (fail)
    refine HN.out.mono ?_
    rintro e w1 ⟨q, rfl, hb, ⟨hf1, -⟩ | ⟨b, u, hf1, rfl, c1⟩⟩
    · rw [HF.out] at hf1; cases hf1
    · have HE := Lib.hid (HL.out w1 hb)
      clear HN HL hb hf1 c1
      go_wp2_with (fail)
      go_ret
      exact ⟨rfl, HE.out⟩
  | none =>
    have HP : Hid (∀ W, Below w.heap.size w W → W.cell? ⟨db, 0, none⟩ = some (.pointer (pa t)) ∧ Calls Try.prog 37 #[.pointer (pa t), .int .u64 id, .int .i64 s] W fun e w2 => ∃ q, e = .returned (.pointer q) ∧
        w2.cell? ⟨db, 0, none⟩ = some (.pointer (pa t)) ∧ w2.frozen? ⟨db, 0, none⟩ = false ∧ Left w base db T (putF t.flat id s) (w2.setCell ⟨db, 0, none⟩ (.pointer q))) := Lib.hid fun W hW => by
      have hd := hD.below hW (Nat.le_refl _)
      refine ⟨hd.blk.cell 0, (with_any id s t hd.tree (List.nodup_cons.1 hd.nodup).2 hd.rise (by omega) hf).mono fun e w2 ⟨t', g, he, ht, hfl, hp, hg, ho⟩ => ?_⟩
      have hgt : g ∉ db :: t.bs := fun hi => by have := hd.lt g hi; omega
      have hp2 : (db :: t'.bs).Perm (g :: db :: t.bs) := (hp.cons db).trans (List.Perm.swap g db _)
      obtain ⟨h1, h2, h3⟩ := dir_tail (L := []) hD hT hW ho ht (by rw [hfl]; exact hd.rise.ins id s) ((hp2.nodup_iff).2 (List.nodup_cons.2 ⟨hgt, hd.nodup⟩)) (fun i hi => by
        rcases List.mem_cons.1 (hp.mem_iff.1 hi) with e1 | e1
        · exact .inr (by omega)
        · exact .inl e1) hB
      refine ⟨_, he, h1, h2, ?_⟩
      have e2 : putF t.flat id s = t'.flat := by unfold putF; rw [if_neg (by rw [hf]; simp), hfl]
      rw [e2]
      exact h3
    have HF := Lib.hid hf
    clear h hD hlen hT hf
    generalize pa t = q0 at HP
    go_enter Try.func26, Try.ntmps26
    go_wp2_with (fail)
    refine HN.out.mono ?_
    rintro e w1 ⟨q, rfl, hb, ⟨-, rfl⟩ | ⟨b, u, hf1, -⟩⟩
    · obtain ⟨c0, hcall⟩ := HP.out w1 hb
      have HW := Lib.hid hcall
      clear HN HP hb hcall
      go_wp2_with (fail)
      refine HW.out.mono ?_
      rintro e w2 ⟨q, rfl, d0, fz, hl⟩
      have HE := Lib.hid hl
      clear HW hl c0
      go_wp2_with (fail)
      go_ret
      exact ⟨rfl, HE.out⟩
    · rw [HF.out] at hf1; cases hf1
set_option maxRecDepth 100000 in
set_option maxHeartbeats 3200000 in
theorem cut_any {w : World} {base db : Nat} {T : Nat → Prop} {F : List (Int × Int)} (h : Dy w base db T F) (id : Int) (hn : F.length ≤ 1152921504606846976) (hB : base ≤ w.heap.size) :
    Calls Try.prog 25 #[.pointer (some ⟨db, 0, none⟩), .int .u64 id] w fun e w' => e = .returned (.bool (fd F id).isSome) ∧ Left w base db T (del F id) w' := by
  obtain ⟨t, hD, rfl, hlen, hT⟩ := flatn h
  have HN := Lib.hid (node_any hD id)
  cases hf : fd t.flat id with
  | none =>
    have HL := Lib.hid (fun W (hW : Below w.heap.size w W) => (show Left w base db T (del t.flat id) W by
      rw [del_same (fd_none hf)]
      exact h.left hW))
    have HF := Lib.hid hf
    clear h hD hlen hT hf
    go_enter Try.func25, Try.ntmps25
    go_wp2_with (fail)
    refine HN.out.mono ?_
    rintro e w1 ⟨q, rfl, hb, ⟨-, rfl⟩ | ⟨b, u, hf1, -⟩⟩
    · have HE := Lib.hid (HL.out w1 hb)
      clear HN HL hb
      go_wp2_with (fail)
      go_ret
      exact ⟨rfl, HE.out⟩
    · rw [HF.out] at hf1; cases hf1
  | some v =>
    have HP : Hid (∀ W, Below w.heap.size w W → W.cell? ⟨db, 0, none⟩ = some (.pointer (pa t)) ∧ Calls Try.prog 36 #[.pointer (pa t), .int .u64 id] W fun e w2 => ∃ q, e = .returned (.pointer q) ∧
        w2.cell? ⟨db, 0, none⟩ = some (.pointer (pa t)) ∧ w2.frozen? ⟨db, 0, none⟩ = false ∧ Left w base db T (del t.flat id) (w2.setCell ⟨db, 0, none⟩ (.pointer q))) := Lib.hid fun W hW => by
      have hd := hD.below hW (Nat.le_refl _)
      refine ⟨hd.blk.cell 0, (without_any t id hd.tree (List.nodup_cons.1 hd.nodup).2 hd.rise (by omega) (by rw [hf]; rfl)).mono fun e w2 ⟨t', g, he, ht, hfl, hp, ho⟩ => ?_⟩
      have hp2 : (db :: t.bs).Perm (g :: db :: t'.bs) := (hp.cons db).trans (List.Perm.swap g db _)
      obtain ⟨h1, h2, h3⟩ := dir_tail (L := []) hD hT hW ho ht (by rw [hfl]; exact hd.rise.del id) (List.nodup_cons.1 ((hp2.nodup_iff).1 hd.nodup)).2 (fun i hi => .inl (hp.mem_iff.2 (List.mem_cons_of_mem _ hi))) hB
      refine ⟨_, he, h1, h2, ?_⟩
      rw [← hfl]
      exact h3
    have HF := Lib.hid hf
    clear h hD hlen hT hf
    generalize pa t = q0 at HP
    go_enter Try.func25, Try.ntmps25
    go_wp2_with (fail)
    refine HN.out.mono ?_
    rintro e w1 ⟨q, rfl, hb, ⟨hf1, -⟩ | ⟨b, u, hf1, rfl, c1⟩⟩
    · rw [HF.out] at hf1; cases hf1
    · obtain ⟨c0, hcall⟩ := HP.out w1 hb
      have HW := Lib.hid hcall
      clear HN HP hb hcall hf1 c1
      go_wp2_with (fail)
      refine HW.out.mono ?_
      rintro e w2 ⟨q, rfl, d0, fz, hl⟩
      have HE := Lib.hid hl
      clear HW hl c0
      go_wp2_with (fail)
      go_ret
      exact ⟨rfl, HE.out⟩
/-! ### what is asked of a directory by what is in it -/
section
variable {w : World} {base db : Nat} {T : Nat → Prop} {F : List (Int × Int)}
theorem new_dy (w : World) : Calls Try.prog 22 #[] w fun e w' => ∃ db T, e = .returned (.pointer (some ⟨db, 0, none⟩)) ∧ Below w.heap.size w w' ∧ Dy w' w.heap.size db T [] :=
  (new_any w).mono fun e w' ⟨he, hb, hd⟩ => ⟨_, (· ∈ [w.heap.size]), he, hb, .nil, hd, rfl, fun i => Iff.rfl⟩
theorem find_dy (h : Dy w base db T F) (id : Int) : Calls Try.prog 23 #[.pointer (some ⟨db, 0, none⟩), .int .u64 id] w fun e w' => e = .returned (.tuple #[.int .i64 ((fd F id).getD 0), .bool (fd F id).isSome]) ∧ Below w.heap.size w w' := by
  obtain ⟨t, hD, rfl, -⟩ := h
  exact find_any hD id
theorem len_dy (h : Dy w base db T F) : Calls Try.prog 31 #[.pointer (some ⟨db, 0, none⟩)] w fun e w' => e = .returned (.int .i64 F.length) ∧ w = w' := by
  obtain ⟨t, hD, rfl, -⟩ := h
  rw [tfl]
  exact dlen_any hD
theorem ids_dy (h : Dy w base db T F) (hn : F.length ≤ 8796093022208) : Calls Try.prog 44 #[.pointer (some ⟨db, 0, none⟩)] w (IdsPost w w.heap.size F.length (kv F)) := by
  obtain ⟨t, hD, rfl, -⟩ := h
  rw [tfl] at hn ⊢
  exact dids_any hD hn
end
/-! ### of nil -/
theorem node_nil (id : Int) (w : World) : Calls Try.prog 34 #[.pointer none, .int .u64 id] w fun e w' => e = .returned (.pointer none) ∧ w = w' := by
  go_enter Try.func34, Try.ntmps34
  go_wp2_with (go_at_call 42; (with_reducible refine (all_nil _).mono ?_); rintro e w' ⟨rfl, rfl⟩)
  go_loopg [5] 0 (fun gk s5 wr => w = wr ∧ s5 = .pointer none)
  case atStart => exact ⟨rfl, rfl⟩
  case round =>
    obtain ⟨rfl, rfl⟩ := hrel
    go_wp2_with (fail)
    go_ret
    exact ⟨rfl, rfl⟩
theorem find_nil (id : Int) (w : World) : Calls Try.prog 23 #[.pointer none, .int .u64 id] w fun e w' => e = .returned (.tuple #[.int .i64 0, .bool false]) ∧ w = w' := by
  go_enter Try.func23, Try.ntmps23
  go_wp2_with (go_at_call 34; (with_reducible refine (node_nil _ _).mono ?_); rintro e w' ⟨rfl, rfl⟩)
  refine bodyPost_ret (v := .tuple #[.int .i64 0, .bool false]) (by simp [results, Try.results23, go_sem]) rfl ?_
  exact ⟨rfl, rfl⟩
theorem cut_nil (id : Int) (w : World) : Calls Try.prog 25 #[.pointer none, .int .u64 id] w fun e w' => e = .returned (.bool false) ∧ w = w' := by
  go_enter Try.func25, Try.ntmps25
  go_wp2_with (go_at_call 34; (with_reducible refine (node_nil _ _).mono ?_); rintro e w' ⟨rfl, rfl⟩)
  go_ret
  exact ⟨rfl, rfl⟩
theorem put_nil (id s : Int) (w : World) : Calls Try.prog 26 #[.pointer none, .int .u64 id, .int .i64 s] w fun e w' => e = .returned (.bool false) ∧ w = w' := by
  go_enter Try.func26, Try.ntmps26
  go_wp2_with (fail)
  go_ret
  exact ⟨rfl, rfl⟩
theorem nlen_nil (w : World) : Calls Try.prog 43 #[.pointer none] w fun e w' => e = .returned (.int .i64 0) ∧ w = w' := len_any (t := .nil) trivial
theorem len_nil (w : World) : Calls Try.prog 31 #[.pointer none] w fun e w' => e = .returned (.int .i64 0) ∧ w = w' := by
  go_enter Try.func31, Try.ntmps31
  go_wp2_with (first
    | (go_at_call 42; (with_reducible refine (all_nil _).mono ?_); rintro e w' ⟨rfl, rfl⟩)
    | (go_at_call 43; (with_reducible refine (nlen_nil _).mono ?_); rintro e w' ⟨rfl, rfl⟩))
  go_ret
  exact ⟨rfl, rfl⟩
theorem ids_nil (w : World) : Calls Try.prog 44 #[.pointer none] w (IdsPost w w.heap.size 0 []) := by
  obtain ⟨Z, hZ, hmk⟩ := make_u64s 0 (by omega) w
  have hown : (w.alloc (.cells Z 26)).ownsRow w.heap.size 26 1 (.slice (some ⟨w.heap.size, 0, none⟩) 0 0) 0 [] := World.ownsRow_made w Z _ (Nat.le_refl _) (by unfold maxLen; omega) hZ
  have hb : Below w.heap.size w (w.alloc (.cells Z 26)) := (Below.refl _ _).alloc (Nat.le_refl _) _
  have HI := Lib.hid ((ids_any .nil (w := w.alloc (.cells Z 26)) trivial (fun i hi => by simp [T.bs] at hi) hown hb.size (by simp [T.n])).mono fun e w' h => (show IdsPost w w.heap.size 0 [] e w' by
    obtain ⟨A, c, he, ho, hb2⟩ := h
    exact IdsPost.cast ⟨A, c, he, ho, hb.trans hb2⟩ (by simp [T.n]) (by simp [T.flat, kv])))
  have hp : pt T.nil = .pointer none := rfl
  rw [hp] at HI
  have e0 : ((0 : Nat) : Int) = 0 := rfl
  rw [e0] at hmk
  clear hown hb hp
  go_enter Try.func44, Try.ntmps44
  go_wp2_with (first
    | (go_at_call 42; (with_reducible refine (all_nil _).mono ?_); rintro e w' ⟨rfl, rfl⟩)
    | (go_at_call 43; (with_reducible refine (nlen_nil _).mono ?_); rintro e w' ⟨rfl, rfl⟩))
  refine HI.out.mono ?_
  rintro e w1 hE
  have HE := Lib.hid hE
  obtain ⟨A1, c1, rfl, -⟩ := hE
  go_wp2_with (fail)
  go_ret
  exact HE.out
end Go.Proofs.Ytaickhhbdbbmjaa.direct
