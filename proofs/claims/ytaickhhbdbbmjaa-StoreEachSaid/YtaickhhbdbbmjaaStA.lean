/-
  The contract of all: a row of the call's own of all things as they are kept, by rising numbers.
-/
import Derived.Test.YtaickhhbdbbmjaaStC
import Derived.Deep.LoopGhost
namespace Go.Proofs.Ytaickhhbdbbmjaa.store
open Go.RowKit law bytes only flat ord obj direct aro
set_option linter.unusedVariables false

/-- an item's cells -/
def iE (p : Int × Kept) : List Value := [.int .u64 p.1, .int .i64 p.2.x.tag, .slice p.2.A p.2.x.vec.length p.2.c, .string p.2.x.str]
theorem iE_len (p : Int × Kept) : (iE p).length = 4 := rfl
theorem itemK : ElemK Try.prog 31 4 56 := elemK_mk (z := .agg #[.int .u64 0, .int .i64 0, .slice none 0 0, .string ⟨#[]⟩]) (by kernel_rfl) rfl
theorem iE_one (r : List (Int × Kept)) : ∀ u ∈ r.flatMap iE, u.oneCell' = true := by
  intro u hu
  simp only [List.mem_flatMap, iE, List.mem_cons, List.not_mem_nil, or_false] at hu
  obtain ⟨a, -, rfl | rfl | rfl | rfl⟩ := hu <;> rfl
/-- the things of items -/
def rM (r : List (Int × Kept)) : List (Int × Thing) := r.map fun p => (p.1, p.2.x)
theorem rM_length (r : List (Int × Kept)) : (rM r).length = r.length := by simp [rM]
/-- each thing's numbers lie in T's memory -/
def Reads (w : World) (T : Nat → Prop) (r : List (Int × Kept)) : Prop := ∀ p ∈ r, Tl w T p.2.A (iv p.2.x.vec) ∧ Fit p.2.x
theorem Reads.only {w w' : World} {T S : Nat → Prop} {r : List (Int × Kept)} (h : Reads w T r) (o : Only S w w') (hT : ∀ i, T i → i < w.heap.size) (hS : ∀ i, T i → ¬ S i) : Reads w' T r := fun p hp => ⟨(h p hp).1.only o hT hS, (h p hp).2⟩
theorem make_items (n : Nat) (hn : n ≤ 2513169434916) (u : World) : ∃ Z : Array Value, Z.size = n * 4 ∧ (Instr.makeSlice 25 (.int .i64 0) (.int .i64 (n : Int))).run Try.prog u =
    .ok (.slice (some ⟨u.heap.size, 0, none⟩) 0 n) (u.alloc (.cells Z 31)) := by
  obtain ⟨i, z, hi, hz, hsz, hby, hzs⟩ := itemK
  have h := run_make (P := Try.prog) u 25 31 i z Try.underlying25 hi hz .i64 .i64 0 (n : Int) (by omega) (by omega) (by rw [hby]; omega) (by omega)
  simp only [Int.toNat_zero, Int.toNat_natCast] at h
  exact ⟨_, by rw [size_madeCells, hsz], h⟩
/-- all things, as they are kept -/
def AllP (w : World) (T : Nat → Prop) (M : List (Int × Thing)) (e : Ending) (w' : World) : Prop := ∃ A c, ∃ r : List (Int × Kept), e = .returned (.slice A r.length c) ∧ w'.ownsRow w.heap.size 31 4 (.slice A r.length c) r.length (r.flatMap iE) ∧ rM r = M ∧ Reads w T r ∧ Below w.heap.size w w'
theorem AllP.mk {w w' : World} {T : Nat → Prop} {M : List (Int × Thing)} {A : Option Addr} {m c : Nat} {r : List (Int × Kept)} (ho : w'.ownsRow w.heap.size 31 4 (.slice A m c) m (r.flatMap iE)) (hm : rM r = M) (hr : Reads w T r) (hb : Below w.heap.size w w') : AllP w T M (.returned (.slice A m c)) w' := by
  have : m = r.length := by have := ho.1; rw [flat_length iE_len] at this; omega
  subst this
  exact ⟨A, c, r, rfl, ho, hm, hr, hb⟩
theorem all_nil (w : World) : Calls Try.prog 33 #[.pointer none] w fun e w' => e = .returned (.slice none 0 0) ∧ w = w' := by
  go_enter Try.func33, Try.ntmps33
  go_wp2_with (fail)
  go_ret
  exact ⟨rfl, rfl⟩
set_option maxRecDepth 100000 in
set_option maxHeartbeats 3200000 in
theorem all_st {w : World} {base sb n : Nat} {T : Nat → Prop} {M : List (Int × Thing)} (h : St w base sb T M n) (hB : base ≤ w.heap.size) (hm : n ≤ 2513169434915) :
    Calls Try.prog 33 #[.pointer (some ⟨sb, 0, none⟩)] w (AllP w T M) := by
  have h0 := h
  obtain ⟨ab, db, TA, TD, d, f, F, hx, hF⟩ := h
  have c1 : w.cell? ⟨sb, 1, none⟩ = some (.pointer (some ⟨db, 0, none⟩)) := hx.blk.cell 1
  have hlf := hx.lenF
  have HI := Lib.hid (ids_dy hx.dy (by omega))
  have HT : Hid (∀ i, T i → i < w.heap.size) := Lib.hid fun i e => (hx.low i e).2
  have hR := hx.dy.rise
  have HFD : Hid (∀ k (hk : k < F.length), ∃ x, mf M F[k].1 = some x ∧ M[k]? = some (F[k].1, x)) := Lib.hid fun k hk => by
    rw [← hF, mf_its, fd_of_mem hR (id := F[k].1) (v := F[k].2) (List.getElem_mem hk)]
    exact ⟨_, rfl, by simp [its, hk]⟩
  have hML : M.length = F.length := by rw [← hF, its_length]
  have H0 := Lib.hid h0
  clear h0 hx hF hR
  go_enter Try.func33, Try.ntmps33
  go_wp2_with (fail)
  refine HI.out.mono ?_
  rintro e w2 ⟨Ai, ci, rfl, hids, hb2⟩
  obtain ⟨Z, hZ, hmk⟩ := make_items F.length (by omega) w2
  have s2 := hb2.size
  have HS2 := Lib.hid (Sl.of_own hids)
  have hb3 : Below w2.heap.size w2 (w2.alloc (.cells Z 31)) := (Below.refl _ _).alloc (Nat.le_refl _) _
  have HO0 : Hid ((w2.alloc (.cells Z 31)).ownsRow w2.heap.size 31 4 (.slice (some ⟨w2.heap.size, 0, none⟩) 0 F.length) 0 (([] : List (Int × Kept)).flatMap iE)) := Lib.hid (World.ownsRow_made w2 Z _ (Nat.le_refl _) (by unfold maxLen; omega) hZ)
  have HB2 := Lib.hid hb2
  have HB3 := Lib.hid hb3
  clear HI hids hb2 hb3 hZ c1
  go_wp2_with (fail)
  go_loopg [4, 21] F.length (fun gk s4 s21 wr => ∃ (k c' : Nat) (A' : Option Addr) (r : List (Int × Kept)), gk = F.length - k ∧ k ≤ F.length ∧ s4 = .slice A' k c' ∧ s21 = .int .i64 k ∧ wr.ownsRow w2.heap.size 31 4 (.slice A' k c') k (r.flatMap iE) ∧ rM r = M.take k ∧ Reads w T r ∧ Below w2.heap.size w2 wr)
  case atStart => exact ⟨0, F.length, some ⟨w2.heap.size, 0, none⟩, [], rfl, Nat.zero_le _, rfl, rfl, HO0.out, rfl, fun p hp => by simp at hp, HB3.out⟩
  case round =>
    clear HO0 HB3 hmk
    obtain ⟨k, c', A', r, rfl, hk, rfl, rfl, hown, hrm, hrd, hb⟩ := hrel
    have hbw : Below w.heap.size w wr := HB2.out.trans (hb.mono s2)
    by_cases hlt : k < F.length
    · obtain ⟨ad, rfl, -, hc⟩ := (HS2.out.below hb).at_ (k := k) (by simp [kv]; omega)
      have i1 : (k : Int) < (F.length : Int) := by omega
      obtain ⟨x, hmf, hmk⟩ := HFD.out k hlt
      generalize hid : F[k].1 = id at hmf hmk
      have q0 : wr.cell? (ad.add k) = some (.int .u64 id) := by
        rw [hc, ← hid]
        simp [kv]
      have hO := own_st (H0.out.below hbw) id
      rw [hmf] at hO
      have HO : Hid (Calls Try.prog 29 #[.pointer (some ⟨sb, 0, none⟩), .int .u64 id] wr fun e w' => ∃ A5 c5, e = .returned (.tuple #[.agg #[.int .i64 x.tag, .slice A5 x.vec.length c5, .string x.str], .bool true]) ∧ Reads w T (r ++ [(id, (⟨x, A5, c5⟩ : Kept))]) ∧ Below wr.heap.size wr w') := Lib.hid (hO.mono fun e w' ⟨A5, c5, he, hs, hfit, hb5⟩ => by
        refine ⟨A5, c5, he, fun p hp => ?_, hb5⟩
        rcases List.mem_append.1 hp with hp | hp
        · exact hrd p hp
        · obtain rfl : p = (id, ⟨x, A5, c5⟩) := by simpa using hp
          exact ⟨hs.back hbw HT.out, hfit⟩)
      have hT1 : rM r ++ [(id, x)] = M.take (k + 1) := by rw [List.take_add_one, hmk, hrm]; rfl
      have HT1 := Lib.hid hT1
      have HN := Lib.hid hown
      have HBr := Lib.hid hb
      clear hc hid hmf hmk hO hT1 hrd hrm hbw hown hb
      go_wp2_with (fail)
      refine HO.out.mono ?_
      rintro e w5 ⟨A5, c5, rfl, hrd5, hb5⟩
      have hal : Below w5.heap.size w5 (w5.alloc (.cells #[.int .i64 x.tag, .slice A5 x.vec.length c5, .string x.str] 29)) := (Below.refl _ _).alloc (Nat.le_refl _) _
      have hown6 := own_below (own_below HN.out hb5 (Nat.le_refl _)) hal (Nat.le_refl _)
      have hb6 : Below w2.heap.size w2 (w5.alloc (.cells #[.int .i64 x.tag, .slice A5 x.vec.length c5, .string x.str] 29)) := (HBr.out.trans (hb5.mono HBr.out.size)).trans (hal.mono (Nat.le_trans HBr.out.size hb5.size))
      obtain ⟨x0, x1, x2, -⟩ := cells3 (Blk.new w5 29 #[.int .i64 x.tag, .slice A5 x.vec.length c5, .string x.str])
      generalize hV : w5.alloc (.cells #[.int .i64 x.tag, .slice A5 x.vec.length c5, .string x.str] 29) = V at hown6 hb6 x0 x1 x2
      have HRD := Lib.hid hrd5
      have s6 := hb6.size
      have hf6 : (iE (id, ⟨x, A5, c5⟩)).length = 1 * 4 := rfl
      have hfl := flat_length iE_len r
      have HX : Hid (∀ v4 w4, w4.ownsRow w2.heap.size 31 4 v4 (k + 1) (r.flatMap iE ++ iE (id, (⟨x, A5, c5⟩ : Kept))) → (V.alloc (.cells #[.int .u64 id, .int .i64 x.tag, .slice A5 x.vec.length c5, .string x.str] 31)).grownBy w4 (Value.slice A' k c').ownBlock → w4.ownsRow w2.heap.size 31 4 v4 (k + 1) ((r ++ [(id, (⟨x, A5, c5⟩ : Kept))]).flatMap iE) ∧ rM (r ++ [(id, (⟨x, A5, c5⟩ : Kept))]) = M.take (k + 1) ∧ Below w2.heap.size w2 w4) := Lib.hid fun v4 w4 ho hg => by
        refine ⟨?_, ?_, below_appendK1 hb6 s6 _ hown6 (Nat.le_refl _) hg⟩
        · rw [List.flatMap_append]
          simpa using ho
        · rw [← HT1.out]
          simp [rM]
      clear HO hb5 hal hrd5 HN
      go_wp2_with (at_builtin
                   refine wpList_append_slk _ rfl (.tmp 31) (.tmp 35) _ rfl w2.heap.size 31 4 56 Try.underlying25 itemK (by decide) (.slice A' k c') k (r.flatMap iE) rfl (World.ownsRow.alloc (w := V) hown6 _) _ _ 1 1 (iE (id, ⟨x, A5, c5⟩)) rfl (Sl.lit V _ _) hf6 (fun u hu => iE_one [(id, (⟨x, A5, c5⟩ : Kept))] u (by simpa using hu)) (by omega) (by unfold maxLen; omega) (by simp; omega) ?_
                   intro v4 w4 hown4 hg4 hat4
                   obtain ⟨hr4, hm4, hb4⟩ := HX.out v4 w4 hown4 hg4
                   obtain ⟨A4, c4, rfl, hc4⟩ := own_slice hown4)
      go_roundg (F.length - (k + 1))
      case measure => omega
      case rel => exact ⟨k + 1, c4, A4, _, rfl, by omega, rfl, by go_num, hr4, hm4, HRD.out, hb4⟩
    · obtain rfl : k = F.length := by omega
      have i1 : ¬ (F.length : Int) < (F.length : Int) := by omega
      have HE : Hid (AllP w T M (.returned (.slice A' F.length c')) wr) := Lib.hid (AllP.mk (own_base hown s2) (by rw [hrm, ← hML, List.take_length]) hrd hbw)
      clear hown hb hrm hrd hbw
      go_wp2_with (fail)
      go_ret
      exact HE.out
end Go.Proofs.Ytaickhhbdbbmjaa.store
