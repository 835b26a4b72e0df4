/-
  The contract of the document's own Parts of a thing.
-/
import Derived.Test.YtlgjbdgolchadaaRef5
import Derived.Test.YtlgjbdgolchadaaCodec
import Derived.Test.YtlgjbdgolchadaaLive5
import Derived.Deep.LoopGhost
import Derived.Deep.DeepCutAuto
namespace Go.Proofs.Ytlgjbdgolchadaa.obj
open Go.RowKit law bytes nums ord code
set_option linter.unusedVariables false

theorem pcl_one (q : Part) : pcl [q] = pcs q := by simp [pcl]
theorem pcl_snoc (l : List Part) (q : Part) : pcl l ++ pcs q = pcl (l ++ [q]) := by rw [pcl_append, pcl_one]
theorem pcs_one (q : Part) : ∀ u ∈ pcs q, u.oneCell' = true := by
  intro u hu
  simp only [pcs, List.mem_cons, List.not_mem_nil, or_false] at hu
  rcases hu with rfl | rfl | rfl | rfl | rfl | rfl | rfl | rfl <;> rfl
theorem new_cells (w : World) (q : Part) {t : Nat} : ∀ j u, (pcs q)[j]? = some u → (w.alloc (.cells (pcs q).toArray t)).cell? ((⟨w.heap.size, 0, none⟩ : Addr).add j) = some u := fun j u hu => by
  have h := (Blk.new w t (pcs q).toArray).cell j
  rw [add_zero_at, h]
  simpa using hu
theorem partE : (Try.prog.info? 75).map (fun i => (i.zero, i.size, i.bytes)) = some (some (.agg #[.int .i64 0, .int .u64 0, .int .i64 0, .bool false, .string ⟨#[]⟩, .int .i64 0, .int .i64 0, .int .i64 0]), 8, 72) := by kernel_rfl
/-- a row of parts of the call's own reads as them -/
theorem sl_row {w : World} {A : Option Addr} {base n c : Nat} {l : List Part} (h : w.ownsRow base 75 8 (.slice A n c) n (pcl l)) : Sl w w.heap.size A (pcl l) := fun j u hj => by
  rcases h.2 with ⟨_, hx⟩ | ⟨g, cap, cur, hv, _, hh, _⟩
  · have h1 := h.1
    rw [hx] at h1
    have : pcl l = [] := List.eq_nil_of_length_eq_zero (by omega)
    rw [this] at hj
    simp at hj
  · injection hv with hA
    subst hA
    exact ⟨_, rfl, (Array.getElem?_eq_some_iff.1 hh).1, h.cells (g := g) rfl j u hj⟩
theorem own_form' {w : World} {base : Nat} {e : TypeId} {size n : Nat} {v : Value} {xs : List Value} (h : w.ownsRow base e size v n xs) : ∃ A c, v = .slice A n c ∧ n ≤ c := own_slice h
def PartsMade (x : Thing) (w : World) (e : Ending) (w' : World) : Prop := ∃ A c, e = .returned (.slice A (partsO x).length c) ∧ Sl w' w'.heap.size A (pcl (partsO x)) ∧ Below w.heap.size w w'
theorem take_snoc (l : List Int) (a b : Part) (k : Nat) (h : k < l.length) : a :: b :: (l.take (k + 1)).map partI = (a :: b :: (l.take k).map partI) ++ [partI l[k]] := by
  rw [List.take_succ_eq_append_getElem h, List.map_append]
  rfl
set_option maxHeartbeats 1600000 in
set_option maxRecDepth 100000 in
theorem parts_any (A : Option Addr) (c B : Nat) (x : Thing) (w : World) (hB : B ≤ w.heap.size) (hs : Sl w B A (iv x.vec)) (hok : Okay x) (hvl : x.vec.length ≤ 1048576) :
    Calls Try.prog 23 #[.agg #[.int .i64 x.tag, .slice A x.vec.length c, .string x.str]] w (PartsMade x w) := by
  have HOK := Lib.hid hok.2
  clear hok
  have hP : partsO x = partI x.tag :: (if x.tag = 1 then partN x.vec.length :: x.vec.map partI else if x.tag = 2 then [partT x.str] else []) := rfl
  have hb0 : Below w.heap.size w (w.alloc (.cells #[.int .i64 x.tag, .slice A x.vec.length c, .string x.str] 24)) := (Below.refl _ w).alloc (Nat.le_refl _) _
  have hblk := Blk.new w 24 #[.int .i64 x.tag, .slice A x.vec.length c, .string x.str]
  have hs0 := hs.alloc (o := .cells #[.int .i64 x.tag, .slice A x.vec.length c, .string x.str] 24) hB
  obtain ⟨i0, hi, hz0, hz1, hz2⟩ := info_parts partE
  obtain ⟨V, hV⟩ : ∃ V, V = w.alloc (.cells #[.int .i64 x.tag, .slice A x.vec.length c, .string x.str] 24) := ⟨_, rfl⟩
  rw [← hV] at hb0 hblk hs0
  have hsz := hb0.size
  have hgl := hblk.lt
  have hr1 : (V.alloc (.cells (pcs (partI x.tag)).toArray 75)).ownsRow V.heap.size 75 8 (.slice (some ⟨V.heap.size, 0, none⟩) 1 1) 1 (pcl [partI x.tag]) := by
    have h := World.ownsRow_lit (size := 8) (e := 75) V (pcs (partI x.tag)).toArray 1 (Nat.le_refl _) (by unfold maxLen; omega) rfl
    rwa [← pcl_one] at h
  have hb1 : Below V.heap.size V (V.alloc (.cells (pcs (partI x.tag)).toArray 75)) := (Below.refl _ V).alloc (Nat.le_refl _) _
  have HS0 := Lib.hid hs0
  have HBLK : Hid (∀ W, Below V.heap.size V W → Blk W w.heap.size 24 #[.int .i64 x.tag, .slice A x.vec.length c, .string x.str]) := Lib.hid fun W hW => hblk.below hW hgl
  obtain ⟨c0, c1, c2, cf⟩ := cells3 (HBLK.out _ hb1)
  obtain ⟨W, hW⟩ : ∃ W, W = V.alloc (.cells (pcs (partI x.tag)).toArray 75) := ⟨_, rfl⟩
  rw [← hW] at hr1 hb1 c0 c1 c2 cf
  have hWz : V.heap.size ≤ W.heap.size := hb1.size
  have hbW := hb1
  have HB := Lib.hid hb0
  clear hs hs0 hblk hb0 hb1
  have hvz : V.heap.size = w.heap.size + 1 := by rw [hV]; simp
  have hWV : W = ((w.alloc (.cells #[.int .i64 x.tag, .slice A x.vec.length c, .string x.str] 24)).alloc (.cells #[.int .i64 1, .int .u64 0, .int .i64 x.tag, .bool false, .string ⟨#[]⟩, .int .i64 0, .int .i64 0, .int .i64 0] 75)) := by rw [hW, hV]; rfl
  have HWV := Lib.hid hWV
  have HVZ := Lib.hid hvz
  clear hV hW hvz hWV
  by_cases k1 : x.tag = 1
  · have hP1 : partsO x = partI x.tag :: partN x.vec.length :: x.vec.map partI := by rw [hP, if_pos k1]
    have HP := Lib.hid hP1
    have e1 : (x.tag == 1) = true := by simpa using k1
    have e2 : (x.tag == 2) = false := by rw [k1]; rfl
    clear hP hP1 k1
    unfold PartsMade
    go_enter Try.func23, Try.ntmps23
    go_upto_region 3 with (fail)
    rw [← HWV.out, ← HVZ.out]
    go_wp2_with (at_builtin
                 refine wpList_append_own _ rfl (.tmp 12) (.tmp 18) _ rfl V.heap.size 75 i0 _ 8 72 Try.underlying46 hi hz0 hz1 hz2 rfl (by omega) (.slice (some ⟨V.heap.size, 0, none⟩) 1 1) 1 (pcl [partI x.tag]) rfl (hr1.alloc _) ⟨W.heap.size, 0, none⟩ 1 1 (pcs (partN x.vec.length)) rfl rfl (new_cells W (partN x.vec.length)) (pcs_one (partN x.vec.length)) (by unfold maxLen; omega) (by omega) (by simp; omega) ?_
                 intro v2 w2 hown2 hg2 hnil2
                 rw [pcl_snoc] at hown2
                 obtain ⟨A2, k2, rfl, hk2⟩ := own_form' hown2
                 have hb2 : Below V.heap.size V w2 := (hbW.alloc hbW.size (.cells (pcs (partN x.vec.length)).toArray 75)).grown hg2 (by have := hbW.size; simp; omega) (fun j hj => (hr1.lt j hj).1))
    obtain ⟨d0, d1, d2, df⟩ := cells3 (HBLK.out _ hb2)
    go_loopw [3, 4] (fun l i wr => ∃ (k c' : Nat) (A' : Option Addr), k ≤ x.vec.length ∧ i = .int .i64 k ∧ l = .slice A' (2 + k) c' ∧ wr.ownsRow V.heap.size 75 8 (.slice A' (2 + k) c') (2 + k) (pcl (partI x.tag :: partN x.vec.length :: (x.vec.take k).map partI)) ∧ Below V.heap.size V wr) (fun _ i _ => x.vec.length - (intOf i).toNat)
    case atStart => exact ⟨0, k2, A2, Nat.zero_le _, rfl, rfl, hown2, hb2⟩
    case round =>
      clear hown2 hb2 d0 d1 d2 df hg2 hnil2 c0 c1 c2 cf hr1
      obtain ⟨k, c', A', hk, rfl, rfl, hown, hbW'⟩ := hrel
      obtain ⟨d0, d1, d2, df⟩ := cells3 (HBLK.out _ hbW')
      have hWz' := hbW'.size
      clear hbW
      have hbW := hbW'
      by_cases hlt : k < x.vec.length
      · have hsW := HS0.out.below (hbW.mono (by omega))
        obtain ⟨ad, rfl, -, hc⟩ := Sl.num hsW hlt
        have HT := Lib.hid (take_snoc x.vec (partI x.tag) (partN x.vec.length) k hlt)
        have hbd := HOK.out x.vec[k] (List.getElem_mem hlt)
        generalize x.vec[k] = v at hc HT hbd
        clear hsW
        go_wp2_with (at_builtin
                     refine wpList_append_own _ rfl (.tmp 27) (.tmp 35) _ rfl V.heap.size 75 i0 _ 8 72 Try.underlying46 hi hz0 hz1 hz2 rfl (by omega) (.slice A' (2 + k) c') (2 + k) (pcl (partI x.tag :: partN x.vec.length :: (x.vec.take k).map partI)) rfl (hown.alloc _) ⟨wr.heap.size, 0, none⟩ 1 1 (pcs (partI v)) rfl rfl (new_cells wr (partI v)) (pcs_one (partI v)) (by unfold maxLen; omega) (by omega) (by simp; omega) ?_
                     intro v2 w2 hown2 hg2 hnil2
                     rw [pcl_snoc] at hown2
                     obtain ⟨A2, k2, rfl, hk2⟩ := own_form' hown2
                     have hb2 : Below V.heap.size V w2 := (hbW.alloc hbW.size (.cells (pcs (partI v)).toArray 75)).grown hg2 (by have := hbW.size; simp; omega) (fun j hj => (hown.lt j hj).1))
        go_roundw
        case rel => exact ⟨k + 1, k2, A2, by omega, by go_num, rfl, by rw [HT.out]; exact hown2, hb2⟩
        case measure => simp [intOf]; omega
      · obtain rfl : k = x.vec.length := by omega
        go_wp2_with (fail)
        go_ret
        rw [List.take_length, ← HP.out] at hown
        have hl : 2 + x.vec.length = (partsO x).length := by rw [HP.out]; simp; omega
        rw [hl] at hown ⊢
        exact ⟨A', c', rfl, sl_row hown, HB.out.trans (hbW.mono HB.out.size)⟩
  by_cases k2 : x.tag = 2
  · have hP1 : partsO x = [partI x.tag, partT x.str] := by rw [hP, if_neg k1, if_pos k2]
    have HP := Lib.hid hP1
    have e1 : (x.tag == 1) = false := by simpa using k1
    have e2 : (x.tag == 2) = true := by simpa using k2
    clear hP hP1 k1 k2
    unfold PartsMade
    go_enter Try.func23, Try.ntmps23
    go_upto_region 9 with (fail)
    rw [← HWV.out, ← HVZ.out]
    go_wp2_with (at_builtin
                 refine wpList_append_own _ rfl (.tmp 40) (.tmp 44) _ rfl V.heap.size 75 i0 _ 8 72 Try.underlying46 hi hz0 hz1 hz2 rfl (by omega) (.slice (some ⟨V.heap.size, 0, none⟩) 1 1) 1 (pcl [partI x.tag]) rfl (hr1.alloc _) ⟨W.heap.size, 0, none⟩ 1 1 (pcs (partT x.str)) rfl rfl (new_cells W (partT x.str)) (pcs_one (partT x.str)) (by unfold maxLen; omega) (by omega) (by simp; omega) ?_
                 intro v2 w2 hown2 hg2 hnil2
                 rw [pcl_snoc] at hown2
                 obtain ⟨A2, k2, rfl, hk2⟩ := own_form' hown2
                 have hb2 : Below V.heap.size V w2 := (hbW.alloc hbW.size (.cells (pcs (partT x.str)).toArray 75)).grown hg2 (by have := hbW.size; simp; omega) (fun j hj => (hr1.lt j hj).1))
    go_ret
    rw [HP.out]
    exact ⟨A2, k2, rfl, sl_row hown2, HB.out.trans (hb2.mono HB.out.size)⟩
  have hP1 : partsO x = [partI x.tag] := by rw [hP, if_neg k1, if_neg k2]
  have HP := Lib.hid hP1
  have e1 : (x.tag == 1) = false := by simpa using k1
  have e2 : (x.tag == 2) = false := by simpa using k2
  clear hP hP1 k1 k2
  unfold PartsMade
  go_enter Try.func23, Try.ntmps23
  go_upto_region 8 with (fail)
  rw [← HWV.out, ← HVZ.out]
  go_wp2_with (fail)
  go_ret
  rw [HP.out]
  exact ⟨_, 1, rfl, sl_row hr1, HB.out.trans (hbW.mono HB.out.size)⟩
end Go.Proofs.Ytlgjbdgolchadaa.obj
