/-
  The contracts of the document's Sort of hits, of hits.Ids, hits.Find and what it calls.
-/
import Derived.Test.YtbpeblmjnipakaaHitR
namespace Go.Proofs.Ytbpeblmjnipakaa.hit
open Go.RowKit law bytes only flat Go.Sort Go.Shelf
set_option linter.unusedVariables false

set_option maxRecDepth 100000 in
set_option maxHeartbeats 3200000 in
theorem rsort_any (A : Option Addr) (l : List Hit) (c B : Nat) (w : World) (hm : l.length * 16 ≤ 140737488355328) (hB : B ≤ w.heap.size) (hs : Sl w B A (hv l)) :
    Calls Try.prog 5 #[.slice A l.length c] w (Own (sortH l) w) := by
  have HS := Lib.hid hs
  clear hs
  go_enter Try.func5, Try.ntmps5
  go_wp2_with (fail)
  go_loopg [3, 4] l.length (fun gk s3 s4 wr => ∃ (k c' : Nat) (A' : Option Addr), gk = l.length - k ∧ k ≤ l.length ∧ s3 = .slice A' k c' ∧ s4 = .int .i64 k ∧ wr.ownsRow w.heap.size 31 2 (.slice A' k c') k (hv (sortH (l.take k))) ∧ Below w.heap.size w wr)
  case atStart => exact ⟨0, 0, none, rfl, Nat.zero_le _, rfl, rfl, by rw [List.take_zero]; exact World.ownsRow_nil _ _ _ _, Below.refl _ _⟩
  case round =>
    obtain ⟨k, c', A', rfl, hk, rfl, rfl, hown, hb⟩ := hrel
    have hlk : (sortH (l.take k)).length = k := by rw [sortH_length, List.length_take]; omega
    by_cases hlt : k < l.length
    · obtain ⟨b, o, rfl, hb1, hc0, hc1⟩ := Sl.hitAt ((HS.out.more hB).below hb) hlt
      have h := put_any A' c' (sortH (l.take k)) l[k] wr (by rw [hlk]; omega) (Sl.of_ownK hown)
      rw [hlk, ← sortH_take l k hlt] at h
      have hlk2 : (sortH (l.take (k + 1))).length = k + 1 := by rw [sortH_length, List.length_take]; omega
      have HP : Hid (Calls Try.prog 11 #[.slice A' k c', .agg #[.int .u64 l[k].1, .int .i64 l[k].2]] wr fun e w' => ∃ A2 c2, e = .returned (.slice A2 (k + 1) c2) ∧ w'.ownsRow w.heap.size 31 2 (.slice A2 (k + 1) c2) (k + 1) (hv (sortH (l.take (k + 1)))) ∧ Below w.heap.size w w') :=
        Lib.hid (h.mono fun e w' ⟨A2, c2, he, ho, hb2⟩ => ⟨A2, c2, by rw [he, hlk2], by rw [hlk2] at ho; exact own_base ho hb.size, hb.trans (hb2.mono hb.size)⟩)
      obtain ⟨⟨x, y⟩, hx⟩ : ∃ x, l[k] = x := ⟨_, rfl⟩
      rw [hx] at hc0 hc1 HP
      dsimp only at hc0 hc1 HP
      have i1 : (k : Int) < (l.length : Int) := by omega
      clear h hlk hlk2 hx hown hb
      go_wp2_with (fail)
      refine HP.out.mono ?_
      rintro e w2 ⟨A2, c2, rfl, ho, hb2⟩
      go_wp2_with (fail)
      go_roundg (l.length - (k + 1))
      case measure => omega
      case rel => exact ⟨k + 1, c2, A2, rfl, by omega, rfl, by go_num, ho, hb2⟩
    · obtain rfl : k = l.length := by omega
      have i1 : ¬ (l.length : Int) < (l.length : Int) := by omega
      have HE : Hid (Own (sortH l) w (.returned (.slice A' l.length c')) wr) := Lib.hid (Own.mk hown (by rw [List.take_length]) hb)
      clear hown hb hlk
      go_wp2_with (fail)
      go_ret
      exact HE.out

/-! ### numbers -/
def idv (l : List Hit) : List Value := l.map fun x => .int .u64 x.1
theorem idv_length (l : List Hit) : (idv l).length = l.length := by simp [idv]
theorem idv_take (l : List Hit) (k : Nat) (hk : k < l.length) : idv (l.take (k + 1)) = idv (l.take k) ++ [.int .u64 l[k].1] := by
  unfold idv
  rw [List.take_succ_eq_append_getElem hk, List.map_append]
  rfl
theorem u64E : Elem Try.prog 27 (.int .u64 0) 8 := elem_mk (by kernel_rfl) rfl
theorem make_ids (n : Nat) (hn : n ≤ 8796093022208) (u : World) : ∃ Z : Array Value, Z.size = n * 1 ∧ (Instr.makeSlice 28 (.int .i64 0) (.int .i64 (n : Int))).run Try.prog u =
    .ok (.slice (some ⟨u.heap.size, 0, none⟩) 0 n) (u.alloc (.cells Z 27)) := by
  obtain ⟨i, hi, hz, hsz, hby, hzs⟩ := u64E
  have h := run_make (P := Try.prog) u 28 27 i (.int .u64 0) Try.underlying28 hi hz .i64 .i64 0 (n : Int) (by omega) (by omega) (by rw [hby]; omega) (by omega)
  simp only [Int.toNat_zero, Int.toNat_natCast] at h
  exact ⟨_, by rw [size_madeCells, hsz], h⟩
/-- a row of the hits' numbers, and what there was is as it was -/
def IdRow (l : List Hit) (w : World) (e : Ending) (w' : World) : Prop := ∃ A c, e = .returned (.slice A l.length c) ∧ Sl w' w'.heap.size A (idv l) ∧ Below w.heap.size w w'
set_option maxRecDepth 100000 in
set_option maxHeartbeats 3200000 in
theorem ids_any (A : Option Addr) (l : List Hit) (c B : Nat) (w : World) (hm : l.length * 16 ≤ 140737488355328) (hB : B ≤ w.heap.size) (hs : Sl w B A (hv l)) :
    Calls Try.prog 9 #[.slice A l.length c] w (IdRow l w) := by
  have HS := Lib.hid hs
  clear hs
  obtain ⟨Z, hZ, hmk⟩ := make_ids l.length (by omega) w
  have hown0 : (w.alloc (.cells Z 27)).ownsRow w.heap.size 27 1 (.slice (some ⟨w.heap.size, 0, none⟩) 0 l.length) 0 [] := World.ownsRow_made w Z _ (Nat.le_refl _) (by unfold maxLen; omega) hZ
  have HO := Lib.hid hown0
  have HB0 : Hid (Below w.heap.size w (w.alloc (.cells Z 27))) := Lib.hid ((Below.refl _ w).alloc (Nat.le_refl _) _)
  clear hown0 hZ
  go_enter Try.func9, Try.ntmps9
  go_wp2_with (fail)
  go_loopg [3, 11] l.length (fun gk s3 s11 wr => ∃ (k c' : Nat) (A' : Option Addr), gk = l.length - k ∧ k ≤ l.length ∧ s3 = .slice A' k c' ∧ s11 = .int .i64 k ∧ wr.ownsRow w.heap.size 27 1 (.slice A' k c') k (idv (l.take k)) ∧ Below w.heap.size w wr)
  case atStart => exact ⟨0, l.length, some ⟨w.heap.size, 0, none⟩, rfl, Nat.zero_le _, rfl, rfl, HO.out, HB0.out⟩
  case round =>
    clear HO HB0 hmk
    obtain ⟨k, c', A', rfl, hk, rfl, rfl, hown, hb⟩ := hrel
    by_cases hlt : k < l.length
    · obtain ⟨b, o, rfl, hb1, hc0, hc1⟩ := Sl.hitAt ((HS.out.more hB).below hb) hlt
      have HT : Hid (idv (l.take (k + 1)) = idv (l.take k) ++ [.int .u64 l[k].1]) := Lib.hid (idv_take l k hlt)
      obtain ⟨⟨x, y⟩, hx⟩ : ∃ x, l[k] = x := ⟨_, rfl⟩
      rw [hx] at hc0 hc1 HT
      dsimp only at hc0 hc1 HT
      have i1 : (k : Int) < (l.length : Int) := by omega
      have hsz := hb.size
      clear hx
      have hown1 : (wr.alloc (.cells #[.int .u64 x, .int .i64 y] 31)).ownsRow w.heap.size 27 1 (.slice A' k c') k (idv (l.take k)) := World.ownsRow.alloc (w := wr) hown _
      have hb1 : Below w.heap.size w (wr.alloc (.cells #[.int .u64 x, .int .i64 y] 31)) := hb.alloc hsz _
      have hnew : ∀ g, g = (wr.alloc (.cells #[.int .u64 x, .int .i64 y] 31)).heap.size → Sl ((wr.alloc (.cells #[.int .u64 x, .int .i64 y] 31)).alloc (.cells #[.int .u64 x] 27)) ((wr.alloc (.cells #[.int .u64 x, .int .i64 y] 31)).alloc (.cells #[.int .u64 x] 27)).heap.size (some ⟨g, 0, none⟩) [.int .u64 x] := fun g hg => by
        subst hg
        exact Sl.one _ _ _
      go_wp2_with (at_builtin
                   refine wpList_append_sl _ rfl (.tmp 15) (.tmp 18) _ rfl w.heap.size 27 _ 8 Try.underlying28 u64E (.slice A' k c') k (idv (l.take k)) rfl (World.ownsRow.alloc (w := wr.alloc (.cells #[.int .u64 x, .int .i64 y] 31)) hown1 _) _ _ 1 1 [.int .u64 x] rfl (hnew _ (by simp)) rfl (by simp [Value.oneCell']) (by omega) (by unfold maxLen; omega) (by simp; omega) ?_
                   intro v4 w4 hown4 hg4 hat4
                   obtain ⟨A4, c4, rfl, hc4⟩ := own_slice hown4)
      go_roundg (l.length - (k + 1))
      case measure => omega
      case rel => exact ⟨k + 1, c4, A4, rfl, by omega, rfl, by go_num, by rw [HT.out]; exact hown4, below_append hb1 (by simp; omega) _ hown1 (Nat.le_refl _) hg4⟩
    · obtain rfl : k = l.length := by omega
      have i1 : ¬ (l.length : Int) < (l.length : Int) := by omega
      have HE : Hid (Sl wr wr.heap.size A' (idv l) ∧ Below w.heap.size w wr) := Lib.hid ⟨by have := Sl.of_own hown; rwa [List.take_length] at this, hb⟩
      clear hown hb
      go_wp2_with (fail)
      go_ret
      exact ⟨A', c', rfl, HE.out.1, HE.out.2⟩

/-! ### the first one of a number -/
theorem find_none {p : Hit → Bool} {l : List Hit} {k : Nat} (h : (l.take k).find? p = none) (hk : k < l.length) (hp : p l[k] = false) : (l.take (k + 1)).find? p = none := by
  rw [List.take_succ_eq_append_getElem hk, List.find?_append, h, Option.none_or, List.find?_cons, hp]
  rfl
theorem find_here {p : Hit → Bool} {l : List Hit} {k : Nat} (h : (l.take k).find? p = none) (hk : k < l.length) (hp : p l[k] = true) : l.find? p = some l[k] := by
  have e : l = l.take k ++ l[k] :: l.drop (k + 1) := by rw [← List.drop_eq_getElem_cons hk, List.take_append_drop]
  have e2 : (l.take k ++ l[k] :: l.drop (k + 1)).find? p = some l[k] := by rw [List.find?_append, h, Option.none_or, List.find?_cons, hp]
  rwa [← e] at e2
theorem find_take {p : Hit → Bool} {l : List Hit} {k : Nat} {x : Hit} (h : (l.take k).find? p = some x) (hk : k < l.length) : (l.take (k + 1)).find? p = some x := by
  rw [List.take_succ_eq_append_getElem hk, List.find?_append, h]
  rfl
theorem find_first {p : Hit → Bool} {l : List Hit} {k : Nat} (h : (l.take k).find? p = none) (hk : k < l.length) (hp : p l[k] = true) : (l.take (k + 1)).find? p = some l[k] := by
  rw [List.take_succ_eq_append_getElem hk, List.find?_append, h, Option.none_or, List.find?_cons, hp]
/-- is it of this number? -/
def isId (id : Int) (x : Hit) : Bool := x.1 == id
theorem find1_any (x : Hit) (id : Int) (g : Nat) (w : World) (hc : w.cell? ⟨g, 0, none⟩ = some (.int .u64 id)) (hg : g < w.heap.size) :
    Calls Try.prog 17 #[.agg #[.int .u64 x.1, .int .i64 x.2], .pointer (some ⟨g, 0, none⟩)] w fun e w' => e = .returned (.bool (isId id x)) ∧ Below w.heap.size w w' := by
  obtain ⟨x1, x2⟩ := x
  dsimp only
  have HI : Hid (isId id (x1, x2) = (x1 == id)) := Lib.hid rfl
  have hc2 : (w.alloc (.cells #[.int .u64 x1, .int .i64 x2] 31)).cell? ⟨g, 0, none⟩ = some (.int .u64 id) := (World.cell?_alloc_lt w _ ⟨g, 0, none⟩ hg).trans hc
  go_enter Try.func17, Try.ntmps17
  go_wp2_with (fail)
  go_ret
  exact ⟨by rw [HI.out]; rfl, (Below.refl _ w).alloc (Nat.le_refl _) _⟩
theorem find1_enters : Enters Try.prog 17 := enters_of Try.func17 (by kernel_rfl) rfl
/-- where the first one of a number stands -/
def Place (id : Int) (l : List Hit) (w : World) (e : Ending) (w' : World) : Prop :=
  ∃ r : Int, e = .returned (.int .i64 r) ∧ ((r = -1 ∧ l.find? (isId id) = none) ∨ ∃ i : Nat, ∃ h : i < l.length, r = i ∧ l.find? (isId id) = some l[i]) ∧ Below w.heap.size w w'
set_option maxRecDepth 100000 in
set_option maxHeartbeats 3200000 in
theorem index_any (A : Option Addr) (l : List Hit) (c B : Nat) (id : Int) (g : Nat) (w : World) (hm : l.length * 16 ≤ 140737488355328) (hB : B ≤ w.heap.size) (hs : Sl w B A (hv l)) (hid : w.cell? ⟨g, 0, none⟩ = some (.int .u64 id)) (hg : g < w.heap.size) :
    Calls Try.prog 16 #[.slice A l.length c, .func (.func 17) #[] #[.pointer (some ⟨g, 0, none⟩)]] w (Place id l w) := by
  have HS := Lib.hid hs
  have HI := Lib.hid hid
  clear hs hid
  go_enter Try.func16, Try.ntmps16
  go_wp2_with (fail)
  go_loopg [5, 8] l.length (fun gk s5 s8 wr => ∃ k : Nat, gk = l.length - k ∧ k ≤ l.length ∧ s8 = .int .i64 k ∧ (l.take k).find? (isId id) = none ∧ Below w.heap.size w wr)
  case atStart => exact ⟨0, rfl, Nat.zero_le _, rfl, by simp, Below.refl _ _⟩
  case round =>
    obtain ⟨k, rfl, hk, rfl, hf, hb⟩ := hrel
    by_cases hlt : k < l.length
    · obtain ⟨b, o, rfl, hb1, hc0, hc1⟩ := Sl.hitAt ((HS.out.more hB).below hb) hlt
      have hcall := find1_any l[k] id g wr ((hb.cell (p := ⟨g, 0, none⟩) hg).trans HI.out) (Nat.lt_of_lt_of_le hg hb.size)
      have HF := Lib.hid hf
      have HK : Hid (∀ (e : Ending) (w' : World), (e = .returned (.bool (isId id l[k])) ∧ Below wr.heap.size wr w') → e = .returned (.bool (isId id l[k])) ∧ Below w.heap.size w w') := Lib.hid fun e w' ⟨he, h2⟩ => ⟨he, hb.trans (h2.mono hb.size)⟩
      obtain ⟨q, hq⟩ : ∃ q, isId id l[k] = q := ⟨_, rfl⟩
      have HQ := Lib.hid hq
      rw [hq] at hcall HK
      obtain ⟨⟨x, y⟩, hx⟩ : ∃ x, l[k] = x := ⟨_, rfl⟩
      rw [hx] at hc0 hc1 hcall
      dsimp only at hc0 hc1 hcall
      have HC := Lib.hid hcall
      have i1 : (k : Int) < (l.length : Int) := by omega
      clear hx hq hcall hf hb
      go_wp2_with (fail)
      refine HC.out.mono ?_
      intro e w2 hh
      obtain ⟨rfl, hb2⟩ := HK.out e w2 hh
      have HB2 := Lib.hid hb2
      clear hh hb2 HK HC
      cases q with
      | true =>
        go_wp2_with (fail)
        go_ret
        exact ⟨_, rfl, .inr ⟨k, hlt, rfl, find_here HF.out hlt HQ.out⟩, HB2.out⟩
      | false =>
        go_wp2_with (fail)
        go_roundg (l.length - (k + 1))
        case measure => omega
        case rel => exact ⟨k + 1, rfl, by omega, by go_num, find_none HF.out hlt HQ.out, HB2.out⟩
    · obtain rfl : k = l.length := by omega
      have i1 : ¬ (l.length : Int) < (l.length : Int) := by omega
      have HE : Hid (l.find? (isId id) = none ∧ Below w.heap.size w wr) := Lib.hid ⟨by rw [List.take_length] at hf; exact hf, hb⟩
      clear hf hb
      go_wp2_with (fail)
      go_ret
      exact ⟨-1, rfl, .inl ⟨rfl, HE.out.1⟩, HE.out.2⟩
/-- a hit, or none -/
def opt : Option Hit → Hit × Bool
  | some x => (x, true)
  | none => ((0, 0), false)
/-- the first one of a number, if it is there -/
def Found (id : Int) (l : List Hit) (w : World) (e : Ending) (w' : World) : Prop :=
  ∃ x ok, e = .returned (.tuple #[.agg #[.int .u64 x.1, .int .i64 x.2], .bool ok]) ∧ opt (l.find? (isId id)) = (x, ok) ∧ Below w.heap.size w w'
set_option maxRecDepth 100000 in
set_option maxHeartbeats 3200000 in
theorem find_any (A : Option Addr) (l : List Hit) (c B : Nat) (id : Int) (w : World) (hm : l.length * 16 ≤ 140737488355328) (hB : B ≤ w.heap.size) (hs : Sl w B A (hv l)) :
    Calls Try.prog 10 #[.slice A l.length c, .int .u64 id] w (Found id l w) := by
  obtain ⟨V, hV⟩ : ∃ V, V = (w.alloc (.cells #[.int .u64 id] 27)).alloc (.cells #[.int .u64 0, .int .i64 0] 31) := ⟨_, rfl⟩
  have hz : V.heap.size = w.heap.size + 2 := by rw [hV]; simp
  have hbV : Below w.heap.size w V := by rw [hV]; exact ((Below.refl _ w).alloc (Nat.le_refl _) _).alloc (by simp) _
  have hb1 : Blk V w.heap.size 27 #[.int .u64 id] := by rw [hV]; exact (Blk.new w _ _).alloc _
  have hb2 : Blk V (w.heap.size + 1) 31 #[.int .u64 0, .int .i64 0] := by
    rw [hV]
    have h := Blk.new (w.alloc (.cells #[.int .u64 id] 27)) 31 #[.int .u64 0, .int .i64 0]
    rwa [show (w.alloc (.cells #[.int .u64 id] 27)).heap.size = w.heap.size + 1 by simp] at h
  have HI := Lib.hid (index_any A l c B id w.heap.size V hm (Nat.le_trans hB hbV.size) (hs.below (hbV.mono hB)) (hb1.cell 0) (by omega))
  have HW : Hid (∀ W, Below V.heap.size V W → Blk W (w.heap.size + 1) 31 #[.int .u64 0, .int .i64 0] ∧ Sl W B A (hv l) ∧ Below w.heap.size w W) := Lib.hid fun W hW =>
    ⟨hb2.below hW (by omega), (hs.below (hbV.mono hB)).below (hW.mono (by omega)), hbV.trans (hW.mono (by omega))⟩
  clear hs hz hbV hb1 hb2
  go_enter Try.func10, Try.ntmps10
  go_wp2_with (fail)
  rw [← hV]
  clear hV
  refine HI.out.mono ?_
  rintro e w2 ⟨r, rfl, hr, hb⟩
  obtain ⟨hbk, hsl, hbw⟩ := HW.out w2 hb
  have c0 := hbk.cell 0
  have c1 := hbk.cell 1
  have f0 := hbk.frozen 0
  have f1 := hbk.frozen 1
  clear hb HI HW
  rcases hr with ⟨rfl, hf⟩ | ⟨i, hi, rfl, hf⟩
  · have HB := Lib.hid hbw
    have HF : Hid (opt (l.find? (isId id)) = ((0, 0), false)) := Lib.hid (by rw [hf]; rfl)
    clear hf hbw hsl
    go_wp2_with (fail)
    have hk2 := (hbk.set_ 0 (.int .u64 0)).set_ 1 (.int .i64 0)
    have k0 : ((w2.setCell ⟨w.heap.size + 1, 0, none⟩ (.int .u64 0)).setCell ⟨w.heap.size + 1, 1, none⟩ (.int .i64 0)).cell? ⟨w.heap.size + 1, 0, none⟩ = some (.int .u64 0) := hk2.cell 0
    have k1 : ((w2.setCell ⟨w.heap.size + 1, 0, none⟩ (.int .u64 0)).setCell ⟨w.heap.size + 1, 1, none⟩ (.int .i64 0)).cell? ⟨w.heap.size + 1, 1, none⟩ = some (.int .i64 0) := hk2.cell 1
    refine bodyPost_ret (v := .tuple #[.agg #[.int .u64 0, .int .i64 0], .bool false]) (by simp [results, Try.results10, go_sem, k0, k1]) rfl ?_
    exact ⟨(0, 0), false, rfl, HF.out, (HB.out.setCell (Nat.le_succ _) _).setCell (Nat.le_succ _) _⟩
  · obtain ⟨b, o, rfl, hb1, hc0, hc1⟩ := Sl.hitAt hsl hi
    obtain ⟨⟨x, y⟩, hx⟩ : ∃ x, l[i] = x := ⟨_, rfl⟩
    rw [hx] at hc0 hc1
    have HF : Hid (opt (l.find? (isId id)) = ((x, y), true)) := Lib.hid (by rw [hf, hx]; rfl)
    dsimp only at hc0 hc1
    have i1 : (i : Int) < (l.length : Int) := by omega
    have i2 : decide ((i : Int) < 0) = false := decide_eq_false (by omega)
    have HB := Lib.hid hbw
    clear hf hbw hsl hx
    go_wp2_with (fail)
    have hk2 := (hbk.set_ 0 (.int .u64 x)).set_ 1 (.int .i64 y)
    have k0 : ((w2.setCell ⟨w.heap.size + 1, 0, none⟩ (.int .u64 x)).setCell ⟨w.heap.size + 1, 1, none⟩ (.int .i64 y)).cell? ⟨w.heap.size + 1, 0, none⟩ = some (.int .u64 x) := hk2.cell 0
    have k1 : ((w2.setCell ⟨w.heap.size + 1, 0, none⟩ (.int .u64 x)).setCell ⟨w.heap.size + 1, 1, none⟩ (.int .i64 y)).cell? ⟨w.heap.size + 1, 1, none⟩ = some (.int .i64 y) := hk2.cell 1
    refine bodyPost_ret (v := .tuple #[.agg #[.int .u64 x, .int .i64 y], .bool true]) (by simp [results, Try.results10, go_sem, k0, k1]) rfl ?_
    exact ⟨(x, y), true, rfl, HF.out, (HB.out.setCell (Nat.le_succ _) _).setCell (Nat.le_succ _) _⟩
end Go.Proofs.Ytbpeblmjnipakaa.hit
