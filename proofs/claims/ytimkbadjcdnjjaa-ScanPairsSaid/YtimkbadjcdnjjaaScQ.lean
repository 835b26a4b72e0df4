/-
  The contracts of the document's All and Within.
-/
import Derived.Test.YtimkbadjcdnjjaaScR
namespace Go.Proofs.Ytimkbadjcdnjjaa.scan
open Go.RowKit law bytes only flat nums ord obj metric
open hit (Hit hv hv_length lt Rises sortH sortH_length hitE hc_oneOf hv_snoc)
set_option linter.unusedVariables false

theorem sortH_snoc (l : List Hit) (x : Hit) : sortH (l ++ [x]) = hit.put x (sortH l) := by unfold sortH; rw [List.foldl_append]; rfl
/-- the cells that a round of All reads: the thing asked for, an item -/
def Seven (W : World) (g b r : Nat) (q : At) (p : Item) : Prop :=
  W.cell? ⟨g, 0, none⟩ = some (.int .i64 q.x.tag) ∧ W.cell? ⟨g, 1, none⟩ = some (.slice q.a q.x.vec.length q.c) ∧ W.cell? ⟨g, 2, none⟩ = some (.string q.x.str) ∧
  W.cell? ⟨b, r, none⟩ = some (.int .u64 p.1) ∧ W.cell? ⟨b, r + 1, none⟩ = some (.int .i64 p.2.x.tag) ∧ W.cell? ⟨b, r + 1 + 1, none⟩ = some (.slice p.2.a p.2.x.vec.length p.2.c) ∧ W.cell? ⟨b, r + 1 + 2, none⟩ = some (.string p.2.x.str)
set_option maxRecDepth 100000 in
set_option maxHeartbeats 3200000 in
theorem rall_any (w : World) (B : Nat) (n : Int) (A : Option Addr) (c : Nat) (l : List Item) (q : At) (hI : Its w B A l) (hq : Sl w B q.a (iv q.x.vec)) (hB : B ≤ w.heap.size) (hs : (∀ p ∈ l, Small p.2.x) ∧ Small q.x) (hm : l.length * 16 ≤ 140737488355328) :
    Calls Try.prog 9 #[.int .i64 n, .slice A l.length c, oW q] w (hit.Own (sortH (hitsOf n l q.x)) w) := by
  obtain ⟨V, hV⟩ : ∃ V, V = w.alloc (.cells #[.int .i64 q.x.tag, .slice q.a q.x.vec.length q.c, .string q.x.str] 25) := ⟨_, rfl⟩
  have hbx : Blk V w.heap.size 25 #[.int .i64 q.x.tag, .slice q.a q.x.vec.length q.c, .string q.x.str] := by rw [hV]; exact Blk.new w _ _
  have hz : V.heap.size = w.heap.size + 1 := by rw [hV]; simp
  have hbV : Below w.heap.size w V := by rw [hV]; exact (Below.refl _ w).alloc (Nat.le_refl _) _
  have HI : Hid (∀ W, Below (w.heap.size + 1) V W → Its W B A l) := Lib.hid fun W hW => (hI.below (hbV.mono hB)).below (hW.mono (by omega))
  have HQ : Hid (∀ W, Below (w.heap.size + 1) V W → Sl W W.heap.size q.a (iv q.x.vec)) := Lib.hid fun W hW => ((hq.below (hbV.mono hB)).below (hW.mono (by omega))).more (by have := hW.size; omega)
  have HP : Hid (∀ W, Below (w.heap.size + 1) V W → ∀ p ∈ l, Sl W W.heap.size p.2.a (iv p.2.x.vec)) := Lib.hid fun W hW p hp => (((hI.vec p hp).below (hbV.mono hB)).below (hW.mono (by omega))).more (by have := hW.size; omega)
  have HE : Hid (∀ (v : Value) m wr, wr.ownsRow (w.heap.size + 1) 50 2 v m (hv (sortH (hitsOf n l q.x))) → Below (w.heap.size + 1) V wr → hit.Own (sortH (hitsOf n l q.x)) w (.returned v) wr) := Lib.hid fun v m wr ho hb =>
    hit.Own.mk (hit.own_base ho (Nat.le_succ _)) rfl (hbV.trans (hb.mono (Nat.le_succ _)))
  have HBX : Hid (Blk V w.heap.size 25 #[.int .i64 q.x.tag, .slice q.a q.x.vec.length q.c, .string q.x.str]) := Lib.hid hbx
  have HZ := Lib.hid hz
  have HSM := Lib.hid hs
  clear hI hq hbx hz hbV hs
  have hqW : oW q = .agg #[.int .i64 q.x.tag, .slice q.a q.x.vec.length q.c, .string q.x.str] := rfl
  rw [hqW]
  clear hqW
  go_enter Try.func9, Try.ntmps9
  go_wp2_with (fail)
  rw [← hV]
  clear hV
  go_loopg [7, 8] l.length (fun gk s7 s8 wr => ∃ (i c' : Nat) (A' : Option Addr), gk = l.length - i ∧ i ≤ l.length ∧ s7 = .slice A' i c' ∧ s8 = .int .i64 i ∧ wr.ownsRow (w.heap.size + 1) 50 2 (.slice A' i c') i (hv (sortH (hitsOf n (l.take i) q.x))) ∧ Below (w.heap.size + 1) V wr)
  case atStart => exact ⟨0, 0, none, rfl, Nat.zero_le _, rfl, rfl, World.ownsRow_nil _ _ _ _, Below.refl _ _⟩
  case round =>
    obtain ⟨i, c', A', rfl, hi, rfl, rfl, hown, hb⟩ := hrel
    by_cases hlt : i < l.length
    · have hsz : w.heap.size + 1 ≤ wr.heap.size := by have := hb.size; have := HZ.out; omega
      obtain ⟨bb, oo, rfl, hbb, hcells⟩ := (HI.out wr hb).place (by omega)
      obtain ⟨d0, d1, d2, d3⟩ := hcells i hlt
      have i1 : (i : Int) < (l.length : Int) := by omega
      have hll : (sortH (hitsOf n (l.take i) q.x)).length = i := by rw [sortH_length, hitsOf_length, List.length_take]; omega
      have hll1 : (sortH (hitsOf n (l.take (i + 1)) q.x)).length = i + 1 := by rw [sortH_length, hitsOf_length, List.length_take]; omega
      have htk : sortH (hitsOf n (l.take (i + 1)) q.x) = hit.put (th n q.x l[i]) (sortH (hitsOf n (l.take i) q.x)) := by rw [hitsOf_take n l q.x i hlt, sortH_snoc]
      have hmem : l[i] ∈ l := List.getElem_mem hlt
      obtain ⟨p, hp⟩ : ∃ p, l[i] = p := ⟨_, rfl⟩
      rw [hp] at d0 d1 d2 d3 htk hmem
      obtain ⟨d, hd⟩ : ∃ d, M n q.x p.2.x = d := ⟨_, rfl⟩
      have hth : th n q.x p = (p.1, d) := by unfold th; rw [M_symm, hd]
      rw [hth] at htk
      obtain ⟨id, pt⟩ := p
      dsimp only at d0 d1 d2 d3 htk hd
      have hlow : ∀ W, Below wr.heap.size wr W → Below (w.heap.size + 1) V W := fun W hW => hb.trans (hW.mono hsz)
      have hbB : bb < wr.heap.size := by
        have := World.block_lt_of_cell? wr _ d0
        exact this
      have HSX : Hid (∀ W, Below wr.heap.size wr W → Seven W w.heap.size bb (oo + i * 4) q (id, pt)) := Lib.hid fun W hW => by
        have hbx := HBX.out.below (hlow W hW) (Nat.lt_succ_self _)
        have hc : ∀ (i : Nat), W.cell? ⟨bb, i, none⟩ = wr.cell? ⟨bb, i, none⟩ := fun i => hW.cell (p := ⟨bb, i, none⟩) hbB
        exact ⟨hbx.cell 0, hbx.cell 1, hbx.cell 2, (hc _).trans d0, (hc _).trans d1, (hc _).trans d2, (hc _).trans d3⟩
      have HD : Hid (∀ W, Below wr.heap.size wr W → Calls Try.prog 18 #[.int .i64 n, .agg #[.int .i64 q.x.tag, .slice q.a q.x.vec.length q.c, .string q.x.str], .agg #[.int .i64 pt.x.tag, .slice pt.a pt.x.vec.length pt.c, .string pt.x.str]] W fun e w' => e = .returned (.int .i64 d) ∧ Below wr.heap.size wr w') := Lib.hid fun W hW => by
        have h := rdist_any n q.a pt.a q.c pt.c q.x pt.x HSM.out.2 (HSM.out.1 _ hmem) W (HQ.out W (hlow W hW)) (HP.out W (hlow W hW) _ hmem)
        rw [hd] at h
        exact obj.on hW h
      have HU : Hid (∀ W, Below wr.heap.size wr W → Calls Try.prog 20 #[.slice A' i c', .agg #[.int .u64 id, .int .i64 d]] W fun e w' => ∃ A2 c2, e = .returned (.slice A2 (i + 1) c2) ∧ Seven w' w.heap.size bb (oo + i * 4) q (id, pt) ∧ Hid (w'.ownsRow (w.heap.size + 1) 50 2 (.slice A2 (i + 1) c2) (i + 1) (hv (sortH (hitsOf n (l.take (i + 1)) q.x))) ∧ Below (w.heap.size + 1) V w')) := Lib.hid fun W hW => by
        have h := hit.put_any A' c' (sortH (hitsOf n (l.take i) q.x)) (id, d) W (by rw [hll]; omega) (Sl.of_ownK (own_below hown hW (Nat.le_refl _)))
        rw [hll, ← htk] at h
        refine h.mono fun e w' ⟨A2, c2, he, ho, hb2⟩ => ?_
        rw [hll1] at he ho
        exact ⟨A2, c2, he, HSX.out w' (hW.trans (hb2.mono hW.size)), Lib.hid ⟨hit.own_base ho (by have := hW.size; omega), (hlow W hW).trans (hb2.mono (by have := hW.size; omega))⟩⟩
      obtain ⟨s0, s1, s2, s3, s4, s5, s6⟩ := HSX.out wr (Below.refl _ _)
      clear hcells hll hll1 htk hmem hp hd hth hlow d0 d1 d2 d3 hown hb
      dsimp only at s3 s4 s5 s6
      go_wp2_with (fail)
      go_region_held3 (fun W => W.cell? ⟨w.heap.size, 0, none⟩ = some (.int .i64 q.x.tag) ∧ W.cell? ⟨w.heap.size, 1, none⟩ = some (.slice q.a q.x.vec.length q.c) ∧ W.cell? ⟨w.heap.size, 2, none⟩ = some (.string q.x.str) ∧ W.cell? ⟨bb, oo + i * 4, none⟩ = some (.int .u64 id) ∧ W.cell? ⟨bb, oo + i * 4 + 1, none⟩ = some (.int .i64 pt.x.tag) ∧ W.cell? ⟨bb, oo + i * 4 + 1 + 1, none⟩ = some (.slice pt.a pt.x.vec.length pt.c) ∧ W.cell? ⟨bb, oo + i * 4 + 1 + 2, none⟩ = some (.string pt.x.str))
        ((first | exact hsev | (refine HSX.out _ ?_); repeat' (first | (with_reducible exact Below.refl _ _) | (with_reducible assumption) | (with_reducible refine Below.drew ?_) | (with_reducible refine below_drewN' ?_ _))))
        (first
          | (go_at_call 18; (with_reducible refine (HD.out _ (by repeat' (first | (with_reducible exact Below.refl _ _) | (with_reducible assumption) | (with_reducible refine Below.drew ?_) | (with_reducible refine below_drewN' ?_ _)))).mono ?_); rintro e w2 ⟨rfl, hb2⟩)
          | (go_at_call 20; (with_reducible refine (HU.out _ (by repeat' (first | (with_reducible exact Below.refl _ _) | (with_reducible assumption) | (with_reducible refine Below.drew ?_) | (with_reducible refine below_drewN' ?_ _)))).mono ?_); rintro e w3 ⟨A2, c2, rfl, hsev, HO⟩))
      go_wp2_with (fail)
      go_roundg (l.length - (i + 1))
      case measure => omega
      case rel => exact ⟨i + 1, c2, A2, rfl, by omega, rfl, by go_num, HO.out.1, HO.out.2⟩
    · obtain rfl : i = l.length := by omega
      have i1 : ¬ (l.length : Int) < (l.length : Int) := by omega
      rw [List.take_length] at hown
      have HF := Lib.hid (HE.out _ _ _ hown hb)
      clear hown hb
      go_wp2_with (fail)
      go_ret
      exact HF.out
set_option maxRecDepth 100000 in
set_option maxHeartbeats 3200000 in
theorem within_any (A : Option Addr) (l : List Hit) (c B : Nat) (r : Int) (w : World) (hm : l.length * 16 ≤ 140737488355328) (hB : B ≤ w.heap.size) (hs : Sl w B A (hv l)) :
    Calls Try.prog 14 #[.slice A l.length c, .int .i64 r] w (hit.Own (near r l) w) := by
  have HS := Lib.hid hs
  clear hs
  go_enter Try.func14, Try.ntmps14
  go_wp2_with (fail)
  go_loopg [5, 6] l.length (fun gk s5 s6 wr => ∃ (i m c' : Nat) (A' : Option Addr), gk = l.length - i ∧ i ≤ l.length ∧ m ≤ i ∧ m = (near r (l.take i)).length ∧ s5 = .slice A' m c' ∧ s6 = .int .i64 i ∧ wr.ownsRow w.heap.size 50 2 (.slice A' m c') m (hv (near r (l.take i))) ∧ Below w.heap.size w wr)
  case atStart => exact ⟨0, 0, 0, none, rfl, Nat.zero_le _, Nat.le_refl _, rfl, rfl, rfl, by rw [List.take_zero]; exact World.ownsRow_nil _ _ _ _, Below.refl _ _⟩
  case round =>
    obtain ⟨i, m, c', A', rfl, hi, hmi, hml, rfl, rfl, hown, hb⟩ := hrel
    have HML := Lib.hid hml
    clear hml
    by_cases hlt : i < l.length
    · obtain ⟨b, o, rfl, hb1, hc0, hc1⟩ := hit.Sl.hitAt ((HS.out.more hB).below hb) hlt
      have z3 : (i : Int) < (l.length : Int) := by omega
      have hns : near r (l.take (i + 1)) = near r (l.take i) ++ if l[i].2 ≤ r then [l[i]] else [] := by rw [List.take_succ_eq_append_getElem hlt, near_snoc]
      obtain ⟨⟨x, y⟩, hx⟩ : ∃ x, l[i] = x := ⟨_, rfl⟩
      rw [hx] at hc0 hc1 hns
      dsimp only at hc0 hc1 hns
      have HNS := Lib.hid hns
      have hsz := hb.size
      clear hx hns
      by_cases hle : y ≤ r
      · have HNT : Hid (near r (l.take (i + 1)) = near r (l.take i) ++ [(x, y)]) := Lib.hid (by rw [HNS.out, if_pos hle])
        clear HNS
        go_wp2_with (at_builtin
                     refine wpList_append_slk _ rfl (.tmp 20) (.tmp 25) _ rfl w.heap.size 50 2 16 Try.underlying33 hitE (by omega) (.slice A' m c') m (hv (near r (l.take i))) rfl (World.ownsRow.alloc (w := wr) hown _) _ _ 1 1 [.int .u64 x, .int .i64 y] rfl (Sl.lit wr _ _) rfl (hc_oneOf _ _) (by omega) (by unfold maxLen; omega) (by simp; omega) ?_
                     intro v4 w4 hown4 hg4 hat4
                     obtain ⟨A4, c4, rfl, hc4⟩ := own_slice hown4)
        go_roundg (l.length - (i + 1))
        case measure => omega
        case rel => exact ⟨i + 1, m + 1, c4, A4, rfl, by omega, by omega, by rw [HNT.out, List.length_append, ← HML.out]; rfl, rfl, by go_num, by rw [HNT.out, hv_snoc]; exact hown4, below_appendK1 hb hsz _ hown (Nat.le_refl _) hg4⟩
      · have HNT : Hid (near r (l.take (i + 1)) = near r (l.take i)) := Lib.hid (by rw [HNS.out, if_neg hle, List.append_nil])
        clear HNS
        go_wp2_with (fail)
        go_roundg (l.length - (i + 1))
        case measure => omega
        case rel => exact ⟨i + 1, m, c', A', rfl, by omega, by omega, by rw [HNT.out]; exact HML.out, rfl, by go_num, by rw [HNT.out]; exact hown, hb⟩
    · obtain rfl : i = l.length := by omega
      have i1 : ¬ (l.length : Int) < (l.length : Int) := by omega
      rw [List.take_length] at hown
      have HE : Hid (hit.Own (near r l) w (.returned (.slice A' m c')) wr) := Lib.hid (hit.Own.mk hown rfl hb)
      clear hown hb
      go_wp2_with (fail)
      go_ret
      exact HE.out
end Go.Proofs.Ytimkbadjcdnjjaa.scan
