/-
  The contracts of scan.Range and scan.Near.
-/
import Derived.Test.YtimkbadjcdnjjaaScB
import Derived.Test.YtimkbadjcdnjjaaGBest
namespace Go.Proofs.Ytimkbadjcdnjjaa.scan
open Go.RowKit law bytes only flat nums ord obj metric
open hit (Hit hv hv_length lt Rises sortH sortH_is sortH_perm sortH_rises hitE hc_oneOf hv_snoc)
open best (Be keep)
set_option linter.unusedVariables false

/-- those that Range keeps: none of a nil meter's -/
def nearX (o : Option Addr) (r : Int) (l : List Hit) : List Hit := match o with | some _ => near r l | none => []
theorem nearX_nil (o : Option Addr) (r : Int) : nearX o r [] = [] := by cases o <;> rfl
theorem nearX_snoc (o : Option Addr) (r : Int) (l : List Hit) (x : Hit) : nearX o r (l ++ [x]) = nearX o r l ++ if wi o x.2 r = true then [x] else [] := by
  cases o with
  | none => simp [nearX, wi]
  | some ad => simp only [nearX, near_snoc]; congr 1; simp [wi]
theorem nearX_le (o : Option Addr) (r : Int) (l : List Hit) : (nearX o r l).length ≤ l.length := by
  cases o with
  | none => simp [nearX]
  | some ad => exact near_le r l
section
variable {w W : World} {B : Nat} {o : Option Addr} {n k : Int} {A : Option Addr} {l : List Item} {q : At}
/-- an item is asked for, up to how far -/
theorem Fit.upto (h : Fit w B o n k A l q) {i : Nat} (hi : i < l.length) (r : Int) (hs : Sc w W o n (k + cnt o i) q) :
    Calls Try.prog 23 #[.pointer o, oW l[i].2, oW q, .int .i64 r] W fun e w' => (∃ u, e = .returned (.tuple #[.int .i64 u, .bool (wi o (th n q.x l[i]).2 r)]) ∧ (wi o (th n q.x l[i]).2 r = true → u = (th n q.x l[i]).2)) ∧ Only (scan.tk o) W w' ∧ Sc w w' o n (k + cnt o ((i + 1 : Nat) : Int)) q := by
  have hb := hs.below h.le h.tk
  have hsz : B ≤ W.heap.size := Nat.le_trans h.le hb.size
  have hc := cnt_le o (a := (i : Int)) (by omega)
  have h0 := h.k0
  have h1 := h.kl
  refine (upto_mx l[i].2 q r (fun e => ⟨(h.small e).1 _ (List.getElem_mem hi), (h.small e).2⟩) (((h.its.vec _ (List.getElem_mem hi)).below hb).more hsz) ((h.qs.below hb).more hsz) hs.mx (by omega)).mono fun e w' ⟨he, ho, hm⟩ => ⟨he, ho, hs.asked ho ?_ h.lt⟩
  rw [Int.add_assoc, cnt_add] at hm
  exact hm
end
set_option maxRecDepth 100000 in
set_option maxHeartbeats 3200000 in
theorem range_any (w : World) (B : Nat) (o : Option Addr) (n k : Int) (A : Option Addr) (c : Nat) (l : List Item) (q : At) (r : Int) (hF : Fit w B o n k A l q) (hm : l.length * 16 ≤ 140737488355328) :
    Calls Try.prog 13 #[.pointer o, .slice A l.length c, oW q, .int .i64 r] w (RowX w o n (k + cnt o l.length) (sortH (nearX o r (hitsOf n l q.x)))) := by
  have HS1 : Hid (Sc w (w.alloc (.cells #[.int .i64 q.x.tag, .slice q.a q.x.vec.length q.c, .string q.x.str] 25)) o n k q) := Lib.hid (Sc.start hF.mx)
  have HF := Lib.hid hF
  have HLT := Lib.hid hF.lt
  clear hF
  have hqW : oW q = .agg #[.int .i64 q.x.tag, .slice q.a q.x.vec.length q.c, .string q.x.str] := rfl
  rw [hqW]
  go_enter Try.func13, Try.ntmps13
  go_wp2_with (fail)
  go_loopg [9, 16] l.length (fun gk s9 s16 wr => ∃ (i m c' : Nat) (A' : Option Addr), gk = l.length - i ∧ i ≤ l.length ∧ s9 = .slice A' m c' ∧ s16 = .int .i64 i ∧ m ≤ i ∧ m = (nearX o r (hitsOf n (l.take i) q.x)).length ∧ wr.ownsRow (w.heap.size + 1) 50 2 (.slice A' m c') m (hv (nearX o r (hitsOf n (l.take i) q.x))) ∧ Sc w wr o n (k + cnt o i) q)
  case atStart => exact ⟨0, 0, 0, none, rfl, Nat.zero_le _, rfl, rfl, Nat.le_refl _, by rw [List.take_zero]; simp [hitsOf, nearX_nil], by rw [List.take_zero, show hitsOf n [] q.x = [] from rfl, nearX_nil]; exact World.ownsRow_nil _ _ _ _, by rw [show ((0 : Nat) : Int) = 0 from rfl, cnt_zero, Int.add_zero]; exact HS1.out⟩
  case round =>
    clear HS1
    obtain ⟨i, m, c', A', rfl, hi, rfl, rfl, hmi, hml, hown, hsc⟩ := hrel
    have HML := Lib.hid hml
    clear hml
    by_cases hlt : i < l.length
    · obtain ⟨b, rr, rfl, hb, hcells⟩ := (HF.out.its.below (hsc.below HF.out.le HF.out.tk)).place (by omega)
      obtain ⟨d0, d1, d2, d3⟩ := hcells i hlt
      have i1 : (i : Int) < (l.length : Int) := by omega
      have hask := fun W (h : Sc w W o n (k + cnt o i) q) => HF.out.upto hlt r h
      have htk := hitsOf_take n l q.x i hlt
      obtain ⟨x, hx⟩ : ∃ x, th n q.x l[i] = x := ⟨_, rfl⟩
      have hx1 : l[i].1 = x.1 := by rw [← hx]; rfl
      obtain ⟨p, hp⟩ : ∃ p, l[i] = p := ⟨_, rfl⟩
      rw [hx] at htk hask
      rw [hp] at hask d0 d1 d2 d3 hx1
      have hns : nearX o r (hitsOf n (l.take (i + 1)) q.x) = nearX o r (hitsOf n (l.take i) q.x) ++ if wi o x.2 r = true then [x] else [] := by rw [htk, nearX_snoc]
      obtain ⟨x1, x2⟩ := x
      obtain ⟨id, pt⟩ := p
      dsimp only [iW, oW] at hask d0 d1 d2 d3 hx1 hns
      have hk0 := Blk.new wr 46 #[.int .u64 id, .int .i64 pt.x.tag, .slice pt.a pt.x.vec.length pt.c, .string pt.x.str]
      have r0 := hk0.cell 0
      have r1 := hk0.cell 1
      have r2 := hk0.cell 2
      have r3 := hk0.cell 3
      have hs1 := hsc.alloc (.cells #[.int .u64 id, .int .i64 pt.x.tag, .slice pt.a pt.x.vec.length pt.c, .string pt.x.str] 46)
      have q0 := hs1.box.cell 0
      have q1 := hs1.box.cell 1
      have q2 := hs1.box.cell 2
      simp only [List.getElem?_toArray, List.getElem?_cons_succ, List.getElem?_cons_zero] at r0 r1 r2 r3 q0 q1 q2
      obtain ⟨ok, hok⟩ : ∃ ok, wi o x2 r = ok := ⟨_, rfl⟩
      rw [hok] at hns
      have HK0 := hask _ hs1
      rw [hok] at HK0
      have HK := Lib.hid HK0
      have HOW : Hid (wr.ownsRow (w.heap.size + 1) 50 2 (.slice A' m c') m (hv (nearX o r (hitsOf n (l.take i) q.x)))) := Lib.hid hown
      have HKB := Lib.hid hk0
      have HNS := Lib.hid hns
      have HX1 := Lib.hid hx1
      have hsz := hsc.size
      clear hask htk hx hp hk0 hs1 hown hsc hcells HK0 hok hns hx1
      go_wp2_with (fail)
      refine HK.out.mono ?_
      rintro e w2 ⟨⟨u, rfl, hu⟩, ho2, hs2⟩
      have hwr : ∀ i, tk o i → i < wr.heap.size := fun i e => by have := HLT.out i e; omega
      have hown2 := own_only (World.ownsRow.alloc (w := wr) HOW.out (.cells #[.int .u64 id, .int .i64 pt.x.tag, .slice pt.a pt.x.vec.length pt.c, .string pt.x.str] 46)) ho2 fun g e e2 => by have := (own_lt HOW.out e).1; have := HLT.out g e2; omega
      have y0 := (Blk.only HKB.out ho2 (fun e => by have := hwr _ e; omega)).cell 0
      simp only [List.getElem?_toArray, List.getElem?_cons_zero] at y0
      have hsz2 := hs2.size
      have HS2 := Lib.hid hs2
      clear HK HOW ho2 hs2 r0 r1 r2 r3 q0 q1 q2 d0 d1 d2 d3 HKB hwr
      cases ok with
      | true =>
        have HU : Hid (u = x2) := Lib.hid (hu rfl)
        have HNT : Hid (nearX o r (hitsOf n (l.take (i + 1)) q.x) = nearX o r (hitsOf n (l.take i) q.x) ++ [(id, u)]) := Lib.hid (by rw [HNS.out, if_pos rfl, HU.out, HX1.out])
        clear hu HNS HU
        go_wp2_with (at_builtin
                     refine wpList_append_slk _ rfl (.tmp 30) (.tmp 35) _ rfl (w.heap.size + 1) 50 2 16 Try.underlying33 hitE (by omega) (.slice A' m c') m (hv (nearX o r (hitsOf n (l.take i) q.x))) rfl (World.ownsRow.alloc (w := w2) hown2 _) _ _ 1 1 [.int .u64 id, .int .i64 u] rfl (Sl.lit w2 _ _) rfl (hc_oneOf _ _) (by omega) (by unfold maxLen; omega) (by simp; omega) ?_
                     intro v4 w4 hown4 hg4 hat4
                     obtain ⟨A4, c4, rfl, hc4⟩ := own_slice hown4)
        have hlo : ∀ r, (Value.slice A' m c').ownBlock = some r → w.heap.size < r := fun r e => (own_lt hown2 e).1
        go_roundg (l.length - (i + 1))
        case measure => omega
        case rel => exact ⟨i + 1, m + 1, c4, A4, rfl, by omega, rfl, by go_num, by omega, by rw [HNT.out, List.length_append, ← HML.out]; rfl, by rw [HNT.out, hv_snoc]; exact hown4, (HS2.out.alloc _).grown hg4 hlo HLT.out⟩
      | false =>
        have HNT : Hid (nearX o r (hitsOf n (l.take (i + 1)) q.x) = nearX o r (hitsOf n (l.take i) q.x)) := Lib.hid (by rw [HNS.out, if_neg (by simp), List.append_nil])
        clear hu HNS
        go_wp2_with (fail)
        go_roundg (l.length - (i + 1))
        case measure => omega
        case rel => exact ⟨i + 1, m, c', A', rfl, by omega, rfl, by go_num, by omega, by rw [HNT.out]; exact HML.out, by rw [HNT.out]; exact hown2, HS2.out⟩
    · obtain rfl : i = l.length := by omega
      have i1 : ¬ (l.length : Int) < (l.length : Int) := by omega
      rw [List.take_length] at hown HML
      have hS := hit.sort_any A' (nearX o r (hitsOf n l q.x)) c' wr.heap.size wr (by rw [← HML.out]; omega) (Nat.le_refl _) (Sl.of_ownK hown)
      rw [← HML.out] at hS
      have HSO := Lib.hid hS
      have HSC := Lib.hid hsc
      clear hS hown hsc
      go_wp2_with (fail)
      refine HSO.out.mono ?_
      rintro e w2 ⟨A2, c2, rfl, hc2, hsl, hb2⟩
      have HE : Hid (RowX w o n (k + cnt o l.length) (sortH (nearX o r (hitsOf n l q.x))) (.returned (.slice A2 (sortH (nearX o r (hitsOf n l q.x))).length c2)) w2) := Lib.hid ⟨A2, c2, rfl, hc2, hsl, HSC.out.only.on hb2, HSC.out.mx.on hb2⟩
      clear HSO HSC hc2 hsl hb2
      go_wp2_with (fail)
      go_ret
      exact HE.out
set_option maxRecDepth 100000 in
set_option maxHeartbeats 3200000 in
theorem near_any (w : World) (B : Nat) (o : Option Addr) (n k : Int) (A : Option Addr) (c : Nat) (l : List Item) (q : At) (kk : Int) (hF : Fit w B o n k A l q) (hm : l.length * 16 ≤ 140737488355328) :
    Calls Try.prog 15 #[.pointer o, .slice A l.length c, oW q, .int .i64 kk] w (RowX w o n (k + cnt o l.length) (keep kk (hitsOf n l q.x))) := by
  have hs0 : Sc w (w.alloc (.cells #[.int .i64 q.x.tag, .slice q.a q.x.vec.length q.c, .string q.x.str] 25)) o n k q := Sc.start hF.mx
  have hN := best.new_any kk (w.alloc (.cells #[.int .i64 q.x.tag, .slice q.a q.x.vec.length q.c, .string q.x.str] 25))
  have hz1 : (w.alloc (.cells #[.int .i64 q.x.tag, .slice q.a q.x.vec.length q.c, .string q.x.str] 25)).heap.size = w.heap.size + 1 := by simp
  have HN : Hid (Calls Try.prog 24 #[.int .i64 kk] (w.alloc (.cells #[.int .i64 q.x.tag, .slice q.a q.x.vec.length q.c, .string q.x.str] 25)) fun e w' => ∃ bb T, e = .returned (.pointer (some ⟨bb, 0, none⟩)) ∧ Be w' (w.heap.size + 1) bb T kk [] ∧ Sc w w' o n k q) :=
    Lib.hid (hN.mono fun e w' ⟨bb, T, he, hb, hB⟩ => ⟨bb, T, he, by rw [hz1] at hB; exact hB, hs0.on hb⟩)
  have HF := Lib.hid hF
  have HLT := Lib.hid hF.lt
  clear hF hN hz1 hs0
  have hqW : oW q = .agg #[.int .i64 q.x.tag, .slice q.a q.x.vec.length q.c, .string q.x.str] := rfl
  rw [hqW]
  go_enter Try.func15, Try.ntmps15
  go_wp2_with (fail)
  refine HN.out.mono ?_
  rintro e w1 ⟨bb, T, rfl, hB1, hs1⟩
  have HST : Hid (Be w1 (w.heap.size + 1) bb T kk [] ∧ Sc w w1 o n k q) := Lib.hid ⟨hB1, hs1⟩
  clear HN hB1 hs1
  go_wp2_with (fail)
  go_loopg [16] l.length (fun gk s16 wr => ∃ (i : Nat) (T : Nat → Prop), gk = l.length - i ∧ i ≤ l.length ∧ s16 = .int .i64 i ∧ Be wr (w.heap.size + 1) bb T kk (hitsOf n (l.take i) q.x) ∧ Sc w wr o n (k + cnt o i) q)
  case atStart => exact ⟨0, T, rfl, Nat.zero_le _, rfl, HST.out.1, by rw [show ((0 : Nat) : Int) = 0 from rfl, cnt_zero, Int.add_zero]; exact HST.out.2⟩
  case round =>
    clear HST
    obtain ⟨i, T, rfl, hi, rfl, hbe, hsc⟩ := hrel
    by_cases hlt : i < l.length
    · obtain ⟨b, rr, rfl, hb, hcells⟩ := (HF.out.its.below (hsc.below HF.out.le HF.out.tk)).place (by omega)
      obtain ⟨d0, d1, d2, d3⟩ := hcells i hlt
      have i1 : (i : Int) < (l.length : Int) := by omega
      have hask := fun W (h : Sc w W o n (k + cnt o i) q) => HF.out.ask hlt h
      have htk := hitsOf_take n l q.x i hlt
      have hll : (hitsOf n (l.take i) q.x).length = i := by rw [hitsOf_length, List.length_take]; omega
      obtain ⟨x, hx⟩ : ∃ x, th n q.x l[i] = x := ⟨_, rfl⟩
      obtain ⟨p, hp⟩ : ∃ p, l[i] = p := ⟨_, rfl⟩
      rw [hx] at htk hask
      rw [hp] at hask d0 d1 d2 d3
      obtain ⟨x1, x2⟩ := x
      obtain ⟨id, pt⟩ := p
      dsimp only [iW, oW] at hask d0 d1 d2 d3
      have hk0 := Blk.new wr 46 #[.int .u64 id, .int .i64 pt.x.tag, .slice pt.a pt.x.vec.length pt.c, .string pt.x.str]
      have r0 := hk0.cell 0
      have r1 := hk0.cell 1
      have r2 := hk0.cell 2
      have r3 := hk0.cell 3
      have hs1 := hsc.alloc (.cells #[.int .u64 id, .int .i64 pt.x.tag, .slice pt.a pt.x.vec.length pt.c, .string pt.x.str] 46)
      have hbe1 := hbe.below ((Below.refl _ _).alloc (Nat.le_refl _) (.cells #[.int .u64 id, .int .i64 pt.x.tag, .slice pt.a pt.x.vec.length pt.c, .string pt.x.str] 46)) (Nat.le_refl _)
      have q0 := hs1.box.cell 0
      have q1 := hs1.box.cell 1
      have q2 := hs1.box.cell 2
      simp only [List.getElem?_toArray, List.getElem?_cons_succ, List.getElem?_cons_zero] at r0 r1 r2 r3 q0 q1 q2
      have HK := Lib.hid (hask _ hs1)
      have HTK := Lib.hid htk
      have HLL := Lib.hid hll
      have HBE := Lib.hid hbe1
      have hsz := hsc.size
      clear hask htk hx hp hk0 hs1 hsc hcells hbe hbe1 hll
      go_wp2_with (fail)
      refine HK.out.mono ?_
      rintro e w2 ⟨rfl, ho2, hs2⟩
      have hTT : ∀ j, T j → w.heap.size < j := fun j e => (HBE.out.low e).1
      have hbe2 := HBE.out.only ho2 fun j e e2 => by have := hTT j e; have := HLT.out j e2; omega
      have HA : Hid (Calls Try.prog 25 #[.pointer (some ⟨bb, 0, none⟩), .agg #[.int .u64 x1, .int .i64 x2]] w2 fun e w' => e = .returned (.bool (best.ad kk (hitsOf n (l.take i) q.x) (x1, x2))) ∧ (∃ T', Be w' (w.heap.size + 1) bb T' kk (hitsOf n (l.take (i + 1)) q.x)) ∧ Sc w w' o n (k + cnt o ((i + 1 : Nat) : Int)) q) :=
        Lib.hid ((best.add_any hbe2 (x1, x2) hs2.size (by rw [HLL.out]; omega)).mono fun e w' ⟨he, ho, T', hB', hT'⟩ => ⟨he, ⟨T', by rw [HTK.out]; exact hB'⟩, hs2.turn ho hTT HLT.out⟩)
      clear HK ho2 hs2 hbe2 hTT r0 r1 r2 r3 q0 q1 q2 d0 d1 d2 d3 HBE HTK HLL
      go_wp2_with (fail)
      refine HA.out.mono ?_
      rintro e w3 ⟨rfl, ⟨T', hB3⟩, hs3⟩
      have HE : Hid (Be w3 (w.heap.size + 1) bb T' kk (hitsOf n (l.take (i + 1)) q.x) ∧ Sc w w3 o n (k + cnt o ((i + 1 : Nat) : Int)) q) := Lib.hid ⟨hB3, hs3⟩
      clear HA hB3 hs3
      go_wp2_with (fail)
      go_roundg (l.length - (i + 1))
      case measure => omega
      case rel => exact ⟨i + 1, T', rfl, by omega, by go_num, HE.out.1, HE.out.2⟩
    · obtain rfl : i = l.length := by omega
      have i1 : ¬ (l.length : Int) < (l.length : Int) := by omega
      rw [List.take_length] at hbe
      have hlen : (hitsOf n l q.x).length = l.length := hitsOf_length n l q.x
      have HL := Lib.hid (best.list_any hbe (by rw [hlen]; omega))
      have HSC := Lib.hid hsc
      clear hbe hsc hlen
      go_wp2_with (fail)
      refine HL.out.mono ?_
      intro e w2 hown
      obtain ⟨A2, c2, rfl, hc2, hsl, hb2⟩ := hown.rows
      have HE : Hid (RowX w o n (k + cnt o l.length) (keep kk (hitsOf n l q.x)) (.returned (.slice A2 (keep kk (hitsOf n l q.x)).length c2)) w2) := Lib.hid ⟨A2, c2, rfl, hc2, hsl, HSC.out.only.on hb2, HSC.out.mx.on hb2⟩
      clear HL HSC hown hc2 hsl hb2
      go_wp2_with (fail)
      go_ret
      exact HE.out
end Go.Proofs.Ytimkbadjcdnjjaa.scan
