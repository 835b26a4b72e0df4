/-
  The document's own tree: kid, Put.
-/
import Derived.Test.YtaamlidflfdjkaaBkD
import Derived.Test.YtaamlidflfdjkaaBkJ
import Derived.Test.YtaamlidflfdjkaaGMet
import Derived.Deep.CutRange
import Derived.Deep.CutBlock
import Derived.Deep.DeepCutAuto
namespace Go.Proofs.Ytaamlidflfdjkaa.bk
open Go.RowKit Go.WideShapes law bytes only flat nums ord obj metric tab
open aro (Kept)
open store (iE iE_len itemAt rM)
open told (own_types blk_types)
open Go.Maps Go.ChangeAt
set_option linter.unusedVariables false
set_option maxRecDepth 100000

/-- where a row's node stands -/
theorem bkAt {W : World} {B k : Nat} {A : Option Addr} {q : List Nd} (h : Sl W B A (q.flatMap bkE)) (hk : k < q.length) : ∃ b o, A = some ⟨b, o, none⟩ ∧ b < B ∧ ∀ j, j < 7 → W.cell? ⟨b, o + k * 7 + j, none⟩ = (bkE q[k])[j]? := by
  have hl := flat_length bkE_len q
  obtain ⟨b, o, e, hb, hc⟩ := Sl.place h (by rw [hl]; omega)
  refine ⟨b, o, e, hb, fun j hj => ?_⟩
  have h1 := hc (k * 7 + j) (by rw [hl]; omega)
  have h2 := flat_get bkE_len q k j hk hj
  rw [List.getElem?_eq_getElem (by rw [hl]; omega)] at h2
  rw [Nat.add_assoc, h1, h2]
/-- which kid, as the document looks for it -/
def kd (L : List Bn) (p e : Int) : Int := match hk L p e with
  | some i => i
  | none => -1
theorem kd_here {L : List Bn} {p e : Int} {i : Nat} {b : Bn} (hb : L[i]? = some b) (h1 : b.par = p) (h2 : b.edge = e) (h : ∀ j c, j < i → L[j]? = some c → ¬ (c.par = p ∧ c.edge = e)) : kd L p e = i := by
  have : hk L p e = some i := by
    unfold hk
    rw [List.findIdx?_eq_some_iff_getElem]
    obtain ⟨hi, rfl⟩ := List.getElem?_eq_some_iff.1 hb
    refine ⟨hi, by simp [h1, h2], fun j hj => ?_⟩
    have := h j L[j] hj (List.getElem?_eq_getElem (by omega))
    simp only [Bool.not_eq_true, Bool.and_eq_false_iff, decide_eq_false_iff_not]
    by_cases e1 : L[j].par = p
    · exact .inr fun e2 => this ⟨e1, e2⟩
    · exact .inl e1
  unfold kd
  rw [this]
theorem kd_none {L : List Bn} {p e : Int} (h : ∀ j c, j < L.length → L[j]? = some c → ¬ (c.par = p ∧ c.edge = e)) : kd L p e = -1 := by
  have : hk L p e = none := by
    unfold hk
    rw [List.findIdx?_eq_none_iff]
    intro c hc
    obtain ⟨j, hj⟩ := List.mem_iff_getElem?.1 hc
    have := h j c (List.getElem?_eq_some_iff.1 hj).1 hj
    simp only [Bool.and_eq_false_iff, decide_eq_false_iff_not]
    by_cases e1 : c.par = p
    · exact .inr fun e2 => this ⟨e1, e2⟩
    · exact .inl e1
  unfold kd
  rw [this]
section
variable {w w' w1 W W' : World} {i : Nat} {n k : Int} {l : List Nd} {A : Option Addr} {c : Nat}
set_option maxHeartbeats 1600000 in
theorem kid_any (p e : Int) (hp : 0 ≤ p) (h0 : ∀ d, l[0]? = some d → d.par = -1) (hs : Sl w w.heap.size A (l.flatMap bkE)) (hl : l.length ≤ 1048577) :
    Calls Try.prog 27 #[.slice A l.length c, .int .i64 p, .int .i64 e] w fun r w' => r = .returned (.int .i64 (kd (l.map bn) p e)) ∧ w = w' := by
  have HS := Lib.hid hs
  have H0 := Lib.hid h0
  have hl63 : (l.length : Int) < 9223372036854775807 := by omega
  clear hs h0
  go_enter Try.func27, Try.ntmps27
  go_wp2_with (fail)
  go_loopg [7] l.length (fun gk s7 wr => ∃ i : Nat, gk = l.length - i ∧ i ≤ l.length ∧ s7 = .int .i64 i ∧ (∀ j c, j < i → (l.map bn)[j]? = some c → ¬ (c.par = p ∧ c.edge = e)) ∧ w = wr)
  case atStart => exact ⟨0, rfl, Nat.zero_le _, rfl, fun j c hj => by omega, rfl⟩
  case round =>
    obtain ⟨i, rfl, hi, rfl, hno, rfl⟩ := hrel
    by_cases hlt : i < l.length
    · have i1 : (i : Int) < (l.length : Int) := by omega
      obtain ⟨b, o, rfl, hb, hc⟩ := bkAt HS.out hlt
      have hgi : (l.map bn)[i]? = some (bn l[i]) := by rw [List.getElem?_map, List.getElem?_eq_getElem hlt]; rfl
      obtain ⟨c5, c6⟩ : w.cell? ⟨b, o + i * 7 + 5, none⟩ = some (.int .i64 l[i].par) ∧ w.cell? ⟨b, o + i * 7 + 6, none⟩ = some (.int .i64 l[i].edge) := ⟨hc 5 (by omega), hc 6 (by omega)⟩
      have hi0 : l[i].par = p → 0 < i := fun e => by
        rcases Nat.eq_zero_or_pos i with h | h
        · subst h
          have := H0.out l[0] (List.getElem?_eq_getElem hlt)
          omega
        · exact h
      have hpe : (bn l[i]).par = l[i].par ∧ (bn l[i]).edge = l[i].edge := ⟨rfl, rfl⟩
      have HK : Hid ((l[i].par = p → l[i].edge = e → kd (l.map bn) p e = i) ∧ (¬ (l[i].par = p ∧ l[i].edge = e) → ∀ j c, j < i + 1 → (l.map bn)[j]? = some c → ¬ (c.par = p ∧ c.edge = e))) := Lib.hid ⟨fun h1 h2 => kd_here hgi h1 h2 hno, fun h j c hj hc2 => by
        rcases Nat.lt_or_ge j i with h3 | h3
        · exact hno j c h3 hc2
        · obtain rfl : j = i := by omega
          rw [hgi] at hc2
          injection hc2 with hc2
          subst hc2
          exact h⟩
      clear hc hgi hpe hno
      generalize l[i].par = p' at c5 HK hi0
      generalize l[i].edge = e' at c6 HK
      by_cases h1 : p' = p
      · have i0 := hi0 h1
        subst h1
        have b1 : (p' == p') = true := by simp
        have i3 : (0 : Int) < (i : Int) := by omega
        clear hi0
        by_cases h2 : e' = e
        · subst h2
          have b2 : (e' == e') = true := by simp
          have HE := Lib.hid (HK.out.1 rfl rfl)
          clear HK
          go_wp2_with (fail)
          go_ret
          exact ⟨by rw [HE.out]; rfl, rfl⟩
        · have b2 : (e' == e) = false := by simpa using h2
          have HE := Lib.hid (HK.out.2 fun h => h2 h.2)
          clear HK h2
          go_wp2_with (fail)
          go_roundg (l.length - (i + 1))
          case measure => omega
          case rel => exact ⟨i + 1, rfl, by omega, by go_num, HE.out, rfl⟩
      · have b1 : (p' == p) = false := by simpa using h1
        have HE := Lib.hid (HK.out.2 fun h => h1 h.1)
        clear HK h1 hi0
        go_wp2_with (fail)
        go_roundg (l.length - (i + 1))
        case measure => omega
        case rel => exact ⟨i + 1, rfl, by omega, by go_num, HE.out, rfl⟩
    · obtain rfl : i = l.length := by omega
      have i1 : ¬ (l.length : Int) < (l.length : Int) := by omega
      have HE : Hid (kd (l.map bn) p e = -1) := Lib.hid (kd_none fun j c hj => hno j c (by rw [List.length_map] at hj; exact hj))
      clear hno
      go_wp2_with (fail)
      go_ret
      exact ⟨by rw [HE.out]; rfl, rfl⟩
end
/-! ### the document's Put -/
def nodeQ (n : Int) (l : List Nd) (id : Int) (x : At) : Nd := ⟨id, x, false, (seek n (l.map bn) x.x).1, (seek n (l.map bn) x.x).2, [], .slice none 0 0⟩
theorem bn_nodeQ (n : Int) (l : List Nd) (id : Int) (x : At) : bn (nodeQ n l id x) = node n (l.map bn) id x.x := rfl
section
variable {L : List Bn} {n : Int} {x : Thing} {i : Nat} {b : Bn}
theorem Tree.root (h : Tree n L) (hb : L[0]? = some b) : b.par = -1 ∧ b.edge = 0 := by
  obtain ⟨h1, h2⟩ := h.par 0 b hb
  have hp : b.par = -1 := by omega
  have hw := h.way 0 b hb
  rw [hp] at hw
  refine ⟨hp, ?_⟩
  generalize he : b.edge = e at hw
  generalize hq : (-1 : Int) = q at hw
  cases hw with
  | root => rfl
  | step i c _ _ => omega
theorem Tree.seek_root (h : Tree n L) (hb : L[0]? = some b) : seek n L x = sk n L x (L.length - 1) 0 (M n x b.x) := by
  obtain ⟨h1, h2⟩ := h.root hb
  have hk0 := h.hk_at hb
  rw [h1, h2] at hk0
  have hl := (List.getElem?_eq_some_iff.1 hb).1
  unfold seek
  obtain ⟨f, hf⟩ : ∃ f, L.length = f + 1 := ⟨L.length - 1, by omega⟩
  rw [hf, sk_some hk0, at_of hb]
  rfl
end
section
variable {w w' w1 W W' : World} {i : Nat} {n k : Int} {l : List Nd} {A : Option Addr} {c : Nat}
/-- what the document's Put leaves -/
def RPut (w : World) (n : Int) (l : List Nd) (id : Int) (x : At) (e : Ending) (w' : World) : Prop :=
  ∃ A' c', e = .returned (.slice A' (l.length + 1) c') ∧ w'.ownsRow w.heap.size 67 7 (.slice A' (l.length + 1) c') (l.length + 1) ((l ++ [nodeQ n l id x]).flatMap bkE) ∧ Below w.heap.size w w'
/-- where it stands: the row so far, and what was boxed -/
def RpS (w : World) (l : List Nd) (id : Int) (x : At) (A2 : Option Addr) (c2 : Nat) (W : World) : Prop :=
  Below w.heap.size w W ∧ Blk W w.heap.size 38 #[.int .u64 id, .int .i64 x.x.tag, .slice x.a x.x.vec.length x.c, .string x.x.str] ∧ W.ownsRow (w.heap.size + 1) 67 7 (.slice A2 l.length c2) l.length (l.flatMap bkE)
theorem RpS.below {A2 : Option Addr} {c2 : Nat} {id : Int} {x : At} (h : RpS w l id x A2 c2 W) (o : Below W.heap.size W W') : RpS w l id x A2 c2 W' :=
  ⟨h.1.trans (o.mono h.1.size), h.2.1.below o h.2.1.lt, own_below h.2.2 o (Nat.le_refl _)⟩
/-- the last append -/
theorem RpS.last {A2 : Option Addr} {c2 : Nat} {id : Int} {x : At} {p e : Int} (h : RpS w l id x A2 c2 W) (he : seek n (l.map bn) x.x = (p, e)) {m : Nat} {w4 : World} {A4 : Option Addr} {c4 : Nat}
    (hg : ((W.drewN m).alloc (.cells #[.int .u64 id, .int .i64 x.x.tag, .slice x.a x.x.vec.length x.c, .string x.x.str, .bool false, .int .i64 p, .int .i64 e] 67)).grownBy w4 (Value.slice A2 l.length c2).ownBlock)
    (hr : w4.ownsRow (w.heap.size + 1) 67 7 (.slice A4 (l.length + 1) c4) (l.length + 1) (l.flatMap bkE ++ [.int .u64 id, .int .i64 x.x.tag, .slice x.a x.x.vec.length x.c, .string x.x.str, .bool false, .int .i64 p, .int .i64 e])) :
    RPut w n l id x (.returned (.slice A4 (l.length + 1) c4)) w4 := by
  have hO : Only (fun q => (Value.slice A2 l.length c2).ownBlock = some q) W w4 := (((Only.refl _ W).drewN m).alloc _).trans (Only.of_grown hg fun j e => .inl e) fun j e => .inl e
  refine ⟨A4, c4, rfl, ?_, h.1.trans (hO.below h.1.size fun q e => by have := (own_lt h.2.2 e).1; omega)⟩
  have e7 : (l ++ [nodeQ n l id x]).flatMap bkE = l.flatMap bkE ++ [.int .u64 id, .int .i64 x.x.tag, .slice x.a x.x.vec.length x.c, .string x.x.str, .bool false, .int .i64 p, .int .i64 e] := by
    rw [List.flatMap_append]
    simp [bkE, nodeQ, he]
  rw [e7]
  exact own_base hr (Nat.le_succ _)
set_option maxHeartbeats 3200000 in
theorem rput_any (n id : Int) (x : At) (hT : Tree n (l.map bn)) (hs : Sl w w.heap.size A (l.flatMap bkE)) (hv : ∀ d ∈ l, Sl w w.heap.size d.t.a (iv d.t.x.vec)) (hsm : ∀ d ∈ l, Small d.t.x) (hx : Small x.x) (hxs : Sl w w.heap.size x.a (iv x.x.vec)) (hl : l.length ≤ 1048576) :
    Calls Try.prog 10 #[.int .i64 n, .slice A l.length c, .agg #[.int .u64 id, .int .i64 x.x.tag, .slice x.a x.x.vec.length x.c, .string x.x.str]] w (RPut w n l id x) := by
  obtain ⟨V, hV⟩ : ∃ V, V = w.alloc (.cells #[.int .u64 id, .int .i64 x.x.tag, .slice x.a x.x.vec.length x.c, .string x.x.str] 38) := ⟨_, rfl⟩
  have hbV : Below w.heap.size w V := by rw [hV]; exact (Below.refl _ _).alloc (Nat.le_refl _) _
  have hkx : Blk V w.heap.size 38 #[.int .u64 id, .int .i64 x.x.tag, .slice x.a x.x.vec.length x.c, .string x.x.str] := by rw [hV]; exact Blk.new w _ _
  have hzV : V.heap.size = w.heap.size + 1 := by rw [hV]; simp
  have hsV := (hs.below hbV).more hbV.size
  have h1c : ∀ u ∈ l.flatMap bkE, u.oneCell' = true := by
    intro u hu
    simp only [List.mem_flatMap, bkE, List.mem_cons, List.not_mem_nil, or_false] at hu
    obtain ⟨a, -, rfl | rfl | rfl | rfl | rfl | rfl | rfl⟩ := hu <;> rfl
  have hlen : (l.flatMap bkE).length = l.length * 7 := flat_length bkE_len l
  have HST : Hid (∀ w4 A4 c4, V.grownBy w4 (Value.slice none 0 0).ownBlock → w4.ownsRow (w.heap.size + 1) 67 7 (.slice A4 l.length c4) l.length (l.flatMap bkE) → RpS w l id x A4 c4 w4) := Lib.hid fun w4 A4 c4 hg hr => by
    have hO : Only (fun _ => False) V w4 := Only.of_grown hg fun j e => by cases e
    exact ⟨hbV.trans (hO.below (by omega) fun q e => e.elim), Blk.only hkx hO fun e => e, hr⟩
  have HH := Lib.hid (And.intro hs (And.intro hv (And.intro hsm (And.intro hx (And.intro hxs hT)))))
  have HSV := Lib.hid hsV
  have HLEN := Lib.hid hlen
  have H1C := Lib.hid h1c
  have HV := Lib.hid hV
  have HZV := Lib.hid hzV
  have hD : ∀ wr A2 c2, RpS w l id x A2 c2 wr → ∀ d ∈ l, ∀ W, Below wr.heap.size wr W → Calls Try.prog 26 #[.int .i64 n, .agg #[.int .i64 x.x.tag, .slice x.a x.x.vec.length x.c, .string x.x.str], .agg #[.int .i64 d.t.x.tag, .slice d.t.a d.t.x.vec.length d.t.c, .string d.t.x.str]] W fun e w' => e = .returned (.int .i64 (M n x.x d.t.x)) ∧ RpS w l id x A2 c2 w' := fun wr A2 c2 hst d hd W hW =>
    (rdist_any n x.a d.t.a x.c d.t.c x.x d.t.x hx (hsm d hd) W (((hxs.below hst.1).more hst.1.size).on hW) ((((hv d hd).below hst.1).more hst.1.size).on hW)).mono fun e w' ⟨he, hb2⟩ => ⟨he, hst.below (hW.trans (hb2.mono hW.size))⟩
  have h0 : ∀ d, l[0]? = some d → d.par = -1 := fun d hd => (hT.root (b := bn d) (by rw [List.getElem?_map, hd]; rfl)).1
  have hK : ∀ W A2 c2, RpS w l id x A2 c2 W → ∀ p e : Int, 0 ≤ p → Calls Try.prog 27 #[.slice A l.length c, .int .i64 p, .int .i64 e] W fun r w' => r = .returned (.int .i64 (kd (l.map bn) p e)) ∧ W = w' := fun W A2 c2 hst p e hp =>
    kid_any p e hp h0 ((hs.below hst.1).more hst.1.size) (by omega)
  have hl63 : (l.length : Int) < 9223372036854775807 := by omega
  have hnil : V.ownsRow (w.heap.size + 1) 67 7 (.slice none 0 0) 0 [] := World.ownsRow_nil _ _ _ _
  have HNIL := Lib.hid hnil
  have HD := Lib.hid hD
  have HKID := Lib.hid hK
  have H0 := Lib.hid h0
  clear hbV hkx hzV hsV hs hv hsm hx hxs hT h1c hlen hV hnil hD hK h0
  by_cases hz : l.length = 0
  · have b0 : ((l.length : Int) == 0) = true := by simp [hz]
    have hsk : seek n (l.map bn) x.x = (-1, 0) := by
      rw [List.eq_nil_of_length_eq_zero hz]
      rfl
    have HSK := Lib.hid hsk
    clear hsk hz HD HKID H0
    go_enter Try.func10, Try.ntmps10
    go_upto_region 1 with (fail)
    rw [← HV.out]
    go_upto_region 2 with ((at_builtin
                            refine wpList_append_slk _ rfl (.const (.slice none 0 0)) (.tmp 11) _ rfl (w.heap.size + 1) 67 7 80 Try.underlying31 bkK (by omega) (.slice none 0 0) 0 [] rfl HNIL.out _ A l.length c (l.flatMap bkE) rfl HSV.out HLEN.out H1C.out (by omega) (by unfold maxLen; omega) (by have := HZV.out; omega) ?_
                            intro v4 w4 hown4 hg4 hat4
                            rw [Nat.zero_add, List.nil_append] at hown4
                            obtain ⟨A4, c4, rfl, -⟩ := own_slice hown4
                            have hst := HST.out w4 A4 c4 hg4 hown4
                            clear hown4 hg4 hat4 HST HNIL))
    obtain ⟨k0, k1, k2, k3⟩ : w4.cell? ⟨w.heap.size, 0, none⟩ = some (.int .u64 id) ∧ w4.cell? ⟨w.heap.size, 1, none⟩ = some (.int .i64 x.x.tag) ∧ w4.cell? ⟨w.heap.size, 2, none⟩ = some (.slice x.a x.x.vec.length x.c) ∧ w4.cell? ⟨w.heap.size, 3, none⟩ = some (.string x.x.str) := ⟨hst.2.1.cell 0, hst.2.1.cell 1, hst.2.1.cell 2, hst.2.1.cell 3⟩
    have hsl := Sl.lit w4 [.int .u64 id, .int .i64 x.x.tag, .slice x.a x.x.vec.length x.c, .string x.x.str, .bool false, .int .i64 (-1), .int .i64 0] 67
    have HSL := Lib.hid hsl
    have hz4 := hst.1.size
    have HROW := Lib.hid hst.2.2
    have hz5 : w.heap.size + 1 ≤ w4.heap.size := by have := hst.2.1.lt; omega
    have HEND := Lib.hid fun w6 A6 c6 => RpS.last (m := 0) (w4 := w6) (A4 := A6) (c4 := c6) hst HSK.out
    clear hst hsl HSV HLEN H1C HH HV HZV HSK
    go_wp2_with (at_builtin
                 refine wpList_append_slk _ rfl (.tmp 16) (.tmp 19) _ rfl (w.heap.size + 1) 67 7 80 Try.underlying31 bkK (by omega) (.slice A4 l.length c4) l.length (l.flatMap bkE) rfl (World.ownsRow.alloc (w := w4) HROW.out _) _ _ 1 1 [.int .u64 id, .int .i64 x.x.tag, .slice x.a x.x.vec.length x.c, .string x.x.str, .bool false, .int .i64 (-1), .int .i64 0] rfl HSL.out rfl (by simp [Value.oneCell']) (by omega) (by unfold maxLen; omega) (by simp; omega) ?_
                 intro v6 w6 hown6 hg6 hat6
                 obtain ⟨A6, c6, rfl, -⟩ := own_slice hown6
                 have hst := HEND.out w6 A6 c6 hg6 hown6
                 have HE := Lib.hid hst
                 clear hown6 hg6 hat6 hst HEND HROW)
    go_ret
    exact HE.out
  · have b0 : ((l.length : Int) == 0) = false := by
      have : (l.length : Int) ≠ 0 := by omega
      simpa using this
    have hsk := Tree.seek_root (x := x.x) HH.out.2.2.2.2.2 (b := bn (l[0]'(by omega))) (by rw [List.getElem?_map, List.getElem?_eq_getElem (by omega)]; rfl)
    rw [List.length_map] at hsk
    have HSK := Lib.hid hsk
    have i1 : 0 < l.length := by omega
    clear hsk
    go_enter Try.func10, Try.ntmps10
    go_upto_region 1 with (fail)
    rw [← HV.out]
    go_wp2_with (at_builtin
                 refine wpList_append_slk _ rfl (.const (.slice none 0 0)) (.tmp 11) _ rfl (w.heap.size + 1) 67 7 80 Try.underlying31 bkK (by omega) (.slice none 0 0) 0 [] rfl HNIL.out _ A l.length c (l.flatMap bkE) rfl HSV.out HLEN.out H1C.out (by omega) (by unfold maxLen; omega) (by have := HZV.out; omega) ?_
                 intro v4 w4 hown4 hg4 hat4
                 rw [Nat.zero_add, List.nil_append] at hown4
                 obtain ⟨A4, c4, rfl, -⟩ := own_slice hown4
                 have hst := HST.out w4 A4 c4 hg4 hown4
                 have HS4 := Lib.hid hst
                 clear hown4 hg4 hat4 hst HST HNIL)
    go_loopg [8] (l.length - 1) (fun gk s8 wr => ∃ f i : Nat, ∃ hi : i < l.length, f = gk ∧ s8 = .int .i64 i ∧ l.length ≤ f + (i + 1) ∧ seek n (l.map bn) x.x = sk n (l.map bn) x.x f i (M n x.x l[i].t.x) ∧ RpS w l id x A4 c4 wr)
    case atStart => exact ⟨l.length - 1, 0, i1, rfl, rfl, by omega, HSK.out, HS4.out⟩
    case round =>
      clear HSK HS4
      obtain ⟨g, i, hi, hgk, rfl, hg, hsk, hst⟩ := hrel
      have hslr := HH.out.1.below hst.1
      obtain ⟨b, o, rfl, hb, hc⟩ := bkAt hslr hi
      obtain ⟨c1, c2, c3⟩ : wr.cell? ⟨b, o + i * 7 + 1, none⟩ = some (.int .i64 l[i].t.x.tag) ∧ wr.cell? ⟨b, o + i * 7 + 2, none⟩ = some (.slice l[i].t.a l[i].t.x.vec.length l[i].t.c) ∧ wr.cell? ⟨b, o + i * 7 + 3, none⟩ = some (.string l[i].t.x.str) := ⟨hc 1 (by omega), hc 2 (by omega), hc 3 (by omega)⟩
      obtain ⟨k0, k1, k2, k3⟩ : wr.cell? ⟨w.heap.size, 0, none⟩ = some (.int .u64 id) ∧ wr.cell? ⟨w.heap.size, 1, none⟩ = some (.int .i64 x.x.tag) ∧ wr.cell? ⟨w.heap.size, 2, none⟩ = some (.slice x.a x.x.vec.length x.c) ∧ wr.cell? ⟨w.heap.size, 3, none⟩ = some (.string x.x.str) := ⟨hst.2.1.cell 0, hst.2.1.cell 1, hst.2.1.cell 2, hst.2.1.cell 3⟩
      have j1 : (i : Int) < (l.length : Int) := by omega
      have hDi := HD.out wr A4 c4 hst l[i] (List.getElem_mem hi)
      have HDI := Lib.hid hDi
      have HSK := Lib.hid hsk
      have HST3 := Lib.hid hst
      clear hc hslr hst hsk hDi HD
      obtain ⟨dv, hdv⟩ : ∃ dv, dv = M n x.x l[i].t.x := ⟨_, rfl⟩
      rw [← hdv] at HDI HSK
      generalize l[i].t.x.tag = q1 at c1 HDI
      generalize l[i].t.a = q2 at c2 HDI
      generalize l[i].t.x.vec.length = q3 at c2 HDI
      generalize l[i].t.c = q4 at c2 HDI
      generalize l[i].t.x.str = q5 at c3 HDI
      clear hdv
      go_upto_region 5 with (fail)
      go_region_law (first | (go_simp; go_at_call 26; (with_reducible refine (HDI.out _ (by repeat' (first | (with_reducible exact Below.refl _ _) | (with_reducible assumption) | (with_reducible refine Below.drew ?_) | (with_reducible refine below_drewN' ?_ _)))).mono ?_); rintro e w2 ⟨rfl, xE⟩))
      all_goals
        have XE := Lib.hid xE
        clear xE
        have hKw := HKID.out w2 A4 c4 XE.out (i : Int) dv (by omega)
        cases hq : hk (l.map bn) (i : Int) dv with
        | none =>
          have hkd : kd (l.map bn) (i : Int) dv = -1 := by
            unfold kd
            rw [hq]
          rw [hkd] at hKw
          have HKW := Lib.hid hKw
          have hsk := HSK.out
          rw [sk_none hq] at hsk
          have hst := XE.out
          obtain ⟨k0, k1, k2, k3⟩ : w2.cell? ⟨w.heap.size, 0, none⟩ = some (.int .u64 id) ∧ w2.cell? ⟨w.heap.size, 1, none⟩ = some (.int .i64 x.x.tag) ∧ w2.cell? ⟨w.heap.size, 2, none⟩ = some (.slice x.a x.x.vec.length x.c) ∧ w2.cell? ⟨w.heap.size, 3, none⟩ = some (.string x.x.str) := ⟨hst.2.1.cell 0, hst.2.1.cell 1, hst.2.1.cell 2, hst.2.1.cell 3⟩
          have hsl := Sl.lit w2 [.int .u64 id, .int .i64 x.x.tag, .slice x.a x.x.vec.length x.c, .string x.x.str, .bool false, .int .i64 i, .int .i64 dv] 67
          have HSL := Lib.hid hsl
          have HROW := Lib.hid hst.2.2
          have hz5 : w.heap.size + 1 ≤ w2.heap.size := by have := hst.2.1.lt; omega
          have HEND := Lib.hid fun w6 A6 c6 => RpS.last (m := 0) (w4 := w6) (A4 := A6) (c4 := c6) hst hsk
          clear hKw hq hkd hsk hst hsl XE HSK HDI HST3 HKID
          go_wp2_with (first
              | (go_at_call 27; (with_reducible refine HKW.out.mono ?_); rintro e w9 ⟨rfl, rfl⟩)
              | (at_builtin
                 refine wpList_append_slk _ rfl (.tmp 37) (.tmp 42) _ rfl (w.heap.size + 1) 67 7 80 Try.underlying31 bkK (by omega) (.slice A4 l.length c4) l.length (l.flatMap bkE) rfl (World.ownsRow.alloc (w := w2) HROW.out _) _ _ 1 1 [.int .u64 id, .int .i64 x.x.tag, .slice x.a x.x.vec.length x.c, .string x.x.str, .bool false, .int .i64 i, .int .i64 dv] rfl HSL.out rfl (by simp [Value.oneCell']) (by omega) (by unfold maxLen; omega) (by simp; omega) ?_
                 intro v6 w6 hown6 hg6 hat6
                 obtain ⟨A6, c6, rfl, -⟩ := own_slice hown6
                 have hst := HEND.out w6 A6 c6 hg6 hown6
                 have HE := Lib.hid hst
                 clear hown6 hg6 hat6 hst HEND HROW))
          go_ret
          exact HE.out
        | some j =>
          have hkd : kd (l.map bn) (i : Int) dv = j := by
            unfold kd
            rw [hq]
          rw [hkd] at hKw
          obtain ⟨z, hz2⟩ : ∃ z : Int, z = j := ⟨_, rfl⟩
          rw [← hz2] at hKw
          have HKW := Lib.hid hKw
          have HZ2 := Lib.hid hz2
          have hij := HH.out.2.2.2.2.2.hk_gt hq
          have hjl := hk_lt hq
          rw [List.length_map] at hjl
          have hsk := HSK.out
          obtain ⟨f, rfl⟩ : ∃ f, g = f + 1 := by
            rcases g with _ | f
            · exfalso
              have := HH.out.2.2.2.2.2.hk_high (p := (i : Int)) (e := dv) (by rw [List.length_map]; omega)
              rw [hq] at this
              cases this
            · exact ⟨f, rfl⟩
          rw [sk_some hq, at_of (b := bn l[j]) (by rw [List.getElem?_map, List.getElem?_eq_getElem hjl]; rfl)] at hsk
          have HSK2 := Lib.hid hsk
          have j2 : decide (z < 0) = false := decide_eq_false (by omega)
          clear hKw hq hkd hsk HSK HDI HST3 HKID hz2
          go_wp2_with (first | (go_at_call 27; (with_reducible refine HKW.out.mono ?_); rintro e w9 ⟨rfl, rfl⟩))
          go_roundg f
          case measure => omega
          case rel => exact ⟨f, j, hjl, rfl, by rw [HZ2.out], by omega, HSK2.out, XE.out⟩
end
end Go.Proofs.Ytaamlidflfdjkaa.bk
