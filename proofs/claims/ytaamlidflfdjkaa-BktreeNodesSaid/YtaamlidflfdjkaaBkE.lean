/-
  The document's own tree: Same, of two rows that read alike; Depth.
-/
import Derived.Test.YtaamlidflfdjkaaBkC
import Derived.Test.YtaamlidflfdjkaaGObk
import Derived.Test.YtaamlidflfdjkaaBkI
namespace Go.Proofs.Ytaamlidflfdjkaa.bk
open Go.RowKit Go.WideShapes law bytes only flat nums ord obj metric tab
open aro (Kept)
open store (iE iE_len itemAt rM)
open told (own_types blk_types)
open Go.Maps Go.ChangeAt
set_option linter.unusedVariables false
set_option maxRecDepth 100000
section
variable {w w' w1 W W' : World} {i k : Nat} {n id : Int} {l l' : List Nd} {A A' : Option Addr} {c c' g : Nat}
/-- a node's cells in a block -/
def Cs (W : World) (b o : Nat) (id : Int) (x : Thing) (A : Option Addr) (c : Nat) (gone : Bool) (par edge : Int) : Prop :=
  W.cell? ⟨b, o, none⟩ = some (.int .u64 id) ∧ W.cell? ⟨b, o + 1, none⟩ = some (.int .i64 x.tag) ∧ W.cell? ⟨b, o + 2, none⟩ = some (.slice A x.vec.length c) ∧ W.cell? ⟨b, o + 3, none⟩ = some (.string x.str) ∧ W.cell? ⟨b, o + 4, none⟩ = some (.bool gone) ∧ W.cell? ⟨b, o + 5, none⟩ = some (.int .i64 par) ∧ W.cell? ⟨b, o + 6, none⟩ = some (.int .i64 edge)
theorem Cs.below {b o : Nat} {x : Thing} {gone : Bool} {par edge : Int} (h : Cs w b o id x A c gone par edge) (hb : Below w.heap.size w W) (hl : b < w.heap.size) : Cs W b o id x A c gone par edge := by
  obtain ⟨h0, h1, h2, h3, h4, h5, h6⟩ := h
  exact ⟨(hb.cell (p := ⟨b, _, none⟩) hl).trans h0, (hb.cell (p := ⟨b, _, none⟩) hl).trans h1, (hb.cell (p := ⟨b, _, none⟩) hl).trans h2, (hb.cell (p := ⟨b, _, none⟩) hl).trans h3, (hb.cell (p := ⟨b, _, none⟩) hl).trans h4, (hb.cell (p := ⟨b, _, none⟩) hl).trans h5, (hb.cell (p := ⟨b, _, none⟩) hl).trans h6⟩
theorem bkCs {B : Nat} (h : Sl W B A (l.flatMap bkE)) (hk : k < l.length) : ∃ b o, A = some ⟨b, o, none⟩ ∧ b < B ∧ Cs W b (o + k * 7) l[k].id l[k].t.x l[k].t.a l[k].t.c l[k].gone l[k].par l[k].edge := by
  obtain ⟨b, o, e, hb, hc⟩ := bkAt h hk
  exact ⟨b, o, e, hb, hc 0 (by omega), hc 1 (by omega), hc 2 (by omega), hc 3 (by omega), hc 4 (by omega), hc 5 (by omega), hc 6 (by omega)⟩
set_option maxHeartbeats 6400000 in
theorem rbsame_any (hM : l.map bn = l'.map bn) (hs : Sl w w.heap.size A (l.flatMap bkE)) (hs' : Sl w w.heap.size A' (l'.flatMap bkE)) (hv : ∀ d ∈ l, Sl w w.heap.size d.t.a (iv d.t.x.vec)) (hv' : ∀ d ∈ l', Sl w w.heap.size d.t.a (iv d.t.x.vec)) (hsm : ∀ d ∈ l, Small d.t.x) (hl : l.length ≤ 1048577) :
    Calls Try.prog 16 #[.slice A l.length c, .slice A' l'.length c'] w fun e w' => e = .returned (.bool true) ∧ Below w.heap.size w w' := by
  have hlen : l'.length = l.length := by
    have := congrArg List.length hM
    rw [List.length_map, List.length_map] at this
    exact this.symm
  rw [hlen]
  have HS := Lib.hid hs
  have HS' := Lib.hid hs'
  have HL := Lib.hid hv
  have HL' := Lib.hid hv'
  have HM := Lib.hid hM
  have HN := Lib.hid hlen
  have HSM := Lib.hid hsm
  have hl63 : (l.length : Int) < 9223372036854775807 := by omega
  clear hs hs' hv hv' hM hlen hsm
  go_enter Try.func16, Try.ntmps16
  go_wp2_with (fail)
  go_loopg [5] l.length (fun gk s5 wr => ∃ (k : Nat), gk = l.length - k ∧ k ≤ l.length ∧ s5 = .int .i64 k ∧ Below w.heap.size w wr)
  case atStart => exact ⟨0, rfl, Nat.zero_le _, rfl, Below.refl _ _⟩
  case round =>
    obtain ⟨k, rfl, hk, rfl, hb⟩ := hrel
    have sz := hb.size
    by_cases hlt : k < l.length
    · have hlt' : k < l'.length := by rw [HN.out]; exact hlt
      have i1 : (k : Int) < (l.length : Int) := by omega
      have i0 : (0 : Int) ≤ (k : Int) := by omega
      obtain ⟨b, o, rfl, hb1, d0⟩ := bkCs (HS.out.below hb) hlt
      obtain ⟨b', o', rfl, hb1', d0'⟩ := bkCs (HS'.out.below hb) hlt'
      have hx : bn l[k] = bn l'[k] := by
        have h1 : (l.map bn)[k]? = (l'.map bn)[k]? := by rw [HM.out]
        simpa [hlt, hlt'] using h1
      have hx0 : l'[k].id = l[k].id := (congrArg Bn.id hx).symm
      have hx1 : l'[k].t.x = l[k].t.x := (congrArg Bn.x hx).symm
      have hx2 : l'[k].gone = l[k].gone := (congrArg Bn.gone hx).symm
      have hx3 : l'[k].par = l[k].par := (congrArg Bn.par hx).symm
      have hx4 : l'[k].edge = l[k].edge := (congrArg Bn.edge hx).symm
      have h1 := HL.out l[k] (List.getElem_mem hlt)
      have h2 := HL'.out l'[k] (List.getElem_mem hlt')
      have hf1 := HSM.out l[k] (List.getElem_mem hlt)
      rw [hx0, hx1, hx2, hx3, hx4] at d0'
      rw [hx1] at h2
      clear hx hx0 hx1 hx2 hx3 hx4
      generalize l[k].id = i at d0 d0'
      obtain ⟨x, hxx⟩ : ∃ x, l[k].t.x = x := ⟨_, rfl⟩
      rw [hxx] at d0 d0' h1 h2 hf1
      generalize l[k].gone = gg at d0 d0'
      generalize l[k].par = pp at d0 d0'
      generalize l[k].edge = ee at d0 d0'
      generalize l[k].t.a = A1 at d0 h1
      generalize l[k].t.c = c1 at d0
      generalize l'[k].t.a = A2 at d0' h2
      generalize l'[k].t.c = c2 at d0'
      have hxl : x.vec.length ≤ 281474976710656 := by have := hf1.2.1; omega
      have HC : Hid (∀ W, Below wr.heap.size wr W → Calls Try.prog 31 #[.agg #[.int .i64 x.tag, .slice A1 x.vec.length c1, .string x.str], .agg #[.int .i64 x.tag, .slice A2 x.vec.length c2, .string x.str]] W fun e w' => e = .returned (.bool true) ∧ Below wr.heap.size wr w') := Lib.hid fun W hW => by
        have hbw := hb.trans (hW.mono sz)
        have h := rsame_any A1 A2 c1 c2 w.heap.size w.heap.size x x W hxl hxl hbw.size hbw.size (h1.below hbw) (h2.below hbw)
        rw [sameO_rfl] at h
        exact h.mono fun e w' ⟨he, hb2⟩ => ⟨he, hW.trans (hb2.mono hW.size)⟩
      have HST : Hid (∀ W, Below wr.heap.size wr W → Cs W b (o + k * 7) i x A1 c1 gg pp ee ∧ Cs W b' (o' + k * 7) i x A2 c2 gg pp ee) := Lib.hid fun W hW => ⟨d0.below hW (by omega), d0'.below hW (by omega)⟩
      have i2 : (i == i) = true := by simp
      have i3 : (i != i) = false := by simp
      have i4 : (gg != gg) = false := by simp
      have i5 : (pp != pp) = false := by simp
      have i6 : (ee != ee) = false := by simp
      have i7 : (pp == pp) = true := by simp
      have i8 : (ee == ee) = true := by simp
      have i9 : (gg == gg) = true := by simp
      have HBR := Lib.hid hb
      clear d0 d0' h1 h2 hf1 hxx hb hxl
      unfold Cs at HST
      go_wp2_with (fail)
      dsimp only [List.append]
      go_region_held3 (fun W => (W.cell? ⟨b, o + k * 7, none⟩ = some (.int .u64 i) ∧ W.cell? ⟨b, o + k * 7 + 1, none⟩ = some (.int .i64 x.tag) ∧ W.cell? ⟨b, o + k * 7 + 2, none⟩ = some (.slice A1 x.vec.length c1) ∧ W.cell? ⟨b, o + k * 7 + 3, none⟩ = some (.string x.str) ∧ W.cell? ⟨b, o + k * 7 + 4, none⟩ = some (.bool gg) ∧ W.cell? ⟨b, o + k * 7 + 5, none⟩ = some (.int .i64 pp) ∧ W.cell? ⟨b, o + k * 7 + 6, none⟩ = some (.int .i64 ee)) ∧
          W.cell? ⟨b', o' + k * 7, none⟩ = some (.int .u64 i) ∧ W.cell? ⟨b', o' + k * 7 + 1, none⟩ = some (.int .i64 x.tag) ∧ W.cell? ⟨b', o' + k * 7 + 2, none⟩ = some (.slice A2 x.vec.length c2) ∧ W.cell? ⟨b', o' + k * 7 + 3, none⟩ = some (.string x.str) ∧ W.cell? ⟨b', o' + k * 7 + 4, none⟩ = some (.bool gg) ∧ W.cell? ⟨b', o' + k * 7 + 5, none⟩ = some (.int .i64 pp) ∧ W.cell? ⟨b', o' + k * 7 + 6, none⟩ = some (.int .i64 ee))
        ((refine HST.out _ ?_; (first | (with_reducible assumption) | exact Below.drew (Below.refl _ _) | exact below_drewN (Below.refl _ _) _)))
        (first
          | (go_at_call 31; (with_reducible refine (HC.out _ (by first | (with_reducible assumption) | exact Below.drew (Below.refl _ _) | exact below_drewN (Below.refl _ _) _)).mono ?_); rintro e w5 ⟨rfl, hb5⟩))
      have HB5 := Lib.hid (HBR.out.trans (hb5.mono sz))
      clear hb5 HC HST
      go_wp2_with (fail)
      go_roundg (l.length - (k + 1))
      case measure => omega
      case rel => exact ⟨k + 1, rfl, by omega, by go_num, HB5.out⟩
    · obtain rfl : k = l.length := by omega
      have i1 : ¬ (l.length : Int) < (l.length : Int) := by omega
      have HB5 := Lib.hid hb
      clear hb
      go_wp2_with (fail)
      go_ret
      exact ⟨rfl, HB5.out⟩
end
end Go.Proofs.Ytaamlidflfdjkaa.bk
