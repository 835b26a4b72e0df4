/-
  The contract of seek: the hook at which a thing has to hang.
-/
import Derived.Test.YtaamlidflfdjkaaBkA
import Derived.Deep.LoopGhost
import Derived.Deep.RegionHeld3
import Derived.Deep.QuietTactic
import Derived.BigQuiet
import Derived.WalkSpells
import Derived.Lib.Hide
namespace Go.Proofs.Ytaamlidflfdjkaa.bk
open Go.RowKit Go.WideShapes law bytes only flat nums ord obj metric tab
open told (own_types blk_types)
open Go.Maps Go.ChangeAt
set_option linter.unusedVariables false

theorem intZ (w : World) : (zeroValue 3).run Try.prog w = .ok (.int .i64 0) w := by kernel_rfl
set_option maxRecDepth 100000 in
/-- what a look-up by a hook tells -/
theorem look_hook {w : World} {hb m : Nat} {D : DataW Unit} {L : List Bn} (h : w.ownsMap Try.prog 97 (plainElem (H := Unit) Try.prog 3) hb m D) (hD : Hk D L) {p e : Int} (hp : I64 p) (he : I64 e) :
    ∃ c : Int, (∀ j, (Instr.lookup 68 (.map (some hb)) (.agg #[.int .i64 p, .int .i64 e]) true).run Try.prog (w.drewN j) = .ok (.tuple #[.int .i64 c, .bool (hk L p e).isSome]) (w.drewN j)) ∧ ∀ i, hk L p e = some i → c = (i : Int) := by
  obtain ⟨h1, h2⟩ := hD.2 p e hp he
  have key : ∀ j, ∃ c : Int, (Instr.lookup 68 (.map (some hb)) (.agg #[.int .i64 p, .int .i64 e]) true).run Try.prog (w.drewN j) = .ok (.tuple #[.int .i64 c, .bool (hk L p e).isSome]) (w.drewN j) ∧ D.atKey (hkey p e) (.lit (.int .i64 0)) = .lit (.int .i64 c) := fun j => by
    have hj : (w.drewN j).ownsMap Try.prog 97 (plainElem (H := Unit) Try.prog 3) hb m D := h
    obtain ⟨v, ps, hrun, hv⟩ := hj.look_ok (t := 68) (e := 3) hookLaw Try.underlying68 (intZ _) (zd := .lit (.int .i64 0)) (zp := []) (plainElem_int Try.underlying3 (by decide)) (hook_keyOf hp he)
    obtain ⟨c, rfl, hc, -⟩ := plainElem_int_inv Try.underlying3 hv
    rw [h1] at hrun
    exact ⟨c, hrun, congrArg Prod.fst hc⟩
  obtain ⟨c, -, hc⟩ := key 0
  refine ⟨c, fun j => ?_, fun i hi => ?_⟩
  · obtain ⟨c', h3, h4⟩ := key j
    rw [hc] at h4
    injection h4 with h4
    injection h4 with _ h4
    rw [h4]
    exact h3
  · rw [h2 i hi] at hc
    injection hc with hc
    injection hc with _ hc
    exact hc.symm
theorem sk_none {n : Int} {L : List Bn} {x : Thing} {p e : Int} (h : hk L p e = none) : ∀ f, sk n L x f p e = (p, e)
  | 0 => rfl
  | f + 1 => by unfold sk; rw [h]
theorem sk_some {n : Int} {L : List Bn} {x : Thing} {p e : Int} {i : Nat} (h : hk L p e = some i) (f : Nat) : sk n L x (f + 1) p e = sk n L x f i (M n x (at_ L i)) := by
  show (match hk L p e with | none => (p, e) | some i => sk n L x f i (M n x (at_ L i))) = _
  rw [h]
/-- what seek leaves -/
def Sought (w : World) (g : Nat) (n k : Int) (L : List Bn) (x : Thing) (e : Ending) (w' : World) : Prop :=
  e = .returned (.agg #[.int .i64 (seek n L x).1, .int .i64 (seek n L x).2]) ∧ ∃ k', k ≤ k' ∧ k' ≤ k + (L.length : Int) ∧ Only (· = g) w w' ∧ Mt w' g n k'
/-- on the way down -/
def SkS (w : World) (g : Nat) (n k : Int) (L : List Bn) (x : At) (gk : Nat) (p e : Int) (wr : World) : Prop :=
  (∃ kk, Only (· = g) w wr ∧ Mt wr g n kk ∧ k ≤ kk ∧ kk + (gk : Int) ≤ k + (L.length : Int)) ∧ sk n L x.x gk p e = seek n L x.x ∧ (L.length : Int) ≤ gk + (p + 1) ∧ I64 p ∧ I64 e ∧
  Blk wr w.heap.size 36 #[.int .i64 x.x.tag, .slice x.a x.x.vec.length x.c, .string x.x.str] ∧ Blk wr (w.heap.size + 1) 97 #[.int .i64 0, .int .i64 0] ∧ Blk wr (w.heap.size + 2) 97 #[.int .i64 p, .int .i64 e]
section
variable {w w' w1 : World} {base tb g hb pb mh mp B : Nat} {n k : Int} {T S : Nat → Prop} {vN v4 : Value} {N : List Nd} {DH DP D1 : DataW Unit} {d : Nd} {t t' : TypeId} {A : Option Addr} {xs : List Value}
set_option maxRecDepth 100000 in
set_option maxHeartbeats 3200000 in
theorem seek_any (h : Bx w base tb g n k T N) (x : At) (hx : Small x.x) (hs : Sl w w.heap.size x.a (iv x.x.vec)) (hk : 0 ≤ k ∧ k + (N.length : Int) < 9223372036854775807) (hN : N.length ≤ 1048576) :
    Calls Try.prog 41 #[.pointer (some ⟨tb, 0, none⟩), oW x] w (Sought w g n k (N.map bn) x.x) := by
  unfold oW
  have htree := h.tree
  have hbf := h.bf
  have hgb := h.gb
  have hmt := h.mt
  obtain ⟨hb, pb, mh, mp, vN, DH, DP, hm, hl, -, -⟩ := h
  have htb := hm.low _ hm.tt
  have htg := hm.tbg
  have hgl := hmt.lt
  obtain ⟨L, hL⟩ : ∃ L, L = N.map bn := ⟨_, rfl⟩
  have hLl : L.length = N.length := by rw [hL, List.length_map]
  rw [← hL] at htree hbf ⊢
  have hhk := hl.hk
  rw [← hL] at hhk
  -- what is kept while the meter alone turns
  have HT : Hid (∀ (W : World) (kk : Int), Only (· = g) w W → Mt W g n kk → Bm W base tb g hb pb mh mp n kk T vN N DH DP ∧ Sl W W.heap.size x.a (iv x.x.vec)) := Lib.hid fun W kk hW hmW => by
    have hgW : w.grownBy W (some g) := ⟨hW.os, hW.tape, hW.output, hW.size, fun i hi hne => hW.block i hi fun e => hne (by rw [e])⟩
    exact ⟨hm.asked hW hmW, hmt.past hs hgW⟩
  obtain ⟨V, hV⟩ : ∃ V, V = ((w.alloc (.cells #[.int .i64 x.x.tag, .slice x.a x.x.vec.length x.c, .string x.x.str] 36)).alloc (.cells #[.int .i64 0, .int .i64 0] 97)).alloc (.cells #[.int .i64 (-1), .int .i64 0] 97) := ⟨_, rfl⟩
  have HSt : Hid (SkS w g n k L x L.length (-1) 0 V) := Lib.hid (by
    have hb0 : Below w.heap.size w V := by rw [hV]; exact (((Below.refl _ _).alloc (Nat.le_refl _) _).alloc (by simp) _).alloc (by simp; omega) _
    have q0 := ((Blk.new w 36 #[.int .i64 x.x.tag, .slice x.a x.x.vec.length x.c, .string x.x.str]).alloc (.cells #[.int .i64 0, .int .i64 0] 97)).alloc (.cells #[.int .i64 (-1), .int .i64 0] 97)
    have q1 := (Blk.new (w.alloc (.cells #[.int .i64 x.x.tag, .slice x.a x.x.vec.length x.c, .string x.x.str] 36)) 97 #[.int .i64 0, .int .i64 0]).alloc (.cells #[.int .i64 (-1), .int .i64 0] 97)
    have q2 := Blk.new ((w.alloc (.cells #[.int .i64 x.x.tag, .slice x.a x.x.vec.length x.c, .string x.x.str] 36)).alloc (.cells #[.int .i64 0, .int .i64 0] 97)) 97 #[.int .i64 (-1), .int .i64 0]
    rw [← hV] at q0 q1 q2
    rw [show (w.alloc (.cells #[.int .i64 x.x.tag, .slice x.a x.x.vec.length x.c, .string x.x.str] 36)).heap.size = w.heap.size + 1 by simp] at q1
    rw [show ((w.alloc (.cells #[.int .i64 x.x.tag, .slice x.a x.x.vec.length x.c, .string x.x.str] 36)).alloc (.cells #[.int .i64 0, .int .i64 0] 97)).heap.size = w.heap.size + 2 by simp] at q2
    exact ⟨⟨k, Only.of_below hb0 (Nat.le_refl _) _, hmt.below hb0 hgl, Int.le_refl _, by omega⟩, rfl, by omega, ⟨by omega, by omega⟩, ⟨by omega, by omega⟩, q0, q1, q2⟩)
  have HX := Lib.hid (And.intro hx (And.intro hhk (And.intro htree hbf)))
  have HK := Lib.hid (And.intro hk (And.intro hN hLl))
  have HL := Lib.hid hL
  have HG := Lib.hid (And.intro hgb (And.intro htb (And.intro htg hgl)))
  have HV := Lib.hid hV
  clear hm hl hmt hs htree hbf hgb htb htg hgl hhk hx hk hN hLl hL hV
  go_enter Try.func41, Try.ntmps41
  go_wp2_with (fail)
  rw [← HV.out]
  go_loopg [] L.length (fun gk wr => ∃ p e, SkS w g n k L x gk p e wr)
  case atStart => exact ⟨_, _, HSt.out⟩
  case round =>
    obtain ⟨p, e, hst⟩ := hrel
    obtain ⟨⟨kk, ho, hmk, hk1, hk2⟩, hsk, hfu, hip, hie, q0, q1, q2⟩ := hst
    obtain ⟨hx, hhk, htree, hbf⟩ := HX.out
    obtain ⟨hk, hN, hLl⟩ := HK.out
    obtain ⟨hgb, htb, htg, hgl⟩ := HG.out
    obtain ⟨hm, hsl⟩ := HT.out wr kk ho hmk
    obtain ⟨c, hlk, hci⟩ := look_hook hm.hm hhk hip hie
    obtain ⟨t0, t1, t2, -⟩ := hm.cells
    obtain ⟨e0, e1⟩ : wr.cell? ⟨w.heap.size + 1 + 1, 0, none⟩ = some (.int .i64 p) ∧ wr.cell? ⟨w.heap.size + 1 + 1, 1, none⟩ = some (.int .i64 e) := ⟨q2.cell 0, q2.cell 1⟩
    cases hq : bk.hk L p e with
    | none =>
      rw [hq] at hlk
      simp only [Option.isSome_none] at hlk
      rw [sk_none hq] at hsk
      have hc : wr.cell? ⟨w.heap.size + 1, 0, none⟩ = some (.int .i64 0) ∧ wr.cell? ⟨w.heap.size + 1, 1, none⟩ = some (.int .i64 0) ∧ wr.frozen? ⟨w.heap.size + 1, 0, none⟩ = false ∧ wr.frozen? ⟨w.heap.size + 1, 1, none⟩ = false := ⟨q1.cell 0, q1.cell 1, q1.frozen 0, q1.frozen 1⟩
      obtain ⟨f0, f1, f2, f3⟩ := hc
      have HE : Hid (∀ nq, (((wr.drewN nq).setCell ⟨w.heap.size + 1, 0, none⟩ (.int .i64 p)).setCell ⟨w.heap.size + 1, 1, none⟩ (.int .i64 e)).cell? ⟨w.heap.size + 1, 0, none⟩ = some (.int .i64 p) ∧
          (((wr.drewN nq).setCell ⟨w.heap.size + 1, 0, none⟩ (.int .i64 p)).setCell ⟨w.heap.size + 1, 1, none⟩ (.int .i64 e)).cell? ⟨w.heap.size + 1, 1, none⟩ = some (.int .i64 e) ∧
          Sought w g n k L x.x (.returned (.agg #[.int .i64 p, .int .i64 e])) (((wr.drewN nq).setCell ⟨w.heap.size + 1, 0, none⟩ (.int .i64 p)).setCell ⟨w.heap.size + 1, 1, none⟩ (.int .i64 e))) := Lib.hid fun nq => by
        have q3 := ((q1.drewN nq).set_ 0 (.int .i64 p)).set_ 1 (.int .i64 e)
        refine ⟨q3.cell 0, q3.cell 1, by rw [← hsk], kk, hk1, by omega, ?_, ?_⟩
        · exact ((ho.drewN nq).setCell (.inr (by simp)) _).setCell (.inr (by simp)) _
        · exact Blk.far (Blk.far (Blk.drewN hmk nq) (p := ⟨w.heap.size + 1, 0, none⟩) (by simp; omega) _) (p := ⟨w.heap.size + 1, 1, none⟩) (by simp; omega) _
      clear hm hsl hmk ho hx hhk htree hbf hk hN hLl hgb htb htg hgl hq hsk q0 q1 q2 hci hk1 hk2 hfu
      go_wp2_with (fail)
      go_quiet (fail)
      obtain ⟨r0, r1, r2⟩ := HE.out nq
      have HR := Lib.hid r2
      clear r2 HE
      go_wp2_with (fail)
      refine bodyPost_ret (v := .agg #[.int .i64 p, .int .i64 e]) (by simp [results, Try.results41, go_sem, r0, r1]) rfl ?_
      exact HR.out
    | some i =>
      have hil := hk_lt hq
      have hiN : i < N.length := by omega
      obtain ⟨gk', rfl⟩ : ∃ f, gk = f + 1 := by
        have := (htree.hk_gt hq).1
        exact ⟨gk - 1, by omega⟩
      rw [hq] at hlk
      simp only [Option.isSome_some] at hlk
      obtain rfl := hci i hq
      rw [sk_some hq] at hsk
      obtain ⟨rb, cN, rfl, hTb, hrl, hrg, hrt, hfz, hcell⟩ := hm.place (by omega)
      have hd := hm.nx N[i] (List.getElem_mem hiN)
      have hat : at_ L i = N[i].t.x := at_of (b := bn N[i]) (by rw [HL.out, List.getElem?_map, List.getElem?_eq_getElem hiN]; rfl)
      obtain ⟨d1, d2, d3⟩ : wr.cell? ⟨rb, i * 8 + 1, none⟩ = some (.int .i64 N[i].t.x.tag) ∧ wr.cell? ⟨rb, i * 8 + 2, none⟩ = some (.slice N[i].t.a N[i].t.x.vec.length N[i].t.c) ∧ wr.cell? ⟨rb, i * 8 + 3, none⟩ = some (.string N[i].t.x.str) := ⟨hcell i hiN 1 (by omega), hcell i hiN 2 (by omega), hcell i hiN 3 (by omega)⟩
      have i1 : (i : Int) < (N.length : Int) := by omega
      rw [hat] at hsk
      clear hcell
      have hyb : Small N[i].t.x := (hbf (bn N[i]) (by rw [HL.out]; exact List.mem_map_of_mem (List.getElem_mem hiN))).small
      have hyv := hd.vec.sl
      generalize N[i] = y at hd hsk d1 d2 d3 hyb hyv
      obtain ⟨d, hdd⟩ : ∃ d, d = M n x.x y.t.x := ⟨_, rfl⟩
      have hdi : I64 d := by
        have h1 := M_nonneg n x.x y.t.x
        have h2 := M_small (n := n) hx hyb
        rw [← hdd] at h1 h2
        exact ⟨by omega, by omega⟩
      rw [← hdd] at hsk
      have hgt := (htree.hk_gt hq).1
      obtain ⟨Q, hQ⟩ : ∃ Q : Nat → Prop, Q = fun j => j = g ∨ j = w.heap.size + 1 + 1 := ⟨_, rfl⟩
      have hso := ho.size
      have q2l := q2.lt
      obtain ⟨Yf, hYf⟩ : ∃ Yf : Nat → World, Yf = fun nq => wr.drewN nq := ⟨_, rfl⟩
      have HSS : Hid (∀ nq W, Only Q (wr.drewN nq) W → W.cell? ⟨tb, 0, none⟩ = some (.pointer (some ⟨g, 0, none⟩)) ∧ W.cell? ⟨w.heap.size, 0, none⟩ = some (.int .i64 x.x.tag) ∧ W.cell? ⟨w.heap.size, 1, none⟩ = some (.slice x.a x.x.vec.length x.c) ∧ W.cell? ⟨w.heap.size, 2, none⟩ = some (.string x.x.str) ∧
          W.cell? ⟨tb, 1, none⟩ = some (.slice (some ⟨rb, 0, none⟩) N.length cN) ∧ W.cell? ⟨rb, i * 8 + 1, none⟩ = some (.int .i64 y.t.x.tag) ∧ W.cell? ⟨rb, i * 8 + 2, none⟩ = some (.slice y.t.a y.t.x.vec.length y.t.c) ∧ W.cell? ⟨rb, i * 8 + 3, none⟩ = some (.string y.t.x.str)) := Lib.hid fun nq W hW => by
        have key : ∀ b j, b < wr.heap.size → b ≠ g → b ≠ w.heap.size + 1 + 1 → W.cell? ⟨b, j, none⟩ = wr.cell? ⟨b, j, none⟩ := fun b j hbl h1 h2 => (World.cell?_of_block (a := ⟨b, j, none⟩) (hW.block b hbl fun e => by subst hQ; exact e.elim h1 h2)).trans rfl
        have hrw : rb ≠ w.heap.size + 1 + 1 := fun e => by
          subst e
          exact absurd ((Ty.own hm.row (g := w.heap.size + 1 + 1) rfl).one (Ty.blk q2)) (by decide)
        refine ⟨(key tb 0 (by omega) htg (by omega)).trans t0, (key _ 0 (by omega) (by omega) (by omega)).trans (q0.cell 0), (key _ 1 (by omega) (by omega) (by omega)).trans (q0.cell 1), (key _ 2 (by omega) (by omega) (by omega)).trans (q0.cell 2), (key tb 1 (by omega) htg (by omega)).trans t1, (key rb _ hrl hrg hrw).trans d1, (key rb _ hrl hrg hrw).trans d2, (key rb _ hrl hrg hrw).trans d3⟩
      have HD : Hid (∀ nq W, Below (wr.drewN nq).heap.size (wr.drewN nq) W → Calls Try.prog 46 #[.pointer (some ⟨g, 0, none⟩), .agg #[.int .i64 x.x.tag, .slice x.a x.x.vec.length x.c, .string x.x.str], .agg #[.int .i64 y.t.x.tag, .slice y.t.a y.t.x.vec.length y.t.c, .string y.t.x.str]] W fun e2 w2 => e2 = .returned (.int .i64 d) ∧
          Only Q (wr.drewN nq) w2 ∧ (w2.cell? ⟨w.heap.size + 1 + 1, 0, none⟩ = some (.int .i64 p) ∧ w2.cell? ⟨w.heap.size + 1 + 1, 1, none⟩ = some (.int .i64 e) ∧ w2.frozen? ⟨w.heap.size + 1 + 1, 0, none⟩ = false ∧ w2.frozen? ⟨w.heap.size + 1 + 1, 1, none⟩ = false) ∧
          Hid (∀ m, SkS w g n k L x gk' i d (((w2.drewN m).setCell ⟨w.heap.size + 1 + 1, 0, none⟩ (.int .i64 (i : Int))).setCell ⟨w.heap.size + 1 + 1, 1, none⟩ (.int .i64 d)))) := Lib.hid fun nq W hW => by
        have hbW : Below wr.heap.size wr W := ⟨hW.os, hW.tape, hW.output, hW.size, hW.block⟩
        refine (cdist_any x.a y.t.a x.c y.t.c x.x y.t.x hx hyb W ((hsl.below hbW).more hbW.size) ((hyv.below hbW).more hbW.size) (hmk.below hbW hmk.lt) (by omega)).mono fun e2 w2 ⟨he, hgr, hm2⟩ => ?_
        have hg : Only (· = g) W w2 := Only.of_grown hgr fun j e => .inl (by injection e with e; exact e.symm)
        have x0 := Blk.only (q0.below hbW q0.lt) hg (by omega)
        have x1 := Blk.only (q1.below hbW q1.lt) hg (by omega)
        have x2 := Blk.only (q2.below hbW q2.lt) hg (by omega)
        have hog : Only (· = g) w w2 := (ho.on hbW).trans hg fun i e => .inl e
        refine ⟨by rw [he, hdd], ?_, ⟨x2.cell 0, x2.cell 1, x2.frozen 0, x2.frozen 1⟩, Lib.hid fun m => ?_⟩
        · have h1 : Only Q (wr.drewN nq) W := Only.of_below hW (Nat.le_refl _) _
          exact h1.trans hg fun j e => .inl (by subst hQ; exact .inl e)
        · have y2 := ((Blk.drewN x2 m).set_ 0 (.int .i64 (i : Int))).set_ 1 (.int .i64 d)
          refine ⟨⟨kk + 1, ?_, ?_, by omega, by push_cast at hk2; omega⟩, hsk, by push_cast at hfu; omega, ⟨by omega, by omega⟩, hdi, ?_, ?_, y2⟩
          · exact ((hog.drewN m).setCell (.inr (by simp; omega)) _).setCell (.inr (by simp; omega)) _
          · exact Blk.far (Blk.far (Blk.drewN hm2 m) (p := ⟨w.heap.size + 1 + 1, 0, none⟩) (by simp; omega) _) (p := ⟨w.heap.size + 1 + 1, 1, none⟩) (by simp; omega) _
          · exact Blk.far (Blk.far (Blk.drewN x0 m) (p := ⟨w.heap.size + 1 + 1, 0, none⟩) (by simp; omega) _) (p := ⟨w.heap.size + 1 + 1, 1, none⟩) (by simp; omega) _
          · exact Blk.far (Blk.far (Blk.drewN x1 m) (p := ⟨w.heap.size + 1 + 1, 0, none⟩) (by simp) _) (p := ⟨w.heap.size + 1 + 1, 1, none⟩) (by simp) _
      have HQ : Hid (Q (w.heap.size + 1 + 1)) := Lib.hid (by subst hQ; exact .inr rfl)
      clear hm hsl hmk ho hx hhk htree hbf hk hN hLl hgb htb htg hgl hq hsk q0 q1 q2 hk1 hk2 hfu hci hd hyb hyv hdd hdi hat hgt hQ hso q2l hYf
      go_wp2_with (fail)
      go_quiet (fail)
      go_wp2_with (fail)
      have HS1 := Lib.hid (HSS.out nq)
      have HD1 := Lib.hid (HD.out nq)
      obtain ⟨z0, z1, z2, z3, z4, z5, z6, z7⟩ := HSS.out nq _ (Only.refl _ _)
      clear HSS HD t0 t1 t2 d1 d2 d3 e0 e1 hlk
      obtain ⟨Y, hY⟩ : ∃ Y, Y = wr.drewN nq := ⟨_, rfl⟩
      rw [← hY] at HS1 HD1 z0 z1 z2 z3 z4 z5 z6 z7 ⊢
      clear hY
      go_region_held3 (fun W => W.cell? ⟨tb, 0, none⟩ = some (.pointer (some ⟨g, 0, none⟩)) ∧ W.cell? ⟨w.heap.size, 0, none⟩ = some (.int .i64 x.x.tag) ∧ W.cell? ⟨w.heap.size, 1, none⟩ = some (.slice x.a x.x.vec.length x.c) ∧ W.cell? ⟨w.heap.size, 2, none⟩ = some (.string x.x.str) ∧
          W.cell? ⟨tb, 1, none⟩ = some (.slice (some ⟨rb, 0, none⟩) N.length cN) ∧ W.cell? ⟨rb, i * 8 + 1, none⟩ = some (.int .i64 y.t.x.tag) ∧ W.cell? ⟨rb, i * 8 + 2, none⟩ = some (.slice y.t.a y.t.x.vec.length y.t.c) ∧ W.cell? ⟨rb, i * 8 + 3, none⟩ = some (.string y.t.x.str))
        ((first | (with_reducible assumption) | (refine HS1.out _ ?_; repeat' (first | (with_reducible assumption) | (with_reducible exact Only.refl _ _) | (with_reducible refine Only.drew ?_) | (with_reducible refine Only.drewN ?_ _) | (with_reducible refine Only.setCell ?_ (.inl HQ.out) _)))))
        ((go_at_call 46; (with_reducible refine (HD1.out _ (by repeat' (first | (with_reducible exact Below.refl _ _) | (with_reducible assumption) | (with_reducible refine Below.drew ?_) | (with_reducible refine below_drewN' ?_ _)))).mono ?_); rintro e2 w2 ⟨rfl, hO2, ⟨g0, g1, g2, g3⟩, hX2⟩))
      clear HD1 HS1 hO2 z0 z1 z2 z3 z4 z5 z6 z7
      go_wp2_with (fail)
      go_roundg gk'
      case measure => omega
      case rel => first | exact ⟨_, _, hX2.out 0⟩ | exact ⟨_, _, hX2.out 2⟩
end
end Go.Proofs.Ytaamlidflfdjkaa.bk
