/-
  Where a law of layer 17 stands; what it calls.
-/
import Derived.Test.YtimkbadjcdnjjaaScO
namespace Go.Proofs.Ytimkbadjcdnjjaa.scan
open Go.RowKit law bytes only flat nums ord obj metric
open hit (Hit hv hv_length lt Rises sortH sortH_length hitE hc_oneOf hv_snoc)
open best (Be keep)
set_option linter.unusedVariables false
set_option maxRecDepth 100000

/-- the argument's box, what there was; a meter asked j times; a row of the document's that no meter turns -/
structure St (w W : World) (d : Dat) (g : Nat) (j : Int) (Aa : Option Addr) (all : List Hit) : Prop where
  box : Blk W w.heap.size 27 (aC d)
  low : Below w.heap.size w W
  mx : Mx W (some ⟨g, 0, none⟩) d.n j
  gl : w.heap.size < g
  row : Away W (tk (some ⟨g, 0, none⟩)) Aa (hv all)
section
variable {w W W' : World} {d : Dat} {g : Nat} {j j' : Int} {Aa : Option Addr} {all : List Hit}
theorem St.on (h : St w W d g j Aa all) (o : Below W.heap.size W W') : St w W' d g j Aa all := ⟨h.box.below o h.box.lt, h.low.trans (o.mono h.low.size), h.mx.on o, h.gl, h.row.below o⟩
theorem St.drew (h : St w W d g j Aa all) : St w W.drew d g j Aa all := h.on ((Below.refl _ _).drew)
theorem St.drewN (h : St w W d g j Aa all) (n : Nat) : St w (W.drewN n) d g j Aa all := h.on (below_drewN' (Below.refl _ _) n)
theorem St.gd (h : St w W d g j Aa all) : ∀ i, tk (some ⟨g, 0, none⟩) i → w.heap.size < i := fun i hi => by rw [← (tk_some g i).1 hi]; exact h.gl
theorem St.asked (h : St w W d g j Aa all) (o : Only (tk (some ⟨g, 0, none⟩)) W W') (hm : Mx W' (some ⟨g, 0, none⟩) d.n j') : St w W' d g j' Aa all :=
  ⟨Blk.only h.box o fun e => absurd (h.gd _ e) (by omega), h.low.trans (o.below h.low.size fun i e => Nat.le_of_lt (h.gd i e)), hm, h.gl, h.row.step o fun i _ e => e⟩
/-- the cells that a law reads -/
def Rd (W : World) (b : Nat) (d : Dat) : Prop :=
  W.cell? ⟨b, 0, none⟩ = some (.int .i64 d.n) ∧ W.cell? ⟨b, 1, none⟩ = some (.slice d.A d.l.length d.c) ∧ W.cell? ⟨b, 2, none⟩ = some (.int .i64 d.q.x.tag) ∧ W.cell? ⟨b, 3, none⟩ = some (.slice d.q.a d.q.x.vec.length d.q.c) ∧
  W.cell? ⟨b, 4, none⟩ = some (.string d.q.x.str) ∧ W.cell? ⟨b, 5, none⟩ = some (.int .i64 d.r) ∧ W.cell? ⟨b, 6, none⟩ = some (.int .i64 d.kk)
theorem rd_of (h : Blk W g 27 (aC d)) : Rd W g d := ⟨h.cell 0, h.cell 1, h.cell 2, h.cell 3, h.cell 4, h.cell 5, h.cell 6⟩
theorem St.rd (h : St w W d g j Aa all) : Rd W w.heap.size d := rd_of h.box
theorem St.mt (h : St w W d g j Aa all) : Mt W g d.n j := by
  rcases h.mx with ⟨g', e, hm⟩ | ⟨e, _⟩
  · injection e with e
    injection e with e
    subst e
    exact hm
  · cases e
theorem St.calls (h : St w W d g j Aa all) : Calls Try.prog 12 #[.pointer (some ⟨g, 0, none⟩)] W fun e w' => e = .returned (.int .i64 j) ∧ St w w' d g j Aa all :=
  (calls_any W h.mt).mono fun e w' ⟨he, hw⟩ => ⟨he, hw ▸ h⟩
theorem St.lives (h : St w W d g j Aa all) : Calls Try.prog 7 #[] W fun e w' => e = .returned (.bool true) ∧ St w w' d g j Aa all :=
  (lives_any W).mono fun e w' ⟨he, hb⟩ => ⟨he, h.on hb⟩
/-- .. and another row -/
def St1 (w W : World) (d : Dat) (g : Nat) (j : Int) (Aa : Option Addr) (all : List Hit) (A2 : Option Addr) (l2 : List Hit) : Prop := St w W d g j Aa all ∧ Sl W W.heap.size A2 (hv l2)
theorem St1.on {A2 : Option Addr} {l2 : List Hit} (h : St1 w W d g j Aa all A2 l2) (o : Below W.heap.size W W') : St1 w W' d g j Aa all A2 l2 := ⟨h.1.on o, (h.2.below o).more o.size⟩
theorem St1.drew {A2 : Option Addr} {l2 : List Hit} (h : St1 w W d g j Aa all A2 l2) : St1 w W.drew d g j Aa all A2 l2 := h.on ((Below.refl _ _).drew)
theorem St1.drewN {A2 : Option Addr} {l2 : List Hit} (h : St1 w W d g j Aa all A2 l2) (n : Nat) : St1 w (W.drewN n) d g j Aa all A2 l2 := h.on (below_drewN' (Below.refl _ _) n)
def St2 (w W : World) (d : Dat) (g : Nat) (j : Int) (Aa : Option Addr) (all : List Hit) (A2 A3 : Option Addr) (l2 : List Hit) : Prop := St1 w W d g j Aa all A2 l2 ∧ Sl W W.heap.size A3 (hv l2)
theorem St2.drew {A2 A3 : Option Addr} {l2 : List Hit} (h : St2 w W d g j Aa all A2 A3 l2) : St2 w W.drew d g j Aa all A2 A3 l2 := ⟨h.1.drew, h.2⟩
theorem St2.drewN {A2 A3 : Option Addr} {l2 : List Hit} (h : St2 w W d g j Aa all A2 A3 l2) (n : Nat) : St2 w (W.drewN n) d g j Aa all A2 A3 l2 := ⟨h.1.drewN n, h.2⟩
theorem St.fit (h : St w W d g j Aa all) (hy : Hyp w d) (hs : (∀ p ∈ d.l, Small p.2.x) ∧ Small d.q.x) (h0 : 0 ≤ j) (h1 : j + (d.l.length : Int) < 9223372036854775807) : Fit W w.heap.size (some ⟨g, 0, none⟩) d.n j d.A d.l d.q :=
  ⟨hy.its.below h.low, hy.qs.below h.low, fun _ => hs, h.mx, h.low.size, fun i e => Nat.le_of_lt (h.gd i e), h0, h1⟩
theorem St.fip (h : St w W d g j Aa all) (hy : Hyp w d) (hs : ∀ p ∈ d.l, Small p.2.x) (h0 : 0 ≤ j) (h1 : j ≤ 4611686018427387904) (hl : d.l.length ≤ 1048576) : Fip W w.heap.size (some ⟨g, 0, none⟩) d.n j d.A d.l :=
  ⟨hy.its.below h.low, fun _ => hs, h.mx, h.low.size, fun i e => Nat.le_of_lt (h.gd i e), h0, h1, hl⟩
/-- a scan's row, in the law's words -/
theorem St.scans (h : St w W d g j Aa all) {m : Int} {l2 : List Hit} {n2 : Nat} (hn : l2.length = n2) {e : Ending} {w' : World} (hr : RowX W (some ⟨g, 0, none⟩) d.n (j + cnt (some ⟨g, 0, none⟩) m) l2 e w') (hj : j' = j + m) : ∃ A2 c2, e = .returned (.slice A2 n2 c2) ∧ St1 w w' d g j' Aa all A2 l2 := by
  obtain ⟨A2, c2, he, _, hs, ho, hm⟩ := hr
  subst hj
  exact ⟨A2, c2, by rw [he, hn], h.asked ho hm, hs⟩
/-- a row of the document's beside it -/
theorem St1.own {A2 : Option Addr} {l2 : List Hit} {n2 : Nat} (hn : l2.length = n2) (h : St1 w W d g j Aa all A2 l2) {e : Ending} {w' : World} (hr : hit.Own l2 W e w') : ∃ A3 c3, e = .returned (.slice A3 n2 c3) ∧ St2 w w' d g j Aa all A2 A3 l2 := by
  obtain ⟨A3, c3, he, ho, hb⟩ := hr
  exact ⟨A3, c3, by rw [he, hn], h.on hb, Sl.of_ownK ho⟩
theorem St2.same {A2 A3 : Option Addr} {l2 : List Hit} {n2 : Nat} (hn : l2.length = n2) (h : St2 w W d g j Aa all A2 A3 l2) (c2 c3 : Nat) (hm : n2 ≤ 281474976710656) :
    Calls Try.prog 10 #[.slice A2 n2 c2, .slice A3 n2 c3] W fun e w' => e = .returned (.bool true) ∧ St w w' d g j Aa all := by
  have hs := hit.same_any A2 A3 l2 c2 c3 _ _ W (by omega) h.1.2 h.2
  rw [hn] at hs
  exact hs.mono fun e w' ⟨he, hb⟩ => ⟨he, h.1.1.on hb⟩
end
end Go.Proofs.Ytimkbadjcdnjjaa.scan
