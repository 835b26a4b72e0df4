/-
  The contract of bring.
-/
import Derived.Test.YthbohedkagjohaaPv
namespace Go.Proofs.Ythbohedkagjohaa.pv
open Go.RowKit law bytes only flat nums ord obj metric
set_option linter.unusedVariables false

/-- how far a thing is from a place's -/
def dt (n : Int) (l : List At) (c : Int) (x : At) : Int := match l[c.toNat]? with | some p => M n p.x x.x | none => 0
theorem dt_at (n : Int) {l : List At} {k : Nat} (hk : k < l.length) (x : At) : dt n l (k : Int) x = M n l[k].x x.x := by
  unfold dt
  rw [Int.toNat_natCast, List.getElem?_eq_getElem hk]
theorem dt_in (n : Int) {l : List At} {c : Int} {p : At} (h : l[c.toNat]? = some p) (x : At) : dt n l c x = M n p.x x.x := by
  unfold dt
  rw [h]
theorem dt_nonneg (n : Int) (l : List At) (c : Int) (x : At) : 0 ≤ dt n l c x := by
  unfold dt
  split
  · exact M_nonneg _ _ _
  · omega
theorem M_self (n : Int) (x : Thing) : M n x x = 0 := by
  refine cases4 (p := fun n => M n x x = 0) ?_ ?_ ?_ ?_ n
  · rw [M_1]; exact (dist.D_zero _ _).2 fun _ _ => rfl
  · rw [M_2]; have := (ham.D_zero x.str x.str).2 rfl; omega
  · rw [M_3]; have := (lev.L_zero (lev.bl x.str) (lev.bl x.str)).2 rfl; omega
  · intro n h1 h2 h3; exact M_0 h1 h2 h3 x x
theorem dt_self (n : Int) (l : List At) (k : Nat) (hk : k < l.length) : dt n l (k : Int) l[k] ≤ 0 := by
  rw [dt_at n hk, M_self]
  exact Int.le_refl _
/-- short things -/
def Brief (l : List At) : Prop := ∀ p ∈ l, dist.Bd p.x.vec ∧ p.x.vec.length ≤ 65536 ∧ p.x.str.size ≤ 65536
theorem Brief.small {l : List At} (h : Brief l) {p : At} (hp : p ∈ l) : Small p.x := by
  obtain ⟨h1, h2, h3⟩ := h p hp
  exact ⟨h1, by omega, by omega⟩
theorem Brief.dt_le {l : List At} (h : Brief l) (n c : Int) {x : At} (hx : x ∈ l) : dt n l c x ≤ 281474976710656 := by
  unfold dt
  split
  · rename_i p hp
    obtain ⟨h1, h2, h3⟩ := h p (List.mem_of_getElem? hp)
    obtain ⟨h4, h5, h6⟩ := h x hx
    exact M_le h1 h4 h2 h5 h3 h6
  · omega
set_option maxRecDepth 100000 in
set_option maxHeartbeats 3200000 in
theorem bring_any (w : World) (T : Nat → Prop) (g b base cb p : Nat) (n k : Int) (A : Option Addr) (c : Nat) (l : List At) (r : List Int) (hp : p < l.length) (hT : Ts w T A l) (hTg : T g) (hTb : T b) (hgb : g ≠ b) (hs : ∀ x ∈ l, Small x.x)
    (hm : Mt w g n k) (hk : 0 ≤ k ∧ k + (l.length : Int) < 9223372036854775807) (hr : Rw w base b cb r) (hl : r.length = l.length) :
    Calls Try.prog 18 #[.pointer (some ⟨g, 0, none⟩), .slice A l.length c, .int .i64 p, .slice (some ⟨b, 0, none⟩) l.length cb] w fun e w' =>
      e = .returned (.tuple #[]) ∧ Only (fun i => i = g ∨ i = b) w w' ∧ Mt w' g n (k + l.length) ∧ Rw w' base b cb (brk (dt n l) p l r l.length) := by
  have HT := Lib.hid hT
  have HS := Lib.hid hs
  have HM := Lib.hid hm
  have HR := Lib.hid hr
  have HK := Lib.hid hk
  have HL := Lib.hid hl
  have HG : Hid (T g ∧ T b ∧ g ≠ b) := Lib.hid ⟨hTg, hTb, hgb⟩
  clear hT hs hm hr hk hl hTg hTb hgb
  have hl63 : (l.length : Int) < 9223372036854775807 := by have := HK.out; omega
  go_enter Try.func18, Try.ntmps18
  go_wp2_with (fail)
  go_loopg [12] l.length (fun gk s12 wr => ∃ i : Nat, gk = l.length - i ∧ i ≤ l.length ∧ s12 = .int .i64 i ∧ Only (fun j => j = g ∨ j = b) w wr ∧ Mt wr g n (k + i) ∧ Rw wr base b cb (brk (dt n l) p l r i))
  case atStart => exact ⟨0, rfl, Nat.zero_le _, rfl, Only.refl _ _, by simpa using HM.out, by rw [brk_zero]; exact HR.out⟩
  case round =>
    obtain ⟨i, rfl, hi, rfl, ho, hmt, hrw⟩ := hrel
    by_cases hlt : i < l.length
    · have hT1 : Ts wr T A l := HT.out.only (ho.mono fun j e => .inl (e.elim (fun h => h ▸ HG.out.1) (fun h => h ▸ HG.out.2.1)))
      obtain ⟨bb, oo, rfl, hbb, hnT, hcells⟩ := hT1.place (by omega)
      obtain ⟨d0, d1, d2⟩ := hcells i hlt
      obtain ⟨e0, e1, e2⟩ := hcells p hp
      have s1 := (hT1.vec _ (List.getElem_mem hlt)).sl
      have s2 := (hT1.vec _ (List.getElem_mem hp)).sl
      have z1 := HS.out _ (List.getElem_mem hlt)
      have z2 := HS.out _ (List.getElem_mem hp)
      have hil : i < r.length := by have := HL.out; omega
      have hbs := brk_set (d := dt n l) (c := p) HL.out hil
      rw [dt_at n hp] at hbs
      have hba := brk_at (d := dt n l) (c := p) HL.out hil
      have hbl := brk_length (d := dt n l) (c := p) (k := i) HL.out
      obtain ⟨L, hL⟩ : ∃ L, brk (dt n l) p l r i = L := ⟨_, rfl⟩
      obtain ⟨L2, hL2⟩ : ∃ L2, brk (dt n l) p l r (i + 1) = L2 := ⟨_, rfl⟩
      rw [hL, hL2] at hbs
      rw [hL] at hba hbl hrw
      have HL2 := Lib.hid hL2
      clear hL hL2
      generalize r[i] = a at hba hbs
      generalize l[i] = x at d0 d1 d2 s1 z1 hbs
      generalize l[p] = y at e0 e1 e2 s2 z2 hbs
      have hiL : i < L.length := by omega
      have hLi : L[i] = a := by
        have := List.getElem?_eq_getElem hiL
        rw [hba] at this
        injection this with this
        exact this.symm
      have hg := hmt.lt
      have hbw := hrw.lt
      have i1 : (i : Int) < (l.length : Int) := by omega
      have i2 : (p : Int) < (l.length : Int) := by omega
      obtain ⟨V, hV⟩ : ∃ V, V = wr.alloc (.cells #[.int .i64 x.x.tag, .slice x.a x.x.vec.length x.c, .string x.x.str] 38) := ⟨_, rfl⟩
      have hbV : Below wr.heap.size wr V := by rw [hV]; exact (Below.refl _ _).alloc (Nat.le_refl _) _
      have hkx : Blk V wr.heap.size 38 #[.int .i64 x.x.tag, .slice x.a x.x.vec.length x.c, .string x.x.str] := by rw [hV]; exact Blk.new wr _ _
      have hz : V.heap.size = wr.heap.size + 1 := by rw [hV]; simp
      obtain ⟨q0, q1, q2, qf⟩ := cells3 hkx
      have e0 : V.cell? ⟨bb, oo + p * 3, none⟩ = some (.int .i64 y.x.tag) := (hbV.cell (p := ⟨bb, oo + p * 3, none⟩) hbb).trans e0
      have e1 : V.cell? ⟨bb, oo + p * 3 + 1, none⟩ = some (.slice y.a y.x.vec.length y.c) := (hbV.cell (p := ⟨bb, oo + p * 3 + 1, none⟩) hbb).trans e1
      have e2 : V.cell? ⟨bb, oo + p * 3 + 2, none⟩ = some (.string y.x.str) := (hbV.cell (p := ⟨bb, oo + p * 3 + 2, none⟩) hbb).trans e2
      have hrV : Rw V base b cb L := hrw.on hbV
      have r0 : V.cell? ⟨b, i, none⟩ = some (.int .i64 a) := by rw [hrV.cell hiL, hLi]
      have rf : V.frozen? ⟨b, i, none⟩ = false := hrV.frozen i
      have HD : Hid (∀ W, Below V.heap.size V W → Calls Try.prog 24 #[.pointer (some ⟨g, 0, none⟩), .agg #[.int .i64 y.x.tag, .slice y.a y.x.vec.length y.c, .string y.x.str], .agg #[.int .i64 x.x.tag, .slice x.a x.x.vec.length x.c, .string x.x.str]] W fun e w2 => e = .returned (.int .i64 (M n y.x x.x)) ∧ w2.cell? ⟨b, i, none⟩ = some (.int .i64 a) ∧ w2.frozen? ⟨b, i, none⟩ = false ∧
          Hid (Only (fun j => j = g ∨ j = b) w (w2.setCell ⟨b, i, none⟩ (.int .i64 (min a (M n y.x x.x)))) ∧ Mt (w2.setCell ⟨b, i, none⟩ (.int .i64 (min a (M n y.x x.x)))) g n (k + (i + 1 : Nat)) ∧ Rw (w2.setCell ⟨b, i, none⟩ (.int .i64 (min a (M n y.x x.x)))) base b cb L2)) := Lib.hid fun W hW => by
        have hbW : Below wr.heap.size wr W := hbV.trans (hW.mono (by omega))
        have hkb := HK.out
        refine (cdist_any y.a x.a y.c x.c y.x x.x z2 z1 W ((s2.below hbW).more hbW.size) ((s1.below hbW).more hbW.size) (hmt.below hbW hg) (by omega)).mono fun e w2 ⟨he, hgr, hm2⟩ => ?_
        have hr2 : Rw w2 base b cb L := (hrw.on hbW).only (S := fun j => j = g) (Only.of_grown hgr fun j e => .inl (by injection e with e; exact e.symm)) (fun e => HG.out.2.2 e.symm)
        have ho2 : Only (fun j => j = g ∨ j = b) w w2 := (ho.on hbW).trans (Only.of_grown hgr (S := fun j => j = g) fun j e => .inl (by injection e with e; exact e.symm)) fun j e => .inl (.inl e)
        refine ⟨he, by rw [hr2.cell hiL, hLi], hr2.frozen i, Lib.hid ⟨ho2.setCell (p := ⟨b, i, none⟩) (.inl (.inr rfl)) _, ?_, ?_⟩⟩
        · have e : k + (i : Int) + 1 = k + ((i + 1 : Nat) : Int) := by push_cast; omega
          rw [e] at hm2
          exact Blk.far hm2 (p := ⟨b, i, none⟩) HG.out.2.2 _
        · rw [← hbs]
          exact hr2.set i _
      have HV := Lib.hid hV
      clear hcells hT1 s1 s2 z1 z2 hbs hba hbl hrw hmt ho hiL hLi hbV hkx hz hrV
      generalize M n y.x x.x = d at HD
      go_wp2_with (fail)
      rw [← hV]
      clear hV
      go_region_law (first | (go_simp; go_at_call 24; (with_reducible refine (HD.out _ (by repeat' (first | (with_reducible exact Below.refl _ _) | (with_reducible assumption) | (with_reducible refine Below.drew ?_) | (with_reducible refine below_drewN' ?_ _)))).mono ?_); rintro e w2 ⟨rfl, x0, xf, xE⟩))
      all_goals
        go_wp2_with (fail)
        go_roundg (l.length - (i + 1))
        case measure => omega
        case rel => exact ⟨i + 1, rfl, by omega, by go_num, xE.out.1, xE.out.2.1, by rw [HL2.out]; exact xE.out.2.2⟩
    · obtain rfl : i = l.length := by omega
      have i1 : ¬ (l.length : Int) < (l.length : Int) := by omega
      have HE := Lib.hid (And.intro ho (And.intro hmt hrw))
      clear ho hmt hrw
      go_wp2_with (fail)
      go_end0
      exact ⟨rfl, HE.out.1, HE.out.2.1, HE.out.2.2⟩
end Go.Proofs.Ythbohedkagjohaa.pv
