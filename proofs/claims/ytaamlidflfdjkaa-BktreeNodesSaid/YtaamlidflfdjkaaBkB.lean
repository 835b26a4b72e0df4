/-
  The contract of add: a node as it is.
-/
import Derived.Test.YtaamlidflfdjkaaBkS
import Derived.Test.YtaamlidflfdjkaaGLib
import Derived.Deep.RegionLaw
import Derived.Deep.CutRange
import Derived.Deep.CutBlock
import Derived.Deep.DeepCutAuto
namespace Go.Proofs.Ytaamlidflfdjkaa.bk
open Go.RowKit Go.WideShapes law bytes only flat nums ord obj metric tab
open told (own_types blk_types)
open Go.Maps Go.ChangeAt
set_option linter.unusedVariables false
set_option maxRecDepth 100000

theorem nodeK : ElemK Try.prog 82 8 104 := elemK_mk (z := .agg #[.int .u64 0, .int .i64 0, .slice none 0 0, .string ⟨#[]⟩, .bool false, .int .i64 0, .int .i64 0, .slice none 0 0]) (by kernel_rfl) rfl
theorem intK : ElemK Try.prog 3 1 8 := elemK_mk (z := .int .i64 0) (by kernel_rfl) rfl
/-- what add leaves -/
def Added (w : World) (base tb g : Nat) (n k : Int) (T : Nat → Prop) (L : List Bn) (b : Bn) (e : Ending) (w' : World) : Prop :=
  e = .returned (.tuple #[]) ∧ ∃ T' N', Bx w' base tb g n k T' N' ∧ N'.map bn = L ++ [b] ∧ Only T w w' ∧ (∀ i, T' i → T i ∨ w.heap.size ≤ i) ∧ Kv w w'
def bkC (id : Int) (x : At) (gone : Bool) (par edge : Int) : Array Value := #[.int .u64 id, .int .i64 x.x.tag, .slice x.a x.x.vec.length x.c, .string x.x.str, .bool gone, .int .i64 par, .int .i64 edge]
/-- what stands while add goes on -/
def AdS (w : World) (base tb g hb pb mh mp : Nat) (n k : Int) (T : Nat → Prop) (N : List Nd) (DH DP : DataW Unit) (id : Int) (x : At) (gone : Bool) (par edge : Int) (W : World) : Prop :=
  (∃ T1 vN, Bm W base tb g hb pb mh mp n k T1 vN N DH DP ∧ ∀ i, T1 i → T i ∨ w.heap.size ≤ i) ∧ Only T w W ∧ Blk W w.heap.size 67 (bkC id x gone par edge) ∧ Kv w W
section
variable {w w' w1 W W' : World} {base tb g hb pb mh mp B : Nat} {n k : Int} {T S : Nat → Prop} {vN v4 : Value} {N : List Nd} {DH DP D1 : DataW Unit} {d : Nd} {t t' : TypeId} {A : Option Addr} {xs : List Value} {id : Int} {x : At} {gone : Bool} {par edge : Int}
theorem AdS.cells (h : AdS w base tb g hb pb mh mp n k T N DH DP id x gone par edge W) : (∃ A c, W.cell? ⟨tb, 1, none⟩ = some (.slice A N.length c)) ∧ W.cell? ⟨tb, 2, none⟩ = some (.map (some hb)) ∧ W.cell? ⟨tb, 3, none⟩ = some (.map (some pb)) ∧
    W.cell? ⟨w.heap.size, 0, none⟩ = some (.int .u64 id) ∧ W.cell? ⟨w.heap.size, 4, none⟩ = some (.bool gone) ∧ W.cell? ⟨w.heap.size, 5, none⟩ = some (.int .i64 par) ∧ W.cell? ⟨w.heap.size, 6, none⟩ = some (.int .i64 edge) := by
  obtain ⟨⟨T1, vN, h1, -⟩, -, h3, -⟩ := h
  obtain ⟨A, c, rfl, -⟩ := own_slice h1.row
  obtain ⟨t0, t1, t2, t3, -⟩ := h1.cells
  exact ⟨⟨A, c, t1⟩, t2, t3, h3.cell 0, h3.cell 4, h3.cell 5, h3.cell 6⟩
theorem AdS.below (h : AdS w base tb g hb pb mh mp n k T N DH DP id x gone par edge W) (o : Below W.heap.size W W') : AdS w base tb g hb pb mh mp n k T N DH DP id x gone par edge W' := by
  obtain ⟨⟨T1, vN, h1, h2⟩, h3, h4, h5⟩ := h
  exact ⟨⟨T1, vN, h1.below o, h2⟩, h3.on o, h4.below o h4.lt, h5.trans (Kv.below o)⟩
theorem AdS.drewN (h : AdS w base tb g hb pb mh mp n k T N DH DP id x gone par edge W) (m : Nat) : AdS w base tb g hb pb mh mp n k T N DH DP id x gone par edge (W.drewN m) := h.below (below_drewN' (Below.refl _ _) m)
theorem AdS.lt (h : AdS w base tb g hb pb mh mp n k T N DH DP id x gone par edge W) : base ≤ W.heap.size ∧ tb < W.heap.size ∧ w.heap.size < W.heap.size := by
  obtain ⟨⟨T1, vN, h1, h2⟩, h3, h4, -⟩ := h
  exact ⟨h1.base_le, (h1.low _ h1.tt).2, h4.lt⟩
/-- the hooks' map is turned -/
theorem AdS.hung (h : AdS w base tb g hb pb mh mp n k T N DH DP id x gone par edge W) (hT : T hb) (hmh : mh < 9007199254740991) (h1 : I64 par) (h2 : I64 edge) (h3 : N.length ≤ 1048577) (q : Nat) (hq : q ≤ 1048577) :
    ∃ w1, (Instr.mapUpdate 68 (.map (some hb)) (.agg #[.int .i64 par, .int .i64 edge]) (.int .i64 (q : Int))).run Try.prog W.drew = .ok () w1 ∧ AdS w base tb g hb pb (mh + 1) mp n k T N (DH.put (hkey par edge) (.lit (.int .i64 (q : Int)))) DP id x gone par edge w1 ∧ W.heap.size ≤ w1.heap.size ∧ Only (· = hb) W w1 := by
  obtain ⟨⟨T1, vN, hm, hT1⟩, ho, hk, hkv⟩ := h
  obtain ⟨w1, hrun, hown1, hg1⟩ := (World.ownsMap.drew hm.hm).update (t := 68) (e := 3) hookLaw Try.underlying68 (by unfold maxLen; omega) (hook_keyOf h1 h2) (plainElem_int Try.underlying3 (wf64 (z := (q : Int)) ⟨by omega, by omega⟩))
  have hO1 : Only (· = hb) W w1 := (Only.refl _ W).drew.trans (Only.of_grown hg1 (S := (· = hb)) fun j e => .inl (by injection e with e; exact e.symm)) fun j e => .inl e
  refine ⟨w1, hrun, ⟨⟨T1, vN, hm.hung hO1 hown1, hT1⟩, ho.trans hO1 fun i e => .inl (by rw [e]; exact hT), Blk.only hk hO1 fun e => ?_, hkv.trans (Kv.of hO1 fun i e hy => Ty.map hm.hm (e ▸ hy))⟩, hO1.size, hO1⟩
  have h5 := hm.hm
  rw [← e] at h5
  exact Ty.map h5 (Ty.blk hk)
/-- the places' map is turned -/
theorem AdS.placed (h : AdS w base tb g hb pb mh mp n k T N DH DP id x gone par edge W) (hT : T pb) (hmp : mp < 9007199254740991) (hwf : (Lit.int .u64 id).wf = true) (q : Nat) (hq : q ≤ 1048577) :
    ∃ w1, (Instr.mapUpdate 69 (.map (some pb)) (.int .u64 id) (.int .i64 (q : Int))).run Try.prog W.drew = .ok () w1 ∧ AdS w base tb g hb pb mh (mp + 1) n k T N DH (DP.put (ky id) (.lit (.int .i64 (q : Int)))) id x gone par edge w1 ∧ W.heap.size ≤ w1.heap.size ∧ Only (· = pb) W w1 := by
  obtain ⟨⟨T1, vN, hm, hT1⟩, ho, hk, hkv⟩ := h
  obtain ⟨w1, hrun, hown1, hg1⟩ := (World.ownsMap.drew hm.pm).update (t := 69) (e := 3) idx.mlaw Try.underlying69 (by unfold maxLen; omega) (keyOf_int_mk Try.underlying33 hwf) (plainElem_int Try.underlying3 (wf64 (z := (q : Int)) ⟨by omega, by omega⟩))
  have hO1 : Only (· = pb) W w1 := (Only.refl _ W).drew.trans (Only.of_grown hg1 (S := (· = pb)) fun j e => .inl (by injection e with e; exact e.symm)) fun j e => .inl e
  refine ⟨w1, hrun, ⟨⟨T1, vN, hm.placed hO1 hown1, hT1⟩, ho.trans hO1 fun i e => .inl (by rw [e]; exact hT), Blk.only hk hO1 fun e => ?_, hkv.trans (Kv.of hO1 fun i e hy => Ty.map hm.pm (e ▸ hy))⟩, hO1.size, hO1⟩
  have h5 := hm.pm
  rw [← e] at h5
  exact Ty.map h5 (Ty.blk hk)
theorem AdS.pkeep (h : AdS w base tb g hb pb mh mp n k T N DH DP id x gone par edge W) (o : Only (· = pb) W W') : W'.cell? ⟨tb, 3, none⟩ = some (.map (some pb)) ∧ W'.cell? ⟨w.heap.size, 0, none⟩ = some (.int .u64 id) := by
  obtain ⟨⟨T1, v1, hB, hT1⟩, hO, hk, -⟩ := h
  have b1 := Blk.only hB.blk o fun e => Ty.map hB.pm (by rw [← e]; exact Ty.blk hB.blk)
  have b2 := Blk.only hk o fun e => Ty.map hB.pm (by rw [← e]; exact Ty.blk hk)
  exact ⟨b1.cell 3, b2.cell 0⟩
/-- what the maps and kids tell behind a node more -/
theorem Lg.put {N2 : List Nd} (h : Lg n N DH DP) (b : Bn) (hseek : (b.par, b.edge) = seek n (N.map bn) b.x) (hlive : b.gone = false → lv (N.map bn) b.id = none) (hx : Small b.x) (hs : ∀ c ∈ N.map bn, Small c.x) (hN : N.length < 1048576) (hN2 : N2.map bn = N.map bn ++ [b]) (hk : ∀ i d, N2[i]? = some d → d.ks = kds (N.map bn ++ [b]) i) :
    Lg n N2 (DH.put (hkey b.par b.edge) (.lit (.int .i64 (N.length : Int)))) (if b.gone then DP else DP.put (ky b.id) (.lit (.int .i64 (N.length : Int)))) := by
  have hw := h.tree.seek_way b.x
  have hf := h.tree.free b.x
  rw [← hseek] at hw hf
  have hp := hw.par_bd
  have he := hw.edge_bd hx hs
  have hl : (N.map bn).length = N.length := List.length_map _
  have h1 := h.hk.put b ⟨by omega, by omega⟩ ⟨by omega, by omega⟩ hf
  have h2 := h.tree.put b hseek
  have h3 := h.ul.put b hlive
  rw [hl] at h1
  refine ⟨by rw [hN2]; exact h1, ?_, by rw [hN2]; exact h2, by rw [hN2]; exact h3, fun i d hd => by rw [hN2]; exact hk i d hd⟩
  · rw [hN2]
    cases hg : b.gone with
    | true => exact h.pm.gone b hg
    | false =>
      have h4 := h.pm.put b hg (hlive hg)
      rw [hl] at h4
      exact h4
theorem kids_none {d0 : Nd} (h : Lg n N DH DP) (hd : d0.ks = []) (hp : d0.par < 0) : ∀ i d, (N ++ [d0])[i]? = some d → d.ks = kds (N.map bn ++ [bn d0]) i := fun i d hi => by
  rw [List.getElem?_append] at hi
  split at hi
  · rw [kds_snoc, if_neg (by show ¬ d0.par = _; omega), List.append_nil]
    exact h.kids i d hi
  · rename_i hl
    have := (List.getElem?_eq_some_iff.1 hi).1
    simp at this
    obtain rfl : i = N.length := by omega
    simp at hi
    subst hi
    rw [hd]
    have := h.tree.kds_new (bn d0) (by show d0.par ≤ _; omega)
    rw [List.length_map] at this
    exact this.symm
theorem kids_more {d0 d1 : Nd} {p : Nat} (h : Lg n N DH DP) (hd : d0.ks = []) (hp : d0.par = p) (hpl : p < N.length) (hd1 : d1.ks = kds (N.map bn) p ++ [N.length]) : ∀ i d, ((N ++ [d0]).set p d1)[i]? = some d → d.ks = kds (N.map bn ++ [bn d0]) i := fun i d hi => by
  rw [List.getElem?_set] at hi
  split at hi
  · rename_i e
    subst e
    simp at hi
    obtain ⟨-, rfl⟩ := hi
    rw [kds_snoc, if_pos (by show d0.par = _; exact hp), hd1, List.length_map]
  · rename_i hne
    rw [List.getElem?_append] at hi
    split at hi
    · rw [kds_snoc, if_neg (by show ¬ d0.par = _; omega), List.append_nil]
      exact h.kids i d hi
    · have := (List.getElem?_eq_some_iff.1 hi).1
      simp at this
      obtain rfl : i = N.length := by omega
      simp at hi
      subst hi
      rw [hd]
      have := h.tree.kds_new (bn d0) (by show d0.par ≤ _; rw [hp, List.length_map]; omega)
      rw [List.length_map] at this
      exact this.symm
set_option maxHeartbeats 1600000 in
theorem AdS.kid {p : Nat} {dp : Nd} (h : AdS w base tb g hb pb mh mp n k T N DH DP id x gone par edge W) (hp : N[p]? = some dp) :
    ∃ rb c, W.cell? ⟨tb, 1, none⟩ = some (.slice (some ⟨rb, 0, none⟩) N.length c) ∧ W.cell? ⟨rb, p * 8 + 7, none⟩ = some dp.v ∧ rb < W.heap.size ∧ W.ownsRow base 3 1 dp.v dp.ks.length (kv dp.ks) ∧
      ∀ (m j : Nat) (w4 : World) (v4 : Value), ((W.drewN m).alloc (.cells #[.int .i64 (j : Int)] 3)).grownBy w4 dp.v.ownBlock → (v4.ownBlock = dp.v.ownBlock ∨ v4.ownBlock = some (W.heap.size + 1)) → w4.ownsRow base 3 1 v4 (dp.ks.length + 1) (kv dp.ks ++ [.int .i64 (j : Int)]) →
        w4.cell? ⟨rb, p * 8 + 7, none⟩ = some dp.v ∧ w4.frozen? ⟨rb, p * 8 + 7, none⟩ = false ∧ AdS w base tb g hb pb mh mp n k T (N.set p { dp with ks := dp.ks ++ [j], v := v4 }) DH DP id x gone par edge (w4.setCell ⟨rb, p * 8 + 7, none⟩ v4) := by
  obtain ⟨⟨T1, vN, hm, hT1⟩, ho, hk, hkv⟩ := h
  obtain ⟨hpl, hpd⟩ := List.getElem?_eq_some_iff.1 hp
  obtain ⟨rb, c, rfl, hTb, hrl, hrg, hrt, hfz, hcell⟩ := hm.place (by omega)
  have hc7 : W.cell? ⟨rb, p * 8 + 7, none⟩ = some dp.v := by rw [hcell p hpl 7 (by omega), hpd]; rfl
  have hd := hm.nx dp (List.mem_of_getElem? hp)
  refine ⟨rb, c, hm.cells.2.1, hc7, hrl, hd.ints, fun m j w4 v4 hg hv4 hrow => ?_⟩
  have hO : Only (fun i => dp.v.ownBlock = some i) W w4 := (((Only.refl _ W).drewN m).alloc _).trans (Only.of_grown hg fun j e => .inl e) fun j e => .inl e
  obtain ⟨h1, h2, h2v⟩ := hm.kid (j := j) hp hO hrow (hv4.imp (fun e => e) fun e => ⟨_, e, by omega⟩)
  have c1 : Cl W (fun i => dp.v.ownBlock = some i) 3 := Cl.row hd.ints
  have hnr : ¬ dp.v.ownBlock = some rb := c1.off (by decide) (Ty.own hm.row (g := rb) rfl)
  have hk4 := Blk.only hk hO (c1.off (by decide) (Ty.blk hk))
  have hrw4 := own_only hm.row hO fun i e => c1.off (by decide) (Ty.own hm.row e)
  have hsz := ho.size
  refine ⟨(World.cell?_of_block (a := ⟨rb, p * 8 + 7, none⟩) (hO.block rb hrl hnr)).trans hc7, World.ownsRow.frozenAt hrw4 _, ⟨_, _, h1, fun i e => ?_⟩, ho.trans h2 hT1, ?_, hkv.trans h2v⟩
  · rcases e with e | e
    · exact hT1 i e
    · exact .inr (by omega)
  · refine Blk.far hk4 (p := ⟨rb, p * 8 + 7, none⟩) (fun e => ?_) _
    have e2 : w.heap.size = rb := e
    rw [← e2] at hm
    exact absurd ((Ty.own hm.row (g := w.heap.size) rfl).one (Ty.blk hk)) (by decide)
set_option maxHeartbeats 3200000 in
theorem add_any (h : Bx w base tb g n k T N) (id : Int) (x : At) (gone : Bool) (par edge : Int) (hvec : Vc w T x.a (iv x.x.vec)) (hbf : Bf x.x) (hwf : (Lit.int .u64 id).wf = true) (hseek : (par, edge) = seek n (N.map bn) x.x) (hlive : gone = false → lv (N.map bn) id = none) (hN : N.length < 1048576) :
    Calls Try.prog 42 #[.pointer (some ⟨tb, 0, none⟩), .agg #[.int .u64 id, .int .i64 x.x.tag, .slice x.a x.x.vec.length x.c, .string x.x.str, .bool gone, .int .i64 par, .int .i64 edge]] w (Added w base tb g n k T (N.map bn) ⟨id, x.x, gone, par, edge⟩) := by
  have hsm : ∀ c ∈ N.map bn, Small c.x := fun c hc => (h.bf c hc).small
  obtain ⟨hb, pb, mh, mp, vN, DH, DP, hm, hl, hmh, hmp⟩ := h
  obtain ⟨V, hV⟩ : ∃ V, V = w.alloc (.cells #[.int .u64 id, .int .i64 x.x.tag, .slice x.a x.x.vec.length x.c, .string x.x.str, .bool gone, .int .i64 par, .int .i64 edge] 67) := ⟨_, rfl⟩
  have hbV : Below w.heap.size w V := by rw [hV]; exact (Below.refl _ _).alloc (Nat.le_refl _) _
  have hmV := hm.below hbV
  have hkx : Blk V w.heap.size 67 (bkC id x gone par edge) := by rw [hV]; exact Blk.new w _ _
  have hzV : V.heap.size = w.heap.size + 1 := by rw [hV]; simp
  have hvV : Vc V T x.a (iv x.x.vec) := hvec.only (S := fun _ => False) (Only.of_below hbV (Nat.le_refl _) _) fun _ _ _ e => e
  obtain ⟨AN, cN, rfl, hcN⟩ := own_slice hm.row
  obtain ⟨t0, t1, t2, t3, tf⟩ := hmV.cells
  obtain ⟨c0, c1, c2, c3, c4, c5, c6⟩ : V.cell? ⟨w.heap.size, 0, none⟩ = some (.int .u64 id) ∧ V.cell? ⟨w.heap.size, 1, none⟩ = some (.int .i64 x.x.tag) ∧ V.cell? ⟨w.heap.size, 2, none⟩ = some (.slice x.a x.x.vec.length x.c) ∧ V.cell? ⟨w.heap.size, 3, none⟩ = some (.string x.x.str) ∧ V.cell? ⟨w.heap.size, 4, none⟩ = some (.bool gone) ∧ V.cell? ⟨w.heap.size, 5, none⟩ = some (.int .i64 par) ∧ V.cell? ⟨w.heap.size, 6, none⟩ = some (.int .i64 edge) :=
    ⟨hkx.cell 0, hkx.cell 1, hkx.cell 2, hkx.cell 3, hkx.cell 4, hkx.cell 5, hkx.cell 6⟩
  obtain ⟨d0, hd0⟩ : ∃ d0 : Nd, d0 = ⟨id, x, gone, par, edge, [], .slice none 0 0⟩ := ⟨_, rfl⟩
  have hdC : ndC d0 = [.int .u64 id, .int .i64 x.x.tag, .slice x.a x.x.vec.length x.c, .string x.x.str, .bool gone, .int .i64 par, .int .i64 edge, .slice none 0 0] := by rw [hd0]; rfl
  -- behind the append and its store
  have HF : Hid (∀ w4 v4, ((V.drew.alloc (.cells #[.int .u64 id, .int .i64 x.x.tag, .slice x.a x.x.vec.length x.c, .string x.x.str, .bool gone, .int .i64 par, .int .i64 edge, .slice none 0 0] 82))).grownBy w4 (Value.slice AN N.length cN).ownBlock → (v4.ownBlock = (Value.slice AN N.length cN).ownBlock ∨ v4.ownBlock = some (V.heap.size + 1)) →
      w4.ownsRow base 82 8 v4 (N.length + 1) (N.flatMap ndC ++ [.int .u64 id, .int .i64 x.x.tag, .slice x.a x.x.vec.length x.c, .string x.x.str, .bool gone, .int .i64 par, .int .i64 edge, .slice none 0 0]) →
      (∃ cx, w4.cell? ⟨tb, 1, none⟩ = some cx) ∧ w4.frozen? ⟨tb, 1, none⟩ = false ∧ w4.cell? ⟨tb, 1, none⟩ = some (.slice AN N.length cN) ∧ AdS w base tb g hb pb mh mp n k T (N ++ [d0]) DH DP id x gone par edge (w4.setCell ⟨tb, 1, none⟩ v4)) := Lib.hid fun w4 v4 hg hv4 hrow => by
    have hO : Only (fun i => (Value.slice AN N.length cN).ownBlock = some i) V w4 := ((Only.refl _ V).drew.alloc _).trans (Only.of_grown hg fun j e => .inl e) fun j e => .inl e
    rw [← hdC] at hrow
    have hz4 := hO.size
    obtain ⟨h1, h2, h2v⟩ := hmV.push (d := d0) hO hrow (hv4.imp (fun e => e) fun e => ⟨_, e, by omega⟩) (by rw [hd0]) (by rw [hd0]) (by rw [hd0]; exact hvV) (by rw [hd0]; exact hbf) (by rw [hd0]; exact hwf)
    have c1 : Cl V (fun i => (Value.slice AN N.length cN).ownBlock = some i) 82 := Cl.row hmV.row
    have b4 := Blk.only hmV.blk hO (c1.off (by decide) (Ty.blk hmV.blk))
    have k4 := Blk.only hkx hO (c1.off (by decide) (Ty.blk hkx))
    refine ⟨⟨_, b4.cell 1⟩, b4.frozen 1, b4.cell 1, ⟨_, v4, h1, fun i e => e.imp (fun e => e) fun e => by omega⟩, (Only.of_below hbV (Nat.le_refl _) _).trans h2 fun i e => .inl e, ?_, (Kv.below hbV).trans h2v⟩
    exact Blk.far k4 (p := ⟨tb, 1, none⟩) (by have := (hm.low _ hm.tt).2; simp; omega) _
  have hmV0 := hmV.row
  have hsl := Sl.lit V.drew [.int .u64 id, .int .i64 x.x.tag, .slice x.a x.x.vec.length x.c, .string x.x.str, .bool gone, .int .i64 par, .int .i64 edge, .slice none 0 0] 82
  have HSL := Lib.hid hsl
  have HV := Lib.hid hV
  have hb1 : base ≤ V.heap.size := hmV.base_le
  have HROW := Lib.hid hmV0
  have htl : tb < V.heap.size := (hmV.low _ hmV.tt).2
  have HN := Lib.hid hN
  have HTT := Lib.hid (And.intro hm.th (And.intro hm.tp (And.intro hmh hmp)))
  -- the end
  have hbp := (hl.tree.seek_way x.x).par_bd
  rw [← hseek, List.length_map] at hbp
  have hbe := (hl.tree.seek_way x.x).edge_bd hbf.small hsm
  rw [← hseek] at hbe
  have HFIN : Hid (∀ (W : World) (N2 : List Nd), N2.length = N.length + 1 → N2.map bn = N.map bn ++ [bn d0] → (∀ i d, N2[i]? = some d → d.ks = kds (N.map bn ++ [bn d0]) i) → ∀ m2, m2 ≤ N.length + 1 → AdS w base tb g hb pb (mh + 1) m2 n k T N2 (DH.put (hkey par edge) (.lit (.int .i64 (N.length : Int)))) (if gone then DP else DP.put (ky id) (.lit (.int .i64 (N.length : Int)))) id x gone par edge W →
      Added w base tb g n k T (N.map bn) ⟨id, x.x, gone, par, edge⟩ (.returned (.tuple #[])) W) := Lib.hid fun W N2 hN2l hN2 hk2 m2 hm2 hA => by
    obtain ⟨⟨T1, v1, hB, hT1⟩, hO, -, hkv⟩ := hA
    have e0 : bn d0 = ⟨id, x.x, gone, par, edge⟩ := by rw [hd0]; rfl
    rw [e0] at hN2 hk2
    have hlg := hl.put (N2 := N2) ⟨id, x.x, gone, par, edge⟩ hseek hlive hbf.small hsm hN hN2 hk2
    exact ⟨rfl, T1, N2, ⟨hb, pb, _, m2, v1, _, _, hB, hlg, by omega, by omega⟩, hN2, hO, hT1, hkv⟩
  have HLG := Lib.hid hl
  have HD0 := Lib.hid hd0
  clear hm hl hmh hmp hbV hmV hkx hzV hvV hvec hbf hseek hlive hV tf t0 t2 t3 hcN hmV0 hsl hdC hsm hd0 hN
  have t1a : (V.alloc (.cells #[.int .u64 id, .int .i64 x.x.tag, .slice x.a x.x.vec.length x.c, .string x.x.str, .bool gone, .int .i64 par, .int .i64 edge, .slice none 0 0] 82)).cell? ⟨tb, 1, none⟩ = some (.slice AN N.length cN) := (World.cell?_alloc_lt V _ ⟨tb, 1, none⟩ htl).trans t1
  have t1b : (V.drew.alloc (.cells #[.int .u64 id, .int .i64 x.x.tag, .slice x.a x.x.vec.length x.c, .string x.x.str, .bool gone, .int .i64 par, .int .i64 edge, .slice none 0 0] 82)).cell? ⟨tb, 1, none⟩ = some (.slice AN N.length cN) := (World.cell?_alloc_lt V.drew _ ⟨tb, 1, none⟩ htl).trans t1
  go_enter Try.func42, Try.ntmps42
  have t1' := t1
  rw [HV.out] at t1'
  go_upto_region 2 with (fail)
  go_cut [4] from 11 to 21 (fun s4 wc => s4 = .int .i64 (N.length : Int) ∧ AdS w base tb g hb pb mh mp n k T (N ++ [d0]) DH DP id x gone par edge wc)
  case first =>
    rw [← HV.out]
    clear t1'
    go_region_law (refine step_append_slk _ (by rfl) _ _ _ (by rfl) base 82 8 104 Try.underlying70 nodeK (by omega) (.slice AN N.length cN) N.length (N.flatMap ndC) (by rfl) (World.ownsRow.alloc (w := V.drew) HROW.out _) _ _ 1 1 [.int .u64 id, .int .i64 x.x.tag, .slice x.a x.x.vec.length x.c, .string x.x.str, .bool gone, .int .i64 par, .int .i64 edge, .slice none 0 0] (by rfl) HSL.out rfl (by simp [Value.oneCell']) (by have := HN.out; omega) (by have := HN.out; unfold maxLen; omega) (by simp; omega) ?_; intro v4 w4 hown4 hg4 hat4; obtain ⟨A4, c4, rfl, hc4⟩ := own_slice hown4; obtain ⟨-, hf1, hd2, hx4⟩ := HF.out w4 _ hg4 (hat4.imp (fun e => e) fun e => e.trans (by simp)) hown4)
    all_goals
      have HX := Lib.hid hx4
      clear hx4 hown4 hg4 hat4 hf1 hd2
      go_wp2_with fail
      go_meet
      exact ⟨rfl, HX.out⟩
  case rest =>
    obtain ⟨rfl, hA⟩ := hcut
    obtain ⟨N1, hN1e⟩ : ∃ N1, N1 = N ++ [d0] := ⟨_, rfl⟩
    rw [← hN1e] at hA
    clear t1 t1' t1a t1b c0 c1 c2 c3 c4 c5 c6 hb1 htl HV HSL HF HROW
    obtain ⟨hTh, hTp, hmh, hmp⟩ := HTT.out
    have hNb := HN.out
    obtain ⟨⟨A1, k1, s1⟩, s2, s3, s4, s5, s6, s7⟩ := hA.cells
    have hN1 : N1.length = N.length + 1 := by rw [hN1e]; simp
    have HN1 := Lib.hid hN1e
    clear hN1e
    obtain ⟨w1, hrun, hA1, hz1, hO1⟩ := hA.hung hTh (by omega) ⟨by omega, by omega⟩ ⟨by omega, by omega⟩ (by omega) N.length (by omega)
    have HSS : Hid (∀ W, Only (· = hb) wc W → W.cell? ⟨tb, 2, none⟩ = some (.map (some hb)) ∧ W.cell? ⟨w.heap.size, 5, none⟩ = some (.int .i64 par) ∧ W.cell? ⟨w.heap.size, 6, none⟩ = some (.int .i64 edge)) := Lib.hid fun W hW => by
      obtain ⟨⟨T1, v1, hB, hT1⟩, hO, hk, -⟩ := hA
      have b1 := Blk.only hB.blk hW fun e => Ty.map hB.hm (by rw [← e]; exact Ty.blk hB.blk)
      have b2 := Blk.only hk hW fun e => Ty.map hB.hm (by rw [← e]; exact Ty.blk hk)
      exact ⟨b1.cell 2, b2.cell 5, b2.cell 6⟩
    have HA := Lib.hid hA
    have HA1 := Lib.hid hA1
    have HI := Lib.hid (And.intro hbp hbe)
    clear hA hA1 hTh hTp hmh hmp hN1 hbp hbe hNb hz1 s1 s3 s4 s5
    go_wp2_with (fail)
    go_region_held3 (fun W => W.cell? ⟨tb, 2, none⟩ = some (.map (some hb)) ∧ W.cell? ⟨w.heap.size, 5, none⟩ = some (.int .i64 par) ∧ W.cell? ⟨w.heap.size, 6, none⟩ = some (.int .i64 edge))
      ((first | (with_reducible assumption) | (refine HSS.out _ ?_; repeat' (first | (with_reducible assumption) | (with_reducible exact Only.refl _ _) | (with_reducible refine Only.drew ?_) | (with_reducible refine Only.drewN ?_ _)))))
      (fail)
    clear hrun HSS s2 s6 s7 HA hO1
    obtain ⟨-, -, -, s4, s5, s6, s7⟩ := HA1.out.cells
    obtain ⟨hbp, hbe⟩ := HI.out
    by_cases hp0 : 0 ≤ par
    · obtain ⟨p, rfl⟩ : ∃ p : Nat, par = (p : Int) := ⟨par.toNat, by omega⟩
      have hpN : p < N.length := by omega
      have hgp : N1[p]? = some N[p] := by rw [HN1.out, List.getElem?_append_left hpN]; exact List.getElem?_eq_getElem hpN
      have hks : (N[p]).ks = kds (N.map bn) p := HLG.out.kids p _ (List.getElem?_eq_getElem hpN)
      have hkl := kds_len (N.map bn) p
      rw [← hks, List.length_map] at hkl
      obtain ⟨rb, c1, s1, x7, hrl, hown, hK⟩ := HA1.out.kid hgp
      have hkm : N1.length = N.length + 1 := by rw [HN1.out]; simp
      have i1 : (p : Int) < (N1.length : Int) := by omega
      have i2 : p < N1.length := by omega
      obtain ⟨dp, hdp⟩ : ∃ dp, dp = N[p] := ⟨_, rfl⟩
      rw [← hdp] at hgp hks hkl x7 hown hK
      obtain ⟨Ak, ck, hkv, hck⟩ := own_slice hown
      rw [hkv] at x7 hown hK
      have HKS := Lib.hid (And.intro hks (And.intro hgp (And.intro hkl hpN)))
      have hkl2 : dp.ks.length < 1048576 := by have := HN.out; omega
      have hbw : base ≤ w1.heap.size := HA1.out.lt.1
      have HK := Lib.hid hK
      have HDV := Lib.hid hkv
      clear hK hks hgp hdp hkv hck hkm hkl hpN
      have HM2 : Hid (∀ v4, (N1.set p { dp with ks := dp.ks ++ [N.length], v := v4 }).length = N.length + 1 ∧ (N1.set p { dp with ks := dp.ks ++ [N.length], v := v4 }).map bn = N.map bn ++ [bn d0] ∧ ∀ i d, (N1.set p { dp with ks := dp.ks ++ [N.length], v := v4 })[i]? = some d → d.ks = kds (N.map bn ++ [bn d0]) i) := Lib.hid fun v4 => by
        obtain ⟨k1, k2, k3, k4⟩ := HKS.out
        refine ⟨by rw [List.length_set, HN1.out]; simp, ?_, ?_⟩
        · rw [map_set_same k2 (by rfl), HN1.out, List.map_append]
          rfl
        · rw [HN1.out]
          exact kids_more HLG.out (by rw [HD0.out]) (by rw [HD0.out]) k4 (by rw [← k1])
      go_wp2_with (fail)
      go_quiet (fail)
      cases gone
      all_goals
        go_wp2_with (at_builtin
                     refine wpList_append_slk _ rfl (.tmp 46) (.tmp 48) _ rfl base 3 1 8 Try.underlying39 intK (by omega) (.slice Ak dp.ks.length ck) dp.ks.length (kv dp.ks) rfl (World.ownsRow.alloc (w := w1.drewN nq) hown _) _ _ 1 1 [.int .i64 (N.length : Int)] rfl (Sl.lit (w1.drewN nq) _ _) rfl (by simp [Value.oneCell']) (by omega) (by unfold maxLen; omega) (by simp; omega) ?_
                     intro v4 w4 hown4 hg4 hat4
                     obtain ⟨A4, c4, rfl, hc4⟩ := own_slice hown4
                     obtain ⟨y1, y2, hx4⟩ := HK.out nq N.length w4 _ hg4 (hat4.imp (fun e => e) fun e => e.trans (by simp)) hown4
                     obtain ⟨-, -, y5, y6, y7, -, -⟩ := hx4.cells
                     have HX := Lib.hid hx4
                     clear hx4 hown4 hg4 hat4 HK)
      · obtain ⟨W3, hW3⟩ : ∃ W3, W3 = w4.setCell ⟨rb, p * 8 + 7, none⟩ (.slice A4 (dp.ks.length + 1) c4) := ⟨_, rfl⟩
        rw [← hW3] at HX y5 y6 y7 ⊢
        obtain ⟨q1, q2, q3⟩ := HM2.out (.slice A4 (dp.ks.length + 1) c4)
        have HQ := Lib.hid (And.intro q1 (And.intro q2 q3))
        generalize N1.set p { dp with ks := dp.ks ++ [N.length], v := .slice A4 (dp.ks.length + 1) c4 } = N2 at HX HQ
        clear q1 q2 q3 hW3 y1 y2 s1 s4 s5 s6 s7 x7 hown
        obtain ⟨hTh, hTp, hmh, hmp⟩ := HTT.out
        have hNb := HN.out
        obtain ⟨w5, hrun, hA5, hz5, hO5⟩ := HX.out.placed hTp (by omega) hwf N.length (by omega)
        have HSS : Hid (∀ W, Only (· = pb) W3 W → W.cell? ⟨tb, 3, none⟩ = some (.map (some pb)) ∧ W.cell? ⟨w.heap.size, 0, none⟩ = some (.int .u64 id)) := Lib.hid fun W hW => HX.out.pkeep hW
        have HE := Lib.hid (HFIN.out _ _ HQ.out.1 HQ.out.2.1 HQ.out.2.2 (mp + 1) (by omega) hA5)
        clear hTh hTp hmh hmp hNb hA5 hz5
        go_region_held3 (fun W => W.cell? ⟨tb, 3, none⟩ = some (.map (some pb)) ∧ W.cell? ⟨w.heap.size, 0, none⟩ = some (.int .u64 id))
          ((first | (with_reducible assumption) | (refine HSS.out _ ?_; repeat' (first | (with_reducible assumption) | (with_reducible exact Only.refl _ _) | (with_reducible refine Only.drew ?_) | (with_reducible refine Only.drewN ?_ _)))))
          (fail)
        exact bodyPost_ret (v := .tuple #[]) (by simp [results, Try.results42, go_sem]) rfl HE.out
      · exact bodyPost_ret (v := .tuple #[]) (by simp [results, Try.results42, go_sem]) rfl (HFIN.out _ _ (HM2.out _).1 (HM2.out _).2.1 (HM2.out _).2.2 mp (by have := HTT.out; omega) HX.out)
    · cases gone
      all_goals go_wp2_with (fail)
      · have HX := HA1
        rw [HN1.out] at HX
        obtain ⟨hTh, hTp, hmh, hmp⟩ := HTT.out
        have hNb := HN.out
        obtain ⟨w5, hrun, hA5, hz5, hO5⟩ := HX.out.placed hTp (by omega) hwf N.length (by omega)
        have HSS : Hid (∀ W, Only (· = pb) w1 W → W.cell? ⟨tb, 3, none⟩ = some (.map (some pb)) ∧ W.cell? ⟨w.heap.size, 0, none⟩ = some (.int .u64 id)) := Lib.hid fun W hW => HX.out.pkeep hW
        have HE := Lib.hid (HFIN.out _ _ (by simp) (by simp) (kids_none HLG.out (by rw [HD0.out]) (by rw [HD0.out]; show par < 0; omega)) (mp + 1) (by omega) hA5)
        clear hTh hTp hmh hmp hNb hA5 hz5
        go_region_held3 (fun W => W.cell? ⟨tb, 3, none⟩ = some (.map (some pb)) ∧ W.cell? ⟨w.heap.size, 0, none⟩ = some (.int .u64 id))
          ((first | (with_reducible assumption) | (refine HSS.out _ ?_; repeat' (first | (with_reducible assumption) | (with_reducible exact Only.refl _ _) | (with_reducible refine Only.drew ?_) | (with_reducible refine Only.drewN ?_ _)))))
          (fail)
        exact bodyPost_ret (v := .tuple #[]) (by simp [results, Try.results42, go_sem]) rfl HE.out
      · have HX := HA1.out
        rw [HN1.out] at HX
        exact bodyPost_ret (v := .tuple #[]) (by simp [results, Try.results42, go_sem]) rfl (HFIN.out _ _ (by simp) (by simp) (kids_none HLG.out (by rw [HD0.out]) (by rw [HD0.out]; show par < 0; omega)) mp (by have := HTT.out; omega) HX)
end
end Go.Proofs.Ytaamlidflfdjkaa.bk
