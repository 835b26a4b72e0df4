/-
  The contracts of Gone, Depth, Len.
-/
import Derived.Test.YtaamlidflfdjkaaBkU
import Derived.Lib.MinMax
namespace Go.Proofs.Ytaamlidflfdjkaa.bk
open Go.RowKit Go.WideShapes law bytes only flat nums ord obj metric tab
open aro (Kept)
open store (iE iE_len itemAt rM)
open told (own_types blk_types)
open Go.Maps Go.ChangeAt
set_option linter.unusedVariables false
set_option maxRecDepth 100000

theorem make_ints (n : Nat) (hn : n ≤ 8796093022208) (u : World) : ∃ Z : Array Value, Z.size = n * 1 ∧ (Instr.makeSlice 39 (.int .i64 0) (.int .i64 (n : Int))).run Try.prog u =
    .ok (.slice (some ⟨u.heap.size, 0, none⟩) 0 n) (u.alloc (.cells Z 3)) := by
  obtain ⟨i, z, hi, hz, hsz, hby, hzs⟩ := intK
  have h := run_make (P := Try.prog) u 39 3 i z Try.underlying39 hi hz .i64 .i64 0 (n : Int) (by omega) (by omega) (by rw [hby]; omega) (by omega)
  simp only [Int.toNat_zero, Int.toNat_natCast] at h
  exact ⟨_, by rw [size_madeCells, hsz], h⟩
theorem deps_le (L : List Bn) : ∀ d ∈ deps L, d ≤ L.length := by
  have key : ∀ (L : List Bn) (ds : List Nat), (∀ d ∈ ds, d ≤ ds.length) → ∀ d ∈ L.foldl (fun ds b => ds ++ [dstep ds b]) ds, d ≤ ds.length + L.length := by
    intro L
    induction L with
    | nil => intro ds h d hd; exact h d hd
    | cons b L ih =>
      intro ds h d hd
      have hs : dstep ds b ≤ ds.length + 1 := by
        unfold dstep
        split
        · by_cases hp : b.par.toNat < ds.length
          · have := h ds[b.par.toNat] (List.getElem_mem hp)
            rw [List.getD_eq_getElem?_getD, List.getElem?_eq_getElem hp]
            simp
            omega
          · rw [List.getD_eq_getElem?_getD, List.getElem?_eq_none (by omega)]
            simp
        · omega
      have := ih (ds ++ [dstep ds b]) (fun d hd => by
        simp only [List.mem_append, List.mem_singleton] at hd
        rw [List.length_append, List.length_singleton]
        rcases hd with hd | rfl
        · have := h d hd; omega
        · exact hs) d hd
      rw [List.length_append, List.length_singleton] at this
      rw [List.length_cons]
      omega
  intro d hd
  have := key L [] (by simp) d hd
  simpa using this
theorem depth_snoc (L : List Bn) (b : Bn) : depth (L ++ [b]) = max (depth L) (dstep (deps L) b) := by
  unfold depth
  rw [deps_snoc, List.foldl_append]
  rfl
theorem depth_le (L : List Bn) : depth L ≤ L.length := by
  have key : ∀ (l : List Nat) (m n : Nat), m ≤ n → (∀ d ∈ l, d ≤ n) → l.foldl max m ≤ n := by
    intro l
    induction l with
    | nil => intro m n h _; exact h
    | cons a l ih =>
      intro m n h h2
      exact ih _ _ (by have := h2 a (by simp); omega) fun d hd => h2 d (by simp [hd])
  exact key _ _ _ (Nat.zero_le _) (deps_le L)
section
variable {w w' w1 W W' : World} {base tb g hb pb mh mp B i : Nat} {n k : Int} {T S : Nat → Prop} {vN v4 : Value} {N : List Nd} {DH DP D1 : DataW Unit} {d : Nd} {t t' : TypeId} {A : Option Addr} {xs : List Value} {id : Int} {x : At} {gone : Bool} {par edge : Int}
theorem gone_any (h : Bx w base tb g n k T N) (hN : N.length ≤ 1048577) :
    Calls Try.prog 20 #[.pointer (some ⟨tb, 0, none⟩)] w fun e w' => e = .returned (.int .i64 ((N.length : Int) - (cnt (N.map bn) : Int))) ∧ Below w.heap.size w w' := by
  obtain ⟨hb, pb, mh, mp, vN, DH, DP, hm, hl, -, -⟩ := h
  obtain ⟨-, c1, -, c3, -⟩ := hm.cells
  obtain ⟨AN, cN, rfl, -⟩ := own_slice hm.row
  have hsz := hl.pm.2.1
  have hlen : ∀ m, (Builtin.len_ #[69] 3 #[.map (some pb)]).run Try.prog (w.drewN m) = .ok (.int .i64 (cnt (N.map bn) : Nat)) (w.drewN m) := fun m => by
    have hj : (w.drewN m).ownsMap Try.prog 33 (plainElem (H := Unit) Try.prog 3) pb mp DP := hm.pm
    rw [hj.len Try.underlying69, hsz]
  have hcl := cnt_le (N.map bn)
  rw [List.length_map] at hcl
  generalize cnt (N.map bn) = q at hlen hcl ⊢
  have w1 : IntKind.i64.wrap ((N.length : Int) - (q : Int)) = (N.length : Int) - (q : Int) := IntWalk.i64_in _ (by omega)
  clear hm hl hsz
  go_enter Try.func20, Try.ntmps20
  go_wp2_with (fail)
  go_quiet (fail)
  go_wp2_with (fail)
  go_ret
  exact ⟨rfl, below_drewN' (Below.refl _ _) _⟩
theorem Bx.kidsV (h : Bx w base tb g n k T N) : ∀ d ∈ N, ∃ A c, d.v = .slice A d.ks.length c := fun d hd => by
  obtain ⟨hb, pb, mh, mp, vN, DH, DP, hm, hl, -, -⟩ := h
  obtain ⟨A, c, e, -⟩ := own_slice (hm.nx d hd).ints
  exact ⟨A, c, e⟩
/-- the nodes' cells, while nothing of what there was turns -/
theorem Bx.nodes (h : Bx w base tb g n k T N) : ∃ AN cN, N.length ≤ cN ∧ ∀ W, Below w.heap.size w W → W.cell? ⟨tb, 1, none⟩ = some (.slice AN N.length cN) ∧ ∀ i (hi : i < N.length), ∃ rb, AN = some ⟨rb, 0, none⟩ ∧ rb < w.heap.size ∧ ∀ j, j < 8 → W.cell? ⟨rb, i * 8 + j, none⟩ = (ndC N[i])[j]? := by
  obtain ⟨hb, pb, mh, mp, vN, DH, DP, hm, hl, -, -⟩ := h
  obtain ⟨AN, cN, e, hc⟩ := own_slice hm.row
  refine ⟨AN, cN, hc, fun W hW => ?_⟩
  have h1 := (hm.below hW)
  obtain ⟨-, c1, -⟩ := h1.cells
  rw [e] at c1
  refine ⟨c1, fun i hi => ?_⟩
  obtain ⟨rb, c, e2, -, hr, -, -, -, hcell⟩ := h1.place (by omega)
  have e3 : AN = some ⟨rb, 0, none⟩ := by
    rw [e] at e2
    injection e2
  obtain ⟨rb0, c0, e20, -, hr0, -⟩ := hm.place (by omega)
  have e4 : rb0 = rb := by
    rw [e2] at e20
    injection e20 with e20
    injection e20 with e20
    injection e20 with e20
    exact e20.symm
  exact ⟨rb, e3, by omega, fun j hj => hcell i hi j hj⟩
set_option maxHeartbeats 3200000 in
theorem depth_any (h : Bx w base tb g n k T N) (hN : N.length ≤ 1048577) :
    Calls Try.prog 18 #[.pointer (some ⟨tb, 0, none⟩)] w fun e w' => e = .returned (.int .i64 (depth (N.map bn) : Nat)) ∧ Below w.heap.size w w' := by
  have htree := h.tree
  have htl := (h.low _ h.tt).2
  obtain ⟨AN, cN, hcN, hnd⟩ := h.nodes
  have HKV := Lib.hid h.kidsV
  obtain ⟨c1, -⟩ := hnd w (Below.refl _ _)
  obtain ⟨Z, hZ, hmk⟩ := make_ints N.length (by omega) w
  obtain ⟨L, hL⟩ : ∃ L, L = N.map bn := ⟨_, rfl⟩
  have hLl : L.length = N.length := by rw [hL, List.length_map]
  rw [← hL] at htree ⊢
  obtain ⟨U, hU⟩ : ∃ U, U = w.alloc (.cells Z 3) := ⟨_, rfl⟩
  have hbU : Below w.heap.size w U := by rw [hU]; exact (Below.refl _ _).alloc (Nat.le_refl _) _
  have hoU : U.ownsRow w.heap.size 3 1 (.slice (some ⟨w.heap.size, 0, none⟩) 0 N.length) 0 (kv (deps (L.take 0))) := by
    rw [hU]; exact World.ownsRow_made w Z _ (by omega) (by unfold maxLen; omega) hZ
  have c1U : U.cell? ⟨tb, 1, none⟩ = some (.slice AN N.length cN) := (hnd U hbU).1
  have HST := Lib.hid (And.intro hoU hbU)
  have HND := Lib.hid hnd
  have HT := Lib.hid (And.intro htree (And.intro hL (And.intro hLl hN)))
  rw [hU] at c1U
  have HU := Lib.hid hU
  clear h hnd hoU hbU htree hL hLl hZ hU
  have hl63 : (N.length : Int) < 9223372036854775807 := by omega
  have hd0 : depth (L.take 0) = 0 := rfl
  have HD0 := Lib.hid hd0
  clear hd0
  go_enter Try.func18, Try.ntmps18
  go_wp2_with (fail)
  rw [← HU.out]
  clear c1U c1 hmk
  go_loopg [3, 4, 21] N.length (fun gk s3 s4 s21 wr => ∃ (i : Nat) (A : Option Addr) (c : Nat), gk = N.length - i ∧ i ≤ N.length ∧ s3 = .int .i64 ((depth (L.take i) : Nat) : Int) ∧ s4 = .slice A i c ∧ s21 = .int .i64 i ∧ wr.ownsRow w.heap.size 3 1 (.slice A i c) i (kv (deps (L.take i))) ∧ Below w.heap.size w wr)
  case atStart => exact ⟨0, _, _, rfl, Nat.zero_le _, by rw [HD0.out]; rfl, rfl, rfl, HST.out.1, HST.out.2⟩
  case round =>
    clear HST HU HD0
    obtain ⟨i, A, c, rfl, hi, rfl, rfl, rfl, hown, hb⟩ := hrel
    by_cases hlt : i < N.length
    · obtain ⟨htree, hL, hLl, hN⟩ := HT.out
      obtain ⟨rb, rfl, hrl, hcell⟩ := (HND.out wr hb).2 i hlt
      have i1 : (i : Int) < (N.length : Int) := by omega
      have hLi : L[i]? = some (bn N[i]) := by rw [hL, List.getElem?_map, List.getElem?_eq_getElem hlt]; rfl
      obtain ⟨hp1, hp2⟩ := htree.par i _ hLi
      have htk : L.take (i + 1) = L.take i ++ [bn N[i]] := by
        have hil : i < L.length := by omega
        rw [List.take_succ_eq_append_getElem hil]
        congr 2
        rw [List.getElem?_eq_getElem hil] at hLi
        injection hLi
      have hdl : (deps (L.take i)).length = i := by rw [deps_length, List.length_take]; omega
      have hds := depth_snoc (L.take i) (bn N[i])
      have hdq := deps_snoc (L.take i) (bn N[i])
      rw [← htk] at hds hdq
      have hde := depth_le (L.take (i + 1))
      rw [List.length_take] at hde
      have hdi := deps_le (L.take (i + 1))
      have hws := hb.size
      have hAt : ∀ p, p < i → ∃ g4, A = some ⟨g4, 0, none⟩ ∧ ∀ X : Obj, (wr.alloc X).cell? ⟨g4, p, none⟩ = some (.int .i64 (((deps (L.take i)).getD p 0 : Nat) : Int)) := fun p hp => by
        obtain ⟨g4, c4, e, h1, h2, h3⟩ := own_form hown (by omega)
        injection e with e
        refine ⟨g4, e, fun X => ?_⟩
        subst e
        refine (World.cell?_alloc_lt wr _ ⟨g4, p, none⟩ h2).trans ?_
        have := World.ownsRow.cellAt hown p (by omega)
        rw [this]
        simp [kv, List.getD_eq_getElem?_getD, hdl, hp]
      obtain ⟨x0, x1, x2, x3, x4, x5, x6, x7⟩ : wr.cell? ⟨rb, i * 8, none⟩ = some (.int .u64 N[i].id) ∧ wr.cell? ⟨rb, i * 8 + 1, none⟩ = some (.int .i64 N[i].t.x.tag) ∧ wr.cell? ⟨rb, i * 8 + 2, none⟩ = some (.slice N[i].t.a N[i].t.x.vec.length N[i].t.c) ∧ wr.cell? ⟨rb, i * 8 + 3, none⟩ = some (.string N[i].t.x.str) ∧ wr.cell? ⟨rb, i * 8 + 4, none⟩ = some (.bool N[i].gone) ∧ wr.cell? ⟨rb, i * 8 + 5, none⟩ = some (.int .i64 N[i].par) ∧ wr.cell? ⟨rb, i * 8 + 6, none⟩ = some (.int .i64 N[i].edge) ∧ wr.cell? ⟨rb, i * 8 + 7, none⟩ = some N[i].v :=
        ⟨hcell 0 (by omega), hcell 1 (by omega), hcell 2 (by omega), hcell 3 (by omega), hcell 4 (by omega), hcell 5 (by omega), hcell 6 (by omega), hcell 7 (by omega)⟩
      obtain ⟨Av, cv, hv⟩ := HKV.out N[i] (List.getElem_mem hlt)
      rw [hv] at x7
      clear hcell hLi htk hv
      have hdl2 : (deps (L.take (i + 1))).length = i + 1 := by rw [deps_length, List.length_take]; omega
      have hdn : dstep (deps (L.take i)) (bn N[i]) ≤ i + 1 := by
        have := hdi (dstep (deps (L.take i)) (bn N[i])) (by rw [hdq]; simp)
        rw [List.length_take] at this
        omega
      have hd0 : depth (L.take i) ≤ i := by have := depth_le (L.take i); rw [List.length_take] at this; omega
      have hst : ∀ p : Nat, N[i].par = (p : Int) → dstep (deps (L.take i)) (bn N[i]) = 1 + (deps (L.take i)).getD p 0 := fun p hp => by
        unfold dstep
        rw [if_pos (by show 0 ≤ N[i].par; omega)]
        show 1 + (deps (L.take i)).getD N[i].par.toNat 0 = _
        rw [hp]
        rfl
      have hst2 : N[i].par < 0 → dstep (deps (L.take i)) (bn N[i]) = 1 := fun hp => by
        unfold dstep
        rw [if_neg (by show ¬ 0 ≤ N[i].par; omega)]
      have hkv : kv (deps (L.take (i + 1))) = kv (deps (L.take i)) ++ [.int .i64 ((dstep (deps (L.take i)) (bn N[i]) : Nat) : Int)] := by rw [hdq, kv_snoc]
      have hpar : (bn N[i]).par = N[i].par := rfl
      rw [hpar] at hp1 hp2
      generalize dstep (deps (L.take i)) (bn N[i]) = dn at hds hdn hst hst2 hkv
      generalize N[i] = y at x0 x1 x2 x3 x4 x5 x6 x7 hp1 hp2 hst hst2
      generalize y.ks.length = lv at x7
      have HB1 := Lib.hid hb
      have HK := Lib.hid (And.intro hds hkv)
      have HO := Lib.hid hown
      have HN := Lib.hid hN
      clear hdq hde hdi hb hkv hds hpar htree hL hLl hdl hdl2 hN
      generalize depth (L.take i) = d0 at hd0 HK ⊢
      by_cases hp : 0 ≤ y.par
      · obtain ⟨p, hpp⟩ : ∃ p : Nat, y.par = (p : Int) := ⟨y.par.toNat, by omega⟩
        obtain ⟨g4, rfl, hc4⟩ := hAt p (by omega)
        have hst1 := hst p hpp
        rw [hpp] at x5
        have hp0 : 0 ≤ (p : Int) := by omega
        have hpi : (p : Int) < (i : Int) := by omega
        have hpi2 : p < i := by omega
        have hc5 := hc4 (.cells #[.int .u64 y.id, .int .i64 y.t.x.tag, .slice y.t.a y.t.x.vec.length y.t.c, .string y.t.x.str, .bool y.gone, .int .i64 (p : Int), .int .i64 y.edge, .slice Av lv cv] 82)
        generalize (deps (L.take i)).getD p 0 = dp at hst1 hc5
        have i5 : IntKind.i64.wrap (1 + (dp : Int)) = (dn : Int) := by rw [IntWalk.i64_in _ (by omega)]; omega
        clear hst1
        have hsl := Sl.lit (wr.alloc (.cells #[.int .u64 y.id, .int .i64 y.t.x.tag, .slice y.t.a y.t.x.vec.length y.t.c, .string y.t.x.str, .bool y.gone, .int .i64 (p : Int), .int .i64 y.edge, .slice Av lv cv] 82)) [.int .i64 (dn : Int)] 3
        rw [show (wr.alloc (.cells #[.int .u64 y.id, .int .i64 y.t.x.tag, .slice y.t.a y.t.x.vec.length y.t.c, .string y.t.x.str, .bool y.gone, .int .i64 (p : Int), .int .i64 y.edge, .slice Av lv cv] 82)).heap.size = wr.heap.size + 1 by simp] at hsl
        have HSL := Lib.hid hsl
        clear hsl
        have HEND : Hid (∀ v4 w4, ((wr.alloc (.cells #[.int .u64 y.id, .int .i64 y.t.x.tag, .slice y.t.a y.t.x.vec.length y.t.c, .string y.t.x.str, .bool y.gone, .int .i64 (p : Int), .int .i64 y.edge, .slice Av lv cv] 82)).alloc (.cells #[.int .i64 (dn : Int)] 3)).grownBy w4 (Value.slice (some ⟨g4, 0, none⟩) i c).ownBlock → w4.ownsRow w.heap.size 3 1 v4 (i + 1) (kv (deps (L.take i)) ++ [.int .i64 (dn : Int)]) → w4.ownsRow w.heap.size 3 1 v4 (i + 1) (kv (deps (L.take (i + 1)))) ∧ Below w.heap.size w w4) := Lib.hid fun v4 w4 hg hr => by
          have hO : Only (fun q => (Value.slice (some ⟨g4, 0, none⟩) i c).ownBlock = some q) wr w4 := (((Only.refl _ wr).alloc _).alloc _).trans (Only.of_grown hg fun j e => .inl e) fun j e => .inl e
          exact ⟨by rw [HK.out.2]; exact hr, HB1.out.trans (hO.below (by omega) fun q e => (own_lt HO.out e).1)⟩
        have hw := HN.out
        clear hst hst2 hAt hc4 hp1 hp2 hp hpp hown
        go_wp2_with (at_builtin
                     refine wpList_append_slk _ rfl (.tmp 37) (.tmp 39) _ rfl w.heap.size 3 1 8 Try.underlying39 intK (by omega) (.slice (some ⟨g4, 0, none⟩) i c) i (kv (deps (L.take i))) rfl (World.ownsRow.alloc (World.ownsRow.alloc (w := wr) HO.out _) _) _ _ 1 1 [.int .i64 (dn : Int)] rfl HSL.out rfl (by simp [Value.oneCell']) (by omega) (by unfold maxLen; omega) (by simp; omega) ?_
                     intro v4 w4 hown4 hg4 hat4
                     obtain ⟨A4, c4, rfl, -⟩ := own_slice hown4
                     have HE : Hid (w4.ownsRow w.heap.size 3 1 (.slice A4 (i + 1) c4) (i + 1) (kv (deps (L.take (i + 1)))) ∧ Below w.heap.size w w4) := Lib.hid (HEND.out _ _ hg4 hown4)
                     clear hown4 hg4 hat4)
        go_roundg (N.length - (i + 1))
        case measure => omega
        case rel => exact ⟨i + 1, A4, c4, rfl, by omega, by rw [HK.out.1, show ((max d0 dn : Nat) : Int) = max (d0 : Int) (dn : Int) by omega], rfl, by go_num, HE.out.1, HE.out.2⟩
      · have hpn : y.par < 0 := by omega
        have hpd : decide (0 ≤ y.par) = false := by simpa using hpn
        obtain rfl : dn = 1 := hst2 hpn
        have hsl := Sl.lit (wr.alloc (.cells #[.int .u64 y.id, .int .i64 y.t.x.tag, .slice y.t.a y.t.x.vec.length y.t.c, .string y.t.x.str, .bool y.gone, .int .i64 y.par, .int .i64 y.edge, .slice Av lv cv] 82)) [.int .i64 1] 3
        rw [show (wr.alloc (.cells #[.int .u64 y.id, .int .i64 y.t.x.tag, .slice y.t.a y.t.x.vec.length y.t.c, .string y.t.x.str, .bool y.gone, .int .i64 y.par, .int .i64 y.edge, .slice Av lv cv] 82)).heap.size = wr.heap.size + 1 by simp] at hsl
        have HSL := Lib.hid hsl
        clear hsl
        have HEND : Hid (∀ v4 w4, ((wr.alloc (.cells #[.int .u64 y.id, .int .i64 y.t.x.tag, .slice y.t.a y.t.x.vec.length y.t.c, .string y.t.x.str, .bool y.gone, .int .i64 y.par, .int .i64 y.edge, .slice Av lv cv] 82)).alloc (.cells #[.int .i64 1] 3)).grownBy w4 (Value.slice A i c).ownBlock → w4.ownsRow w.heap.size 3 1 v4 (i + 1) (kv (deps (L.take i)) ++ [.int .i64 1]) → w4.ownsRow w.heap.size 3 1 v4 (i + 1) (kv (deps (L.take (i + 1)))) ∧ Below w.heap.size w w4) := Lib.hid fun v4 w4 hg hr => by
          have hO : Only (fun q => (Value.slice A i c).ownBlock = some q) wr w4 := (((Only.refl _ wr).alloc _).alloc _).trans (Only.of_grown hg fun j e => .inl e) fun j e => .inl e
          exact ⟨by rw [HK.out.2]; exact hr, HB1.out.trans (hO.below (by omega) fun q e => (own_lt HO.out e).1)⟩
        have hw := HN.out
        clear hst hst2 hAt hp1 hp2 hp hown
        go_wp2_with (at_builtin
                     refine wpList_append_slk _ rfl (.tmp 37) (.tmp 39) _ rfl w.heap.size 3 1 8 Try.underlying39 intK (by omega) (.slice A i c) i (kv (deps (L.take i))) rfl (World.ownsRow.alloc (World.ownsRow.alloc (w := wr) HO.out _) _) _ _ 1 1 [.int .i64 1] rfl HSL.out rfl (by simp [Value.oneCell']) (by omega) (by unfold maxLen; omega) (by simp; omega) ?_
                     intro v4 w4 hown4 hg4 hat4
                     obtain ⟨A4, c4, rfl, -⟩ := own_slice hown4
                     have HE : Hid (w4.ownsRow w.heap.size 3 1 (.slice A4 (i + 1) c4) (i + 1) (kv (deps (L.take (i + 1)))) ∧ Below w.heap.size w w4) := Lib.hid (HEND.out _ _ hg4 hown4)
                     clear hown4 hg4 hat4)
        go_roundg (N.length - (i + 1))
        case measure => omega
        case rel => exact ⟨i + 1, A4, c4, rfl, by omega, by rw [HK.out.1, show ((max d0 1 : Nat) : Int) = max (d0 : Int) 1 by omega], rfl, by go_num, HE.out.1, HE.out.2⟩
    · obtain rfl : i = N.length := by omega
      have i1 : ¬ (N.length : Int) < (N.length : Int) := by omega
      have HE : Hid (depth (L.take N.length) = depth L ∧ Below w.heap.size w wr) := Lib.hid ⟨by rw [List.take_of_length_le (by have := HT.out.2.2.1; omega)], hb⟩
      clear hown hb
      go_wp2_with (fail)
      go_ret
      exact ⟨by rw [← HE.out.1]; rfl, HE.out.2⟩
end
end Go.Proofs.Ytaamlidflfdjkaa.bk
