/-
  For all rows of pairs the law HeapAlike returns true, and changes nothing that there was. No condition.
-/
import Derived.Test.YtcnncfjplmejhaaPPop
import Derived.Test.YtcnncfjplmejhaaCame
namespace Go.Proofs.Ytcnncfjplmejhaa.heapAlike
open Go.RowKit law bytes only flat heapM heap came Go.Sort Go.Shelf
open Go.ChangeShapes Go.WideShapes Go.Deep Go.ChangeAt
set_option linter.unusedVariables false

/-- the sum of all marks -/
def ms (l : List (Int × Int)) : Int := l.foldr (fun x s => x.2 + s) 0
theorem ms_perm {a b : List (Int × Int)} (h : a.Perm b) : ms a = ms b := by
  induction h with
  | nil => rfl
  | cons x _ ih => simp only [ms, List.foldr_cons] at *; rw [ih]
  | swap x y l => simp only [ms, List.foldr_cons]; omega
  | trans _ _ h1 h2 => exact h1.trans h2
theorem ms_cons (x : Int × Int) (l : List (Int × Int)) : ms (x :: l) = x.2 + ms l := rfl
theorem alike_enters : Enters Try.prog 17 := enters_of Try.func17 (by kernel_rfl) rfl
theorem alike_tells : Ordr (α := Int × Int) 17 pE cP := fun W x y => porder_any x y W
theorem cP_lt (x y : Int × Int) : lf cP x y = decide (x.1 < y.1) := cI_lt x.1 y.1
theorem cP_swo : SWO (lf cP) where
  irrefl x := by rw [cP_lt]; simp
  trans x y z h1 h2 := by rw [cP_lt] at *; simp at *; omega
  ntrans x y z h1 h2 := by rw [cP_lt] at *; simp at *; omega
theorem pheap_empty : Heap (lf cP) (#[] : Array (Int × Int)) := fun i h0 hi => by simp at hi
/-- what methods leave is as it was below the law's own memory -/
theorem below_mine {w wr W : World} {hb : Nat} {v : Value} {K : Nat} {d : Array (Int × Int)} (hB : Below w.heap.size w wr) (hp : PHp wr w.heap.size hb v K d) (hh : w.heap.size ≤ hb) (ho : Only (Mine hb v) wr W) : Below w.heap.size w W :=
  hB.trans (ho.below hB.size fun i e => by
    rcases e with rfl | e
    · exact hh
    · exact (own_lt hp.2.1 e).1)
theorem wrap_add (a b : Int) : IntKind.i64.wrap (IntKind.i64.wrap a + b) = IntKind.i64.wrap (a + b) := by simp only [IntKind.wrap_i64]; omega
theorem wrap_sub (a b : Int) : IntKind.i64.wrap (IntKind.i64.wrap a - b) = IntKind.i64.wrap (a - b) := by simp only [IntKind.wrap_i64]; omega
theorem w64 (n : Int) : wrap64 n = IntKind.i64.wrap n := by simp only [IntKind.wrap_i64, wrap64]
section
variable {H : Type} {enc : TypeId × Value → H} {P : Program} {w : World} {base : Nat} {held : Bool}
/-- two cells that read as a pair are one -/
theorem cells_pair {fuel : Nat} {t : TypeId} {f0 f1 : Field} {cs : List Value} {y : DataW H × List MemPlace} (ht : P.underlying t = some (.struct #[f0, f1])) (hone : oneCellFields P #[f0, f1] = true) (hC : P.cellsOf t = 2)
    (k0 : P.underlying f0.type = some (.int .i64)) (k1 : P.underlying f1.type = some (.int .i64))
    (h : DataW.trod enc P w base (fun _ => true) held fuel t cs = some y) : ∃ a : Int × Int, cs = pC a ∧ True := by
  obtain ⟨xs, n, _, hx, hl, hlen, hg⟩ := DataW.trod_struct ht h
  obtain ⟨o0, q0⟩ := hone_of hone 0 f0 rfl
  obtain ⟨o1, q1⟩ := hone_of hone 1 f1 rfl
  match cs, hl.trans hC with
  | [c0, c1], _ =>
    match xs, hlen with
    | [y0, y1], _ =>
      have g0 : DataW.trod enc P w base (fun _ => true) held n f0.type [c0] = some y0 := by simpa [o0, q0] using hg 0 f0 rfl
      have g1 : DataW.trod enc P w base (fun _ => true) held n f1.type [c1] = some y1 := by simpa [o1, q1] using hg 1 f1 rfl
      obtain ⟨a, e0, -, -⟩ := DataW.trod_int k0 g0
      obtain rfl := List.singleton_inj.1 e0
      obtain ⟨b, e1, -, -⟩ := DataW.trod_int k1 g1
      obtain rfl := List.singleton_inj.1 e1
      exact ⟨(a, b), rfl, trivial⟩
end
/-- the law's memory -/
def St (w W : World) (v : Value) (d : Array (Int × Int)) : Prop := PHp W w.heap.size w.heap.size v 17 d ∧ Heap (lf cP) d ∧ Below w.heap.size w W
set_option maxRecDepth 100000 in
set_option maxHeartbeats 3200000 in
theorem walk (A : Option Addr) (c : Nat) (l : List (Int × Int)) (hl : l.length * 16 ≤ 140737488355328) (w : World) (hr : Came 2 pC w A l) :
    Calls Try.prog 4 #[.slice A l.length c] w fun e w' => e = .returned (.bool true) ∧ Below w.heap.size w w' := by
  have HR := Lib.hid hr
  clear hr
  go_enter Try.func4, Try.ntmps4
  go_wp2_with (fail)
  refine (new_pair 17 w.heap.size w (Nat.le_refl _)).mono ?_
  rintro e w1 ⟨rfl, hb1, hp1⟩
  go_wp2_with (fail)
  go_loopg [4, 5] l.length (fun gk s4 s5 wr => ∃ (k : Nat) (m : Int) (v : Value) (d : Array (Int × Int)), k ≤ l.length ∧ gk = l.length - k ∧ s4 = .int .i64 m ∧ s5 = .int .i64 k ∧ m = IntKind.i64.wrap (ms d.toList) ∧ d.size = k ∧ St w wr v d)
  case atStart => exact ⟨0, 0, .slice none 0 0, #[], Nat.zero_le _, rfl, rfl, rfl, rfl, rfl, hp1, pheap_empty, hb1⟩
  case round =>
    obtain ⟨k, m, v, d, hk, rfl, rfl, rfl, hm, hds, hst⟩ := hrel
    clear hp1 hb1
    by_cases hlt : k < l.length
    · obtain ⟨rb, ro, rfl, hrb⟩ := HR.out.row (by decide) pC_len (by omega)
      have hat := HR.out.at_ k hlt
      obtain ⟨x, hx⟩ : ∃ x, l[k] = x := ⟨_, rfl⟩
      rw [hx] at hat
      obtain ⟨hp, hH, hB⟩ := hst
      have p0 : wr.cell? ⟨rb, ro + k * 2, none⟩ = some (.int .i64 x.1) := (hB.cell (p := ⟨rb, ro + k * 2, none⟩) hrb).trans (hat 0 (by decide))
      have p1 : wr.cell? ⟨rb, ro + k * 2 + 1, none⟩ = some (.int .i64 x.2) := (hB.cell (p := ⟨rb, ro + k * 2 + 1, none⟩) hrb).trans (hat 1 (by decide))
      have q1 := fun (W : World) (hW : Below w.heap.size w W) => (hW.cell (p := ⟨rb, ro + k * 2 + 1, none⟩) hrb).trans (hat 1 (by decide))
      have hpush := push_pair cP alike_enters alike_tells cP_swo x wr hp hH hB.size (by omega)
      have hmine := fun W ho => below_mine (W := W) hB hp (Nat.le_refl _) ho
      have i1 : (k : Int) < (l.length : Int) := by omega
      unfold pE at hpush
      have HP := Lib.hid hpush
      have HQ := Lib.hid q1
      have HM := Lib.hid hm
      have HMI := Lib.hid hmine
      have hsum : IntKind.i64.wrap (m + x.2) = IntKind.i64.wrap (x.2 + ms d.toList) := by rw [HM.out, wrap_add]; congr 1; omega
      have HSU := Lib.hid hsum
      clear hpush q1 hm hmine hsum hp hH hB hat hx
      go_wp2_with (fail)
      refine HP.out.mono ?_
      rintro e w2 ⟨rfl, ho, v2, d2, hp2, hH2, pe2, -⟩
      have hB2 := HMI.out w2 ho
      have p2 : w2.cell? ⟨rb, ro + k * 2 + 1, none⟩ = some (.int .i64 x.2) := HQ.out w2 hB2
      have hds2 : d2.size = k + 1 := by have := pe2.length_eq; simpa [hds] using this
      have HS2 : Hid (St w w2 v2 d2) := Lib.hid ⟨hp2, hH2, hB2⟩
      have HM2 : Hid (IntKind.i64.wrap (m + x.2) = IntKind.i64.wrap (ms d2.toList)) := Lib.hid (by rw [HSU.out, ← ms_cons, ms_perm pe2])
      clear hp2 hH2 hB2 pe2 ho p0 p1
      go_wp2_with (fail)
      go_roundg (l.length - (k + 1))
      case measure => omega
      case rel => exact ⟨k + 1, _, v2, d2, by omega, rfl, rfl, by go_num, (w64 _).trans HM2.out, hds2, HS2.out⟩
    · obtain rfl : k = l.length := by omega
      have HST := Lib.hid hst
      have HM := Lib.hid hm
      clear hst hm
      go_wp2_with (fail)
      go_loopg [4, 6, 7, 8, 9] l.length (fun gk s4 s6 s7 s8 s9 wr => ∃ (k : Nat) (m la : Int) (v : Value) (d : Array (Int × Int)), k ≤ l.length ∧ gk = l.length - k ∧ s4 = .int .i64 m ∧ s6 = .int .i64 la ∧ s7 = .int .i64 k ∧ m = IntKind.i64.wrap (ms d.toList) ∧ d.size = l.length - k ∧ (0 < k → ∀ x ∈ d.toList, ¬ x.1 < la) ∧ St w wr v d)
      case atStart => exact ⟨0, m, 0, v, d, Nat.zero_le _, rfl, rfl, rfl, rfl, HM.out, by omega, fun h => absurd h (by omega), HST.out⟩
      case round =>
        clear HST HM hds
        obtain ⟨k, m, la, v, d, hk, rfl, rfl, rfl, rfl, hm, hds, hla, hst⟩ := hrel
        obtain ⟨hp, hH, hB⟩ := hst
        by_cases hlt : k < l.length
        · have hpop := pop_pair cP alike_enters alike_tells cP_swo wr hp hH (by omega) (by omega)
          have hmem : d[0]! ∈ d.toList := by rw [getElem!_pos d 0 (by omega)]; exact Array.getElem_mem_toList _
          have hx0 := fun hk0 => hla hk0 _ hmem
          have htop := fun y (hy : y ∈ d.toList) => show ¬ y.1 < d[0]!.1 from by
            obtain ⟨j, hj, e⟩ := List.getElem_of_mem hy
            have h2 := hH.top cP_swo j j (Nat.le_refl _) (by simpa using hj)
            rw [cP_lt, getElem!_pos d j (by simpa using hj)] at h2
            simp only [Array.getElem_toList] at e
            rw [e] at h2
            simpa using h2
          have hmine := fun W ho => below_mine (W := W) hB hp (Nat.le_refl _) ho
          obtain ⟨x, hx⟩ : ∃ x, d[0]! = x := ⟨_, rfl⟩
          rw [hx] at hpop hx0 htop
          have i1 : (k : Int) < (l.length : Int) := by omega
          unfold pE at hpop
          have HP := Lib.hid hpop
          have HM := Lib.hid hm
          have HMI := Lib.hid hmine
          have HTO := Lib.hid htop
          have HX0 := Lib.hid hx0
          clear hpop hm hmine htop hx0 hp hH hB hx hmem hla
          go_wp2_with (fail)
          refine HP.out.mono ?_
          rintro e w2 ⟨rfl, ho, v2, d2, hp2, hH2, pe2, -⟩
          have hB2 := HMI.out w2 ho
          have hsum : IntKind.i64.wrap (m - x.2) = IntKind.i64.wrap (ms d2.toList) := by
            have := ms_perm pe2
            rw [ms_cons] at this
            rw [HM.out, wrap_sub]; congr 1; omega
          have HSU := Lib.hid hsum
          have hds2 : d2.size = l.length - (k + 1) := by have := pe2.length_eq; simp [hds] at this; omega
          have HLA : Hid (0 < k + 1 → ∀ y ∈ d2.toList, ¬ y.1 < x.1) := Lib.hid fun _ y hy => by have := HTO.out y (pe2.subset (List.mem_cons_of_mem _ hy)); omega
          have hb3 : Below w2.heap.size w2 (w2.alloc (.cells #[.int .i64 x.1, .int .i64 x.2] 42)) := (Below.refl _ _).alloc (Nat.le_refl _) _
          have HS2 : Hid (St w (w2.alloc (.cells #[.int .i64 x.1, .int .i64 x.2] 42)) v2 d2) := Lib.hid ⟨hp2.below hb3 (Nat.le_refl _), hH2, hB2.trans (hb3.mono hB2.size)⟩
          clear hp2 hH2 hB2 pe2 ho hsum hb3
          by_cases hk0 : 0 < k
          · have hx1 := HX0.out hk0
            have j1 : (0 : Int) < (k : Int) := by omega
            have j2 : decide (x.1 < la) = false := decide_eq_false (by omega)
            go_wp2_with (fail)
            go_roundg (l.length - (k + 1))
            case measure => omega
            case rel => exact ⟨k + 1, _, _, v2, d2, by omega, rfl, rfl, rfl, by go_num, (w64 _).trans HSU.out, hds2, HLA.out, HS2.out⟩
          · have j1 : ¬ (0 : Int) < (k : Int) := by omega
            go_wp2_with (fail)
            go_roundg (l.length - (k + 1))
            case measure => omega
            case rel => exact ⟨k + 1, _, _, v2, d2, by omega, rfl, rfl, rfl, by go_num, (w64 _).trans HSU.out, hds2, HLA.out, HS2.out⟩
        · have hd0 : d.size = 0 := by omega
          have hpop := pop_pair_empty hp hd0
          have hm0 : m = 0 := by
            have : d = #[] := Array.eq_empty_of_size_eq_zero hd0
            rw [hm, this]; rfl
          subst hm0
          unfold pE at hpop
          have HP := Lib.hid hpop
          have HB := Lib.hid hB
          clear hpop hm hp hH hB hla
          go_wp2_with (fail)
          refine HP.out.mono ?_
          rintro e w2 ⟨rfl, hb2⟩
          have hb3 : Below w.heap.size w (w2.alloc (.cells #[.int .i64 0, .int .i64 0] 42)) := (HB.out.trans (hb2.mono HB.out.size)).alloc (Nat.le_trans HB.out.size hb2.size) _
          have hlv := lives_any (w2.alloc (.cells #[.int .i64 0, .int .i64 0] 42))
          have HLV := Lib.hid hlv
          have HB3 := Lib.hid hb3
          clear hb2 hb3 hlv
          go_wp2_with (fail)
          refine HLV.out.mono ?_
          rintro e w4 ⟨rfl, hb4⟩
          have HB4 := Lib.hid (HB3.out.trans (hb4.mono HB3.out.size))
          clear hb4
          go_wp2_with (fail)
          go_ret
          exact ⟨rfl, HB4.out⟩
theorem lifted (os : Os) (started : os.Started) (H : Type) (enc : TypeId × Value → H) :
    ReturnsInHanded {} Try.checked os 4 .any (Rows.heapAlikeSpec.pre6 enc Try.prog Try.f4 Rows.heapAlikeRow.domain false) (Rows.heapAlikeSpec.post enc Try.prog Try.f4 false true false false) := by
  refine lift (C := Try.checked) (by kernel_rfl) started (by kernel_rfl) Try.func4 rfl (by kernel_rfl) (by kernel_rfl) rfl Try.underlying4
    (fun ds hd => by match ds, hd with | [_], _ => exact ⟨rfl, rfl, rfl⟩)
    (ChangeSpec.witness6 (enc := enc) (C := Try.checked) false ⟨#[], #[.slice none 0 0], []⟩ 8 (by kernel_rfl) (by kernel_rfl) (by kernel_rfl) (by kernel_rfl)) ?_
  intro W base args ds before hval0 hA0 hfz hsz0
  have hval : ∀ (j : Nat) t v, Try.f4.params[j]? = some t → args[j]? = some v → Value.okWide Try.prog W .any base t v := hval0
  have hA : DataW.TrodAll enc Try.prog W 0 (fun _ => true) true Try.f4.params.toList args.toList ds before := hA0
  have hsz : (DataW.weightsEach Try.prog Try.f4.params.toList ds).all (· ≤ reachBytes) = true := hsz0
  rw [Try.params4] at hA hval hsz
  obtain ⟨v0, vs0, d0, ds0, p0, q0, hargs, rfl, rfl, h0, r0⟩ := trodAll_cons hA
  obtain ⟨rfl, rfl, rfl⟩ := trodAll_nil r0
  obtain rfl : args = #[v0] := by cases args; simp_all
  have k : ∀ (fuel : Nat) (cs : List Value) (y : DataW H × List MemPlace), DataW.trod enc Try.prog W 0 (fun _ => true) true fuel 42 cs = some y → ∃ p : Int × Int, cs = pC p ∧ True := fun fuel cs y h =>
    cells_pair Try.underlying42 (by kernel_rfl) (by kernel_rfl) Try.underlying3 Try.underlying3 h
  obtain ⟨B, cap, l, rfl, hl, -, hr, hd⟩ := open_row (N := 2) Try.underlying38 (by kernel_rfl) k (hval 0 38 v0 rfl rfl) h0
  have hm : l.length * 16 ≤ 140737488355328 := by
    rcases hd with rfl | ⟨el, sp, rfl, hle⟩
    · simp
    · have h2 := sized_slice hsz (j := 0) rfl rfl Try.underlying38
      rw [show Try.prog.bytesOf 42 = 16 from by kernel_rfl] at h2
      have hr := reachBytes_lt
      omega
  exact walk B cap l hm W hr

theorem proved : Rows.HeapAlikeSaid :=
  OpenClaim.holds_of_wide 4 Try.f4 rfl rfl rfl rfl rfl rfl rfl ⟨rfl, rfl, rfl, rfl, rfl⟩ rfl rfl rfl rfl rfl (by kernel_rfl) Try.func4 (by kernel_rfl)
    (of_decide_eq_true (by kernel_rfl)) (by unfold Func.isWrapper; first | (rw [if_pos (by decide +kernel)]; kernel_rfl) | (rw [if_neg (by decide +kernel)]; exact ⟨rfl, rfl⟩))
    (fun os started H enc _ => lifted os started H enc)
#print axioms proved
end Go.Proofs.Ytcnncfjplmejhaa.heapAlike
