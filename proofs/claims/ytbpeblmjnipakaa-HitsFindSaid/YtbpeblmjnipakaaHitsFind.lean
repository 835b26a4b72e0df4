/-
  For all rows of hits and every number the law HitsFind returns true, and changes nothing that there was. No condition.
-/
import Derived.Test.YtbpeblmjnipakaaHitN
import Derived.Test.YtbpeblmjnipakaaHitO
import Derived.Test.YtbpeblmjnipakaaHitOpen
namespace Go.Proofs.Ytbpeblmjnipakaa.hitsFind
open Go.RowKit law bytes only flat came hit Go.Sort Go.Shelf
open Go.ChangeShapes Go.WideShapes Go.Deep Go.ChangeAt
set_option linter.unusedVariables false

/-- what the law keeps -/
structure St (w W : World) (n : Nat) (A A2 : Option Addr) (l : List Hit) (x y : Hit) : Prop where
  found : Blk W n 31 #[.int .u64 x.1, .int .i64 x.2]
  want : Blk W (n + 1) 31 #[.int .u64 y.1, .int .i64 y.2]
  row : Sl W n A (hv l)
  ids : Sl W n A2 (idv l)
  below : Below w.heap.size w W
  size : w.heap.size ≤ n
theorem St.drewN {w W : World} {n : Nat} {A A2 : Option Addr} {l : List Hit} {x y : Hit} (h : St w W n A A2 l x y) (k : Nat) : St w (W.drewN k) n A A2 l x y :=
  ⟨h.found.drewN k, h.want.drewN k, h.row.drewN k, h.ids.drewN k, below_drewN' h.below k, h.size⟩
theorem St.put {w W : World} {n : Nat} {A A2 : Option Addr} {l : List Hit} {x y : Hit} (h : St w W n A A2 l x y) (z : Hit) :
    St w ((W.setCell ⟨n + 1, 0, none⟩ (.int .u64 z.1)).setCell ⟨n + 1, 1, none⟩ (.int .i64 z.2)) n A A2 l x z :=
  ⟨(h.found.far (by simp) _).far (by simp) _, (h.want.set_ 0 _).set_ 1 _, (h.row.setCell (Nat.le_succ _) _).setCell (Nat.le_succ _) _, (h.ids.setCell (Nat.le_succ _) _).setCell (Nat.le_succ _) _,
    (h.below.setCell (Nat.le_succ_of_le h.size) _).setCell (Nat.le_succ_of_le h.size) _, h.size⟩
theorem idv_at {w : World} {B : Nat} {A : Option Addr} {l : List Hit} {k : Nat} (h : Sl w B A (idv l)) (hk : k < l.length) : ∃ ad, A = some ad ∧ w.cell? (ad.add k) = some (.int .u64 l[k].1) := by
  obtain ⟨ad, e, _, hc⟩ := h.at_ (k := k) (by rw [idv_length]; exact hk)
  exact ⟨ad, e, by simpa [idv] using hc⟩

theorem opt_none {o : Option Hit} {y : Hit} (h : opt o = (y, false)) : o = none ∧ y = (0, 0) := by
  cases o with
  | none => exact ⟨rfl, (Prod.mk.inj h).1.symm⟩
  | some x => cases (Prod.mk.inj h).2
theorem opt_some {o : Option Hit} {y : Hit} (h : opt o = (y, true)) : o = some y := by
  cases o with
  | none => cases (Prod.mk.inj h).2
  | some x => rw [(Prod.mk.inj h).1]
set_option maxRecDepth 100000 in
set_option maxHeartbeats 6400000 in
theorem walk (A : Option Addr) (c : Nat) (l : List Hit) (id : Int) (hm : l.length * 16 ≤ 140737488355328) (w : World) (hs : Sl w w.heap.size A (hv l)) :
    Calls Try.prog 4 #[.slice A l.length c, .int .u64 id] w fun e w' => e = .returned (.bool true) ∧ Below w.heap.size w w' := by
  have HI := Lib.hid (ids_any A l c _ w hm (Nat.le_refl _) hs)
  have HS := Lib.hid hs
  clear hs
  go_enter Try.func4, Try.ntmps4
  go_wp2_with (fail)
  refine HI.out.mono ?_
  rintro e w1 ⟨A2, c2, rfl, hi1, hb1⟩
  have HF := Lib.hid (find_any A l c _ id w1 hm hb1.size (HS.out.below hb1))
  have HI1 := Lib.hid (And.intro hi1 hb1)
  clear hi1 hb1 HI
  go_wp2_with (fail)
  refine HF.out.mono ?_
  rintro e w2 ⟨⟨x1, x2⟩, ok, rfl, hf, hb2⟩
  have HX := Lib.hid hf
  have HS2 : Hid (St w ((w2.alloc (.cells #[.int .u64 x1, .int .i64 x2] 31)).alloc (.cells #[.int .u64 0, .int .i64 0] 31)) w2.heap.size A A2 l (x1, x2) (0, 0)) := Lib.hid (by
    obtain ⟨hi1, hb1⟩ := HI1.out
    have hbw : Below w.heap.size w w2 := hb1.trans (hb2.mono hb1.size)
    have hz : (w2.alloc (.cells #[.int .u64 x1, .int .i64 x2] 31)).heap.size = w2.heap.size + 1 := by simp
    refine ⟨(Blk.new w2 _ _).alloc _, ?_, ?_, ?_, ?_, hbw.size⟩
    · have := Blk.new (w2.alloc (.cells #[.int .u64 x1, .int .i64 x2] 31)) 31 #[.int .u64 0, .int .i64 0]
      rwa [hz] at this
    · exact (((HS.out.below hbw).more hbw.size).alloc (Nat.le_refl _) _).alloc (by rw [hz]; omega) _
    · exact (((hi1.below hb2).more hb2.size).alloc (Nat.le_refl _) _).alloc (by rw [hz]; omega) _
    · exact (hbw.alloc hbw.size _).alloc (by rw [hz]; have := hbw.size; omega) _)
  clear hf hb2 HI1 HS HF
  go_wp2_with (fail)
  obtain ⟨n, hn⟩ : ∃ n, n = w2.heap.size := ⟨_, rfl⟩
  rw [← hn] at HS2 ⊢
  clear hn
  go_loopg [9, 10] l.length (fun gk s9 s10 wr => ∃ (k : Nat) (y : Hit) (inn : Bool), gk = l.length - k ∧ k ≤ l.length ∧ s9 = .bool inn ∧ s10 = .int .i64 k ∧ opt ((l.take k).find? (isId id)) = (y, inn) ∧ St w wr n A A2 l (x1, x2) y)
  case atStart => exact ⟨0, (0, 0), false, rfl, Nat.zero_le _, rfl, rfl, rfl, HS2.out⟩
  case round =>
    clear HS2
    obtain ⟨k, ⟨y1, y2⟩, inn, rfl, hk, rfl, rfl, ho, hst⟩ := hrel
    by_cases hlt : k < l.length
    · obtain ⟨b, o, rfl, hb1, hc0, hc1⟩ := Sl.hitAt hst.row hlt
      obtain ⟨ad, rfl, hi0⟩ := idv_at hst.ids hlt
      have hON : Hid (∀ x, l[k] = x → (isId id x = true → inn = false → opt ((l.take (k + 1)).find? (isId id)) = (x, true)) ∧ (isId id x = false → opt ((l.take (k + 1)).find? (isId id)) = ((y1, y2), inn)) ∧ (inn = true → opt ((l.take (k + 1)).find? (isId id)) = ((y1, y2), true))) := Lib.hid fun x hx => by
        subst hx
        refine ⟨fun h1 h2 => ?_, fun h1 => ?_, fun h1 => ?_⟩
        · subst h2
          rw [find_first (opt_none ho).1 hlt h1]
          rfl
        · cases inn with
          | true => rw [find_take (opt_some ho) hlt]; rfl
          | false => rw [find_none (opt_none ho).1 hlt h1, (opt_none ho).2]; rfl
        · subst h1
          rw [find_take (opt_some ho) hlt]; rfl
      obtain ⟨⟨x, y⟩, hx⟩ : ∃ x, l[k] = x := ⟨_, rfl⟩
      have HON := Lib.hid (hON.out _ hx)
      rw [hx] at hc0 hc1 hi0
      dsimp only at hc0 hc1 hi0
      have i1 : (k : Int) < (l.length : Int) := by omega
      have i2 : decide ((l.length : Int) ≤ (k : Int)) = false := decide_eq_false (by omega)
      have i3 : decide (l.length ≤ k) = false := decide_eq_false (by omega)
      have d1 : (x == x) = true := by simp
      have d2 : (x != x) = false := by simp
      have HST := Lib.hid hst
      clear hst ho hx hON
      go_wp2_with (fail)
      go_quiet (fail)
      obtain ⟨V, hV⟩ : ∃ V, V = wr.drewN nq := ⟨_, rfl⟩
      have hstV : St w V n (some ⟨b, o, none⟩) (some ad) l (x1, x2) (y1, y2) := by rw [hV]; exact HST.out.drewN nq
      have hc0' : V.cell? ⟨b, o + k * 2, none⟩ = some (.int .u64 x) := by rw [hV]; exact hc0
      have hc1' : V.cell? ⟨b, o + k * 2 + 1, none⟩ = some (.int .i64 y) := by rw [hV]; exact hc1
      rw [← hV]
      have c0 := hstV.want.cell 0
      have c1 := hstV.want.cell 1
      have f0 := hstV.want.frozen 0
      have f1 := hstV.want.frozen 1
      have HSV := Lib.hid hstV
      clear hV hstV HST hc0 hc1 hi0
      by_cases hq : x = id
      · have q1 : (x == id) = true := by simpa using hq
        have HQ : Hid (isId id (x, y) = true) := Lib.hid q1
        clear hq
        cases inn with
        | true =>
          have HO : Hid (opt ((l.take (k + 1)).find? (isId id)) = ((y1, y2), true)) := Lib.hid (HON.out.2.2 rfl)
          clear HON
          go_wp2_with (fail)
          go_roundg (l.length - (k + 1))
          case measure => omega
          case rel => exact ⟨k + 1, (y1, y2), true, rfl, by omega, rfl, by go_num, HO.out, HSV.out⟩
        | false =>
          have HO : Hid (opt ((l.take (k + 1)).find? (isId id)) = ((x, y), true)) := Lib.hid (HON.out.1 HQ.out rfl)
          clear HON
          go_wp2_with (fail)
          go_roundg (l.length - (k + 1))
          case measure => omega
          case rel => exact ⟨k + 1, (x, y), true, rfl, by omega, rfl, by go_num, HO.out, HSV.out.put (x, y)⟩
      · have q1 : (x == id) = false := by simpa using hq
        have HO : Hid (opt ((l.take (k + 1)).find? (isId id)) = ((y1, y2), inn)) := Lib.hid (HON.out.2.1 q1)
        clear hq HON
        go_wp2_with (fail)
        go_roundg (l.length - (k + 1))
        case measure => omega
        case rel => exact ⟨k + 1, (y1, y2), inn, rfl, by omega, rfl, by go_num, HO.out, HSV.out⟩
    · obtain rfl : k = l.length := by omega
      have i1 : ¬ (l.length : Int) < (l.length : Int) := by omega
      have he := HX.out
      rw [List.take_length, he] at ho
      obtain ⟨h1, rfl⟩ := Prod.mk.inj ho
      obtain ⟨rfl, rfl⟩ := Prod.mk.inj h1
      have c0 := hst.want.cell 0
      have c1 := hst.want.cell 1
      have e0 := hst.found.cell 0
      have e1 := hst.found.cell 1
      have d1 : ((l.length : Int) == (l.length : Int)) = true := by simp
      have d2 : (x1 == x1) = true := by simp
      have d3 : (x2 == x2) = true := by simp
      have d4 : (ok == ok) = true := by simp
      have HST := Lib.hid hst.below
      have HLV := Lib.hid (lives_any wr)
      clear he ho h1 hst HX
      go_wp2_with (fail)
      refine HLV.out.mono ?_
      rintro e w4 ⟨rfl, hb4⟩
      have HB4 := Lib.hid (HST.out.trans (hb4.mono HST.out.size))
      clear hb4
      go_wp2_with (fail)
      go_ret
      exact ⟨rfl, HB4.out⟩

theorem lifted (os : Os) (started : os.Started) (H : Type) (enc : TypeId × Value → H) :
    ReturnsInHanded {} Try.checked os 4 .any (Rows.hitsFindSpec.pre6 enc Try.prog Try.f4 Rows.hitsFindRow.domain false) (Rows.hitsFindSpec.post enc Try.prog Try.f4 false true false false) := by
  refine lift (C := Try.checked) (by kernel_rfl) started (by kernel_rfl) Try.func4 rfl (by kernel_rfl) (by kernel_rfl) rfl Try.underlying4
    (fun ds hd => by match ds, hd with | [_, _], _ => exact ⟨rfl, rfl, rfl⟩)
    (ChangeSpec.witness6 (enc := enc) (C := Try.checked) false ⟨#[], #[.slice none 0 0, .int .u64 0], []⟩ 8 (by kernel_rfl) (by kernel_rfl) (by kernel_rfl) (by kernel_rfl)) ?_
  intro W base args ds before hval0 hA0 hfz hsz0
  have hval : ∀ (j : Nat) t v, Try.f4.params[j]? = some t → args[j]? = some v → Value.okWide Try.prog W .any base t v := hval0
  have hA : DataW.TrodAll enc Try.prog W 0 (fun _ => true) true Try.f4.params.toList args.toList ds before := hA0
  have hsz : (DataW.weightsEach Try.prog Try.f4.params.toList ds).all (· ≤ reachBytes) = true := hsz0
  rw [Try.params4] at hA hval hsz
  obtain ⟨v0, vs0, d0, ds0, p0, q0, hargs, rfl, rfl, h0, r0⟩ := trodAll_cons hA
  obtain ⟨v1, vs1, d1, ds1, p1, q1, rfl, rfl, rfl, h1, r1⟩ := trodAll_cons r0
  obtain ⟨rfl, rfl, rfl⟩ := trodAll_nil r1
  obtain rfl : args = #[v0, v1] := by cases args; simp_all
  obtain ⟨B, cap, l, rfl, hs, hd⟩ := open_hits (hval 0 22 v0 rfl rfl) h0
  obtain ⟨id, rfl, rfl, rfl, wi⟩ := open_int Try.underlying27 (hval 1 27 v1 rfl rfl) h1
  have hm : l.length * 16 ≤ 140737488355328 := by
    rcases hd with rfl | ⟨el, sp, rfl, hle⟩
    · simp
    · have h2 := sized_slice hsz (j := 0) rfl rfl Try.underlying22
      rw [show Try.prog.bytesOf 31 = 16 from by kernel_rfl] at h2
      have hr := reachBytes_lt
      omega
  exact walk B cap l id hm W hs

theorem proved : Rows.HitsFindSaid :=
  OpenClaim.holds_of_wide 4 Try.f4 rfl rfl rfl rfl rfl rfl rfl ⟨rfl, rfl, rfl, rfl, rfl⟩ rfl rfl rfl rfl rfl (by kernel_rfl) Try.func4 (by kernel_rfl)
    (of_decide_eq_true (by kernel_rfl)) (by unfold Func.isWrapper; first | (rw [if_pos (by decide +kernel)]; kernel_rfl) | (rw [if_neg (by decide +kernel)]; exact ⟨rfl, rfl⟩))
    (fun os started H enc _ => lifted os started H enc)
#print axioms proved
end Go.Proofs.Ytbpeblmjnipakaa.hitsFind
