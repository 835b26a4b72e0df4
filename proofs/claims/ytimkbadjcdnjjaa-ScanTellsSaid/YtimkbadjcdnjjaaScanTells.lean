/-
  For all metrics, items, things, distances and numbers the law ScanTells returns true, and changes nothing that there was. No condition.
-/
import Derived.Test.YtimkbadjcdnjjaaScT
import Derived.Deep.RegionHeld3
namespace Go.Proofs.Ytimkbadjcdnjjaa.scanTells
open Go.RowKit law bytes only flat nums ord obj metric scan
open hit (Hit hv hv_length lt Rises sortH sortH_length)
open best (keep)
open Go.ChangeShapes Go.WideShapes Go.Deep Go.ChangeAt
set_option linter.unusedVariables false
set_option maxRecDepth 100000

/-- what the law calls, of things that are short -/
structure Law (w : World) (d : Dat) (g : Nat) (Aa : Option Addr) (ca : Nat) (all : List Hit) (L N2 N3 : Nat) (j1 j2 j3 : Int) : Prop where
  f_k1 : IntKind.i64.wrap (2 * (L : Int)) = j2
  f_k2 : IntKind.i64.wrap (3 * (L : Int)) = j3
  f_k0 : j1 = (L : Int)
  f_rd : ∀ W j, St w W d g j Aa all → Rd W w.heap.size d
  f_all : ∀ W, St w W d g 0 Aa all → Calls Try.prog 11 #[.pointer (some ⟨g, 0, none⟩), .slice d.A L d.c, .agg #[.int .i64 d.q.x.tag, .slice d.q.a d.q.x.vec.length d.q.c, .string d.q.x.str]] W fun e w' => ∃ A2 c2, e = .returned (.slice A2 L c2) ∧ St2 w w' d g j1 Aa all A2 Aa all
  f_same1 : ∀ A2 c2 W, St2 w W d g j1 Aa all A2 Aa all → Calls Try.prog 10 #[.slice A2 L c2, .slice Aa L ca] W fun e w' => e = .returned (.bool true) ∧ St w w' d g j1 Aa all
  f_range : ∀ W, St w W d g j1 Aa all → Calls Try.prog 13 #[.pointer (some ⟨g, 0, none⟩), .slice d.A L d.c, .agg #[.int .i64 d.q.x.tag, .slice d.q.a d.q.x.vec.length d.q.c, .string d.q.x.str], .int .i64 d.r] W fun e w' => ∃ A2 c2, e = .returned (.slice A2 N2 c2) ∧ St1 w w' d g j2 Aa all A2 (near d.r all)
  f_within : ∀ A2 W, St1 w W d g j2 Aa all A2 (near d.r all) → Calls Try.prog 14 #[.slice Aa L ca, .int .i64 d.r] W fun e w' => ∃ A3 c3, e = .returned (.slice A3 N2 c3) ∧ St2 w w' d g j2 Aa all A2 A3 (near d.r all)
  f_same2 : ∀ A2 A3 c2 c3 W, St2 w W d g j2 Aa all A2 A3 (near d.r all) → Calls Try.prog 10 #[.slice A2 N2 c2, .slice A3 N2 c3] W fun e w' => e = .returned (.bool true) ∧ St w w' d g j2 Aa all
  f_near : ∀ W, St w W d g j2 Aa all → Calls Try.prog 15 #[.pointer (some ⟨g, 0, none⟩), .slice d.A L d.c, .agg #[.int .i64 d.q.x.tag, .slice d.q.a d.q.x.vec.length d.q.c, .string d.q.x.str], .int .i64 d.kk] W fun e w' => ∃ A2 c2, e = .returned (.slice A2 N3 c2) ∧ St1 w w' d g j3 Aa all A2 (all.take d.kk.toNat)
  f_first : ∀ A2 W, St1 w W d g j3 Aa all A2 (all.take d.kk.toNat) → Calls Try.prog 16 #[.slice Aa L ca, .int .i64 d.kk] W fun e w' => ∃ A3 c3, e = .returned (.slice A3 N3 c3) ∧ St2 w w' d g j3 Aa all A2 A3 (all.take d.kk.toNat)
  f_same3 : ∀ A2 A3 c2 c3 W, St2 w W d g j3 Aa all A2 A3 (all.take d.kk.toNat) → Calls Try.prog 10 #[.slice A2 N3 c2, .slice A3 N3 c3] W fun e w' => e = .returned (.bool true) ∧ St w w' d g j3 Aa all
  f_calls : ∀ j W, St w W d g j Aa all → Calls Try.prog 12 #[.pointer (some ⟨g, 0, none⟩)] W fun e w' => e = .returned (.int .i64 j) ∧ St w w' d g j Aa all
  f_lives : ∀ W, St w W d g j3 Aa all → Calls Try.prog 7 #[] W fun e w' => e = .returned (.bool true) ∧ St w w' d g j3 Aa all
theorem law_of {w : World} {d : Dat} (hy : Hyp w d) (hl : d.l.length ≤ 60) (hs : (∀ p ∈ d.l, Small p.2.x) ∧ Small d.q.x) (g : Nat) (Aa : Option Addr) (ca : Nat) :
    ∃ N2 N3 j1 j2 j3, Law w d g Aa ca (sortH (hitsOf d.n d.l d.q.x)) d.l.length N2 N3 j1 j2 j3 := by
  have hlen : (sortH (hitsOf d.n d.l d.q.x)).length = d.l.length := by rw [sortH_length, hitsOf_length]
  have hn2 : (scan.near d.r (sortH (hitsOf d.n d.l d.q.x))).length ≤ d.l.length := by rw [← hlen]; exact near_le _ _
  have hn3 : ((sortH (hitsOf d.n d.l d.q.x)).take d.kk.toNat).length ≤ d.l.length := by rw [← hlen]; rw [List.length_take]; omega
  refine ⟨_, _, (d.l.length : Int), (d.l.length : Int) + (d.l.length : Int), (d.l.length : Int) + (d.l.length : Int) + (d.l.length : Int), ?_, ?_, rfl, fun W j h => h.rd, fun W h => ?_, fun A2 c2 W h => ?_, fun W h => ?_, fun A2 W h => ?_, fun A2 A3 c2 c3 W h => h.same rfl c2 c3 (by omega), fun W h => ?_, fun A2 W h => ?_, fun A2 A3 c2 c3 W h => h.same rfl c2 c3 (by omega), fun j W h => h.calls, fun W h => ?_⟩
  · rw [IntKind.wrap_i64]; omega
  · rw [IntKind.wrap_i64]; omega
  · refine (all_any W _ _ d.n 0 d.A d.c d.l d.q (h.fit hy hs (by omega) (by omega)) (by omega)).mono fun e w' hr => ?_
    obtain ⟨A2, c2, he, h1⟩ := h.scans hlen hr (by omega : (d.l.length : Int) = 0 + (d.l.length : Int))
    exact ⟨A2, c2, he, h1, h1.1.row.sl⟩
  · exact h.same hlen c2 ca (by omega)
  · refine (range_any W _ _ d.n _ d.A d.c d.l d.q d.r (h.fit hy hs (by omega) (by omega)) (by omega)).mono fun e w' hr => ?_
    rw [show nearX (some ⟨g, 0, none⟩) d.r (hitsOf d.n d.l d.q.x) = scan.near d.r (hitsOf d.n d.l d.q.x) from rfl, near_sort] at hr
    exact h.scans rfl hr rfl
  · have h2 := within_any Aa (sortH (hitsOf d.n d.l d.q.x)) ca _ d.r W (by omega) (Nat.le_refl _) h.1.row.sl
    rw [hlen] at h2
    exact h2.mono fun e w' hr => h.own rfl hr
  · exact (near_any W _ _ d.n _ d.A d.c d.l d.q d.kk (h.fit hy hs (by omega) (by omega)) (by omega)).mono fun e w' hr => h.scans rfl hr rfl
  · have h2 := best.first_any Aa (sortH (hitsOf d.n d.l d.q.x)) ca _ d.kk W (by omega) (Nat.le_refl _) h.1.row.sl
    rw [hlen] at h2
    exact h2.mono fun e w' hr => h.own rfl hr
  · exact h.lives
set_option maxHeartbeats 6400000 in
theorem walk (d : Dat) (w : World) (hy : Hyp w d) : Calls Try.prog 3 #[.agg (aC d)] w (Gives (.bool true) w) := by
  have hk1 : Blk (w.alloc (.cells (aC d) 27)) w.heap.size 27 (aC d) := Blk.new w _ _
  have hb1 : Below w.heap.size w (w.alloc (.cells (aC d) 27)) := (Below.refl _ _).alloc (Nat.le_refl _) _
  have hz1 : (w.alloc (.cells (aC d) 27)).heap.size = w.heap.size + 1 := by simp
  have hlit := Sl.lit (w.alloc (.cells (aC d) 27)) (ocs [d.q]) 25
  have hb2 := hb1.alloc hb1.size (.cells (ocs [d.q]).toArray 25)
  have hk2 := hk1.alloc (.cells (ocs [d.q]).toArray 25)
  have hsh := rshorts_any d.A (some ⟨(w.alloc (.cells (aC d) 27)).heap.size, 0, none⟩) d.l [d.q] 60 40 d.c 1 _ ((w.alloc (.cells (aC d) 27)).alloc (.cells (ocs [d.q]).toArray 25)) ((hy.its.below hb2).more hb2.size) (Nat.le_refl _) hlit (by have := hy.len; unfold maxLen at this; omega) (by simp)
  rw [hz1] at hsh
  obtain ⟨s, hs⟩ : ∃ s, shortR 60 40 d.l [d.q] = s := ⟨_, rfl⟩
  rw [hs] at hsh
  have hrd := rd_of hk1
  unfold Rd at hrd
  obtain ⟨r0, r1, r2, r3, r4, r5, r6⟩ := hrd
  have HPRE : Hid (∀ W, Below ((w.alloc (.cells (aC d) 27)).alloc (.cells (ocs [d.q]).toArray 25)).heap.size ((w.alloc (.cells (aC d) 27)).alloc (.cells (ocs [d.q]).toArray 25)) W → Blk W w.heap.size 27 (aC d) ∧ Below w.heap.size w W) := Lib.hid fun W hW => ⟨hk2.below hW hk2.lt, hb2.trans (hW.mono hb2.size)⟩
  have HSH := Lib.hid hsh
  have HY := Lib.hid hy
  have HS := Lib.hid hs
  clear hk1 hb1 hz1 hlit hb2 hk2 hsh hy hs
  unfold aC at *
  unfold ocs oc at HSH HPRE
  simp only [List.flatMap_cons, List.flatMap_nil, List.append_nil] at HSH HPRE
  go_enter Try.func3, Try.ntmps3
  go_wp2_with (fail)
  refine HSH.out.mono ?_
  rintro e w1 ⟨rfl, hb⟩
  have HP1 := Lib.hid (HPRE.out w1 hb)
  clear HSH HPRE hb r0 r1 r2 r3 r4 r5 r6
  cases s with
  | false =>
    have HL := Lib.hid (lives_any w1)
    go_wp2_with (fail)
    refine HL.out.mono ?_
    rintro e w2 ⟨rfl, hb2⟩
    have HE := Lib.hid (HP1.out.2.trans (hb2.mono HP1.out.2.size))
    clear HL hb2
    go_wp2_with (fail)
    go_ret
    exact ⟨rfl, HE.out⟩
  | true =>
    have hsm := shortR_of HS.out
    have hl60 : d.l.length ≤ 60 := by omega
    have hss : (∀ p ∈ d.l, Small p.2.x) ∧ Small d.q.x := ⟨fun p hp => small_40 (hsm.2.1 p hp) (by decide) (HY.out.ok.1 p hp), small_40 (hsm.2.2 d.q (by simp)) (by decide) HY.out.ok.2⟩
    obtain ⟨al, hal⟩ : ∃ al, al = sortH (hitsOf d.n d.l d.q.x) := ⟨_, rfl⟩
    have HLAW : Hid (∀ g Aa ca, ∃ N2 N3 j1 j2 j3, Law w d g Aa ca al d.l.length N2 N3 j1 j2 j3) := Lib.hid fun g Aa ca => by rw [hal]; exact law_of HY.out hl60 hss g Aa ca
    have hbx := HP1.out.1
    have HN : Hid (Calls Try.prog 8 #[.int .i64 d.n] w1 fun e w2 => ∃ g, e = .returned (.pointer (some ⟨g, 0, none⟩)) ∧ Rd w2 w.heap.size d ∧ Hid (Calls Try.prog 9 #[.int .i64 d.n, .slice d.A d.l.length d.c, .agg #[.int .i64 d.q.x.tag, .slice d.q.a d.q.x.vec.length d.q.c, .string d.q.x.str]] w2 fun e w3 => ∃ Aa ca, e = .returned (.slice Aa d.l.length ca) ∧ St w w3 d g 0 Aa al)) :=
      Lib.hid ((new_any d.n w1).mono fun e w2 ⟨he, hm, hb⟩ => ⟨w1.heap.size, he, rd_of (hbx.below hb hbx.lt), Lib.hid (by
        have hb2 : Below w.heap.size w w2 := HP1.out.2.trans (hb.mono HP1.out.2.size)
        have hlen : (sortH (hitsOf d.n d.l d.q.x)).length = d.l.length := by rw [sortH_length, hitsOf_length]
        refine (rall_any w2 w.heap.size d.n d.A d.c d.l d.q (HY.out.its.below hb2) (HY.out.qs.below hb2) hb2.size hss (by omega)).mono fun e w3 ⟨Aa, ca, he, ho, hb3⟩ => ⟨Aa, ca, by rw [he, hlen], ?_⟩
        have hg : w1.heap.size < w2.heap.size := hm.lt
        refine ⟨(hbx.below hb hbx.lt).below hb3 (Nat.lt_of_lt_of_le hbx.lt hb.size), hb2.trans (hb3.mono hb2.size), .inl ⟨_, rfl, hm.below hb3 hg⟩, hbx.lt, ?_⟩
        rw [hal]
        exact Away.made (by decide) ho fun i hi => by rw [← (tk_some _ i).1 hi]; exact hg)⟩)
    have hrd := rd_of hbx
    unfold Rd at hrd
    obtain ⟨r0, r1, r2, r3, r4, r5, r6⟩ := hrd
    clear hbx hss hl60 hsm hal
    go_wp2_with (fail)
    refine HN.out.mono ?_
    rintro e w2 ⟨g, rfl, ⟨r0, r1, r2, r3, r4, r5, r6⟩, HAL⟩
    clear HN HP1
    go_wp2_with (fail)
    refine HAL.out.mono ?_
    rintro e w3 ⟨Aa, ca, rfl, hq⟩
    obtain ⟨N2, N3, j1, j2, j3, hlaw⟩ := HLAW.out g Aa ca
    have H := Lib.hid hlaw
    clear HAL HLAW hlaw r0 r1 r2 r3 r4 r5 r6
    have hrd := H.out.f_rd w3 0 hq
    unfold Rd at hrd
    obtain ⟨r0, r1, r2, r3, r4, r5, r6⟩ := hrd
    have m1 := H.out.f_k1
    have m2 := H.out.f_k2
    have m0 := H.out.f_k0
    subst m0
    have e1 : ((d.l.length : Int) != (d.l.length : Int)) = false := by simp
    have e2 : (j2 != j2) = false := by simp
    have e3 : (j3 == j3) = true := by simp
    go_wp2_with (fail)
    go_region_held3 (fun W => W.cell? ⟨w.heap.size, 0, none⟩ = some (.int .i64 d.n) ∧ W.cell? ⟨w.heap.size, 1, none⟩ = some (.slice d.A d.l.length d.c) ∧ W.cell? ⟨w.heap.size, 2, none⟩ = some (.int .i64 d.q.x.tag) ∧ W.cell? ⟨w.heap.size, 3, none⟩ = some (.slice d.q.a d.q.x.vec.length d.q.c) ∧ W.cell? ⟨w.heap.size, 4, none⟩ = some (.string d.q.x.str) ∧ W.cell? ⟨w.heap.size, 5, none⟩ = some (.int .i64 d.r) ∧ W.cell? ⟨w.heap.size, 6, none⟩ = some (.int .i64 d.kk))
      ((first
            | (refine H.out.f_rd _ 0 ?_; (repeat' (first | (with_reducible assumption) | (with_reducible refine St.drew ?_) | (with_reducible refine St.drewN ?_ _))); done)
            | (refine H.out.f_rd _ (d.l.length : Int) ?_; (repeat' (first | (with_reducible assumption) | (with_reducible refine St.drew ?_) | (with_reducible refine St.drewN ?_ _))); done)))
      (first
        | (go_at_call 11; (with_reducible refine (H.out.f_all _ (by (repeat' (first | (with_reducible assumption) | (with_reducible refine St.drew ?_) | (with_reducible refine St.drewN ?_ _))))).mono ?_); rintro e wx ⟨A2, c2, rfl, hq2⟩; have hq1 := hq2.1.1)
        | (go_at_call 10; (with_reducible refine (H.out.f_same1 A2 c2 _ (by (repeat' (first | (with_reducible assumption) | (with_reducible refine St2.drew ?_) | (with_reducible refine St2.drewN ?_ _))))).mono ?_); rintro e wx ⟨rfl, hq3⟩)
        | (go_at_call 12; (with_reducible refine (H.out.f_calls _ _ (by (repeat' (first | (with_reducible assumption) | (with_reducible refine St.drew ?_) | (with_reducible refine St.drewN ?_ _))))).mono ?_); rintro e wx ⟨rfl, hq4⟩))
    clear r0 r1 r2 r3 r4 r5 r6
    have HQ := Lib.hid hq4
    clear hq hq1 hq2 hq3 hq4
    have hq := HQ.out
    clear HQ
    obtain ⟨r0, r1, r2, r3, r4, r5, r6⟩ := H.out.f_rd _ _ hq
    go_wp2_with (fail)
    go_region_held3 (fun W => W.cell? ⟨w.heap.size, 0, none⟩ = some (.int .i64 d.n) ∧ W.cell? ⟨w.heap.size, 1, none⟩ = some (.slice d.A d.l.length d.c) ∧ W.cell? ⟨w.heap.size, 2, none⟩ = some (.int .i64 d.q.x.tag) ∧ W.cell? ⟨w.heap.size, 3, none⟩ = some (.slice d.q.a d.q.x.vec.length d.q.c) ∧ W.cell? ⟨w.heap.size, 4, none⟩ = some (.string d.q.x.str) ∧ W.cell? ⟨w.heap.size, 5, none⟩ = some (.int .i64 d.r) ∧ W.cell? ⟨w.heap.size, 6, none⟩ = some (.int .i64 d.kk))
      ((first
            | (refine H.out.f_rd _ (d.l.length : Int) ?_; (repeat' (first | (with_reducible assumption) | (with_reducible refine St.drew ?_) | (with_reducible refine St.drewN ?_ _))); done)
            | (refine H.out.f_rd _ j2 ?_; (repeat' (first | (with_reducible assumption) | (with_reducible refine St.drew ?_) | (with_reducible refine St.drewN ?_ _))); done)))
      (first
        | (go_at_call 13; (with_reducible refine (H.out.f_range _ (by (repeat' (first | (with_reducible assumption) | (with_reducible refine St.drew ?_) | (with_reducible refine St.drewN ?_ _))))).mono ?_); rintro e wx ⟨A5, c5, rfl, hq5⟩; have hq6 := hq5.1)
        | (go_at_call 14; (with_reducible refine (H.out.f_within A5 _ (by (repeat' (first | (with_reducible assumption) | (with_reducible refine St1.drew ?_) | (with_reducible refine St1.drewN ?_ _))))).mono ?_); rintro e wx ⟨A6, c6, rfl, hq7⟩; have hq8 := hq7.1.1)
        | (go_at_call 10; (with_reducible refine (H.out.f_same2 A5 A6 c5 c6 _ (by (repeat' (first | (with_reducible assumption) | (with_reducible refine St2.drew ?_) | (with_reducible refine St2.drewN ?_ _))))).mono ?_); rintro e wx ⟨rfl, hq9⟩)
        | (go_at_call 12; (with_reducible refine (H.out.f_calls _ _ (by (repeat' (first | (with_reducible assumption) | (with_reducible refine St.drew ?_) | (with_reducible refine St.drewN ?_ _))))).mono ?_); rintro e wx ⟨rfl, hqa⟩))
    clear r0 r1 r2 r3 r4 r5 r6
    have HQ := Lib.hid hqa
    clear hq hq5 hq6 hq7 hq8 hq9 hqa
    have hq := HQ.out
    clear HQ
    obtain ⟨r0, r1, r2, r3, r4, r5, r6⟩ := H.out.f_rd _ _ hq
    go_wp2_with (fail)
    go_region_held3 (fun W => W.cell? ⟨w.heap.size, 0, none⟩ = some (.int .i64 d.n) ∧ W.cell? ⟨w.heap.size, 1, none⟩ = some (.slice d.A d.l.length d.c) ∧ W.cell? ⟨w.heap.size, 2, none⟩ = some (.int .i64 d.q.x.tag) ∧ W.cell? ⟨w.heap.size, 3, none⟩ = some (.slice d.q.a d.q.x.vec.length d.q.c) ∧ W.cell? ⟨w.heap.size, 4, none⟩ = some (.string d.q.x.str) ∧ W.cell? ⟨w.heap.size, 5, none⟩ = some (.int .i64 d.r) ∧ W.cell? ⟨w.heap.size, 6, none⟩ = some (.int .i64 d.kk))
      ((first
            | (refine H.out.f_rd _ j2 ?_; (repeat' (first | (with_reducible assumption) | (with_reducible refine St.drew ?_) | (with_reducible refine St.drewN ?_ _))); done)
            | (refine H.out.f_rd _ j3 ?_; (repeat' (first | (with_reducible assumption) | (with_reducible refine St.drew ?_) | (with_reducible refine St.drewN ?_ _))); done)))
      (first
        | (go_at_call 15; (with_reducible refine (H.out.f_near _ (by (repeat' (first | (with_reducible assumption) | (with_reducible refine St.drew ?_) | (with_reducible refine St.drewN ?_ _))))).mono ?_); rintro e wx ⟨A5, c5, rfl, hq5⟩; have hq6 := hq5.1)
        | (go_at_call 16; (with_reducible refine (H.out.f_first A5 _ (by (repeat' (first | (with_reducible assumption) | (with_reducible refine St1.drew ?_) | (with_reducible refine St1.drewN ?_ _))))).mono ?_); rintro e wx ⟨A6, c6, rfl, hq7⟩; have hq8 := hq7.1.1)
        | (go_at_call 10; (with_reducible refine (H.out.f_same3 A5 A6 c5 c6 _ (by (repeat' (first | (with_reducible assumption) | (with_reducible refine St2.drew ?_) | (with_reducible refine St2.drewN ?_ _))))).mono ?_); rintro e wx ⟨rfl, hq9⟩)
        | (go_at_call 12; (with_reducible refine (H.out.f_calls _ _ (by (repeat' (first | (with_reducible assumption) | (with_reducible refine St.drew ?_) | (with_reducible refine St.drewN ?_ _))))).mono ?_); rintro e wx ⟨rfl, hqa⟩)
        | (go_at_call 7; (with_reducible refine (H.out.f_lives _ (by (repeat' (first | (with_reducible assumption) | (with_reducible refine St.drew ?_) | (with_reducible refine St.drewN ?_ _))))).mono ?_); rintro e wx ⟨rfl, hqb⟩))
    have HE := Lib.hid hqb.low
    clear hqb
    go_wp2_with (fail)
    go_ret
    exact ⟨rfl, HE.out⟩

theorem lifted (os : Os) (started : os.Started) (H : Type) (enc : TypeId × Value → H) :
    ReturnsInHanded {} Try.checked os 3 .any (Rows.scanTellsSpec.pre6 enc Try.prog Try.f3 Rows.scanTellsRow.domain false) (Rows.scanTellsSpec.post enc Try.prog Try.f3 false true false false) := by
  refine lift (C := Try.checked) (by kernel_rfl) started (by kernel_rfl) Try.func3 rfl (by kernel_rfl) (by kernel_rfl) rfl Try.underlying4
    (fun ds hd => by match ds, hd with | [_], _ => exact ⟨rfl, rfl, rfl⟩)
    (ChangeSpec.witness6 (enc := enc) (C := Try.checked) false ⟨#[], #[.agg #[.int .i64 0, .slice none 0 0, .int .i64 0, .slice none 0 0, .string ⟨#[]⟩, .int .i64 0, .int .i64 0]], []⟩ 8 (by kernel_rfl) (by kernel_rfl) (by kernel_rfl) (by kernel_rfl)) ?_
  intro W base args ds before hval0 hA0 hfz hsz0
  have hval : ∀ (j : Nat) t v, Try.f3.params[j]? = some t → args[j]? = some v → Value.okWide Try.prog W .any base t v := hval0
  have hA : DataW.TrodAll enc Try.prog W 0 (fun _ => true) true Try.f3.params.toList args.toList ds before := hA0
  have hsz : (DataW.weightsEach Try.prog Try.f3.params.toList ds).all (· ≤ reachBytes) = true := hsz0
  rw [Try.params3] at hA hval hsz
  obtain ⟨v0, vs0, d0, ds0, p0, q0, hargs, rfl, rfl, h0, r0⟩ := trodAll_cons hA
  obtain ⟨rfl, rfl, rfl⟩ := trodAll_nil r0
  obtain rfl : args = #[v0] := by cases args; simp_all
  obtain ⟨a, rfl, hy⟩ := open_ask (hval 0 27 v0 rfl rfl) h0
  exact walk a W hy

theorem proved : Rows.ScanTellsSaid :=
  OpenClaim.holds_of_wide 3 Try.f3 rfl rfl rfl rfl rfl rfl rfl ⟨rfl, rfl, rfl, rfl, rfl⟩ rfl rfl rfl rfl rfl (by kernel_rfl) Try.func3 (by kernel_rfl)
    (of_decide_eq_true (by kernel_rfl)) (by unfold Func.isWrapper; first | (rw [if_pos (by decide +kernel)]; kernel_rfl) | (rw [if_neg (by decide +kernel)]; exact ⟨rfl, rfl⟩))
    (fun os started H enc _ => lifted os started H enc)
#print axioms proved
end Go.Proofs.Ytimkbadjcdnjjaa.scanTells
