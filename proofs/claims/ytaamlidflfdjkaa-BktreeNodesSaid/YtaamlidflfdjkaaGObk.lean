/-
  Several texts in one.
-/
import Derived.Test.YtaamlidflfdjkaaGObj
import Derived.Test.YtaamlidflfdjkaaShelf
/-
  The contracts of object.Cmp, object.Clone, and the document's own order.
-/
namespace Go.Proofs.Ytaamlidflfdjkaa.obj
open Go.RowKit law bytes nums ord
set_option linter.unusedVariables false

theorem int32E : Elem Try.prog 21 (.int .i32 0) 4 := elem_mk (by kernel_rfl) rfl
theorem sclone_any (s : ByteArray) (w : World) (hl : s.size ≤ 281474976710656) : Calls Try.prog 40 #[.string s] w (Gives (.string s) w) := by
  have h := Try.stringslite_Clone s w hl
  go_enter Try.func40, Try.ntmps40
  go_wp2_with (go_at_call 45; (with_reducible refine h.mono ?_); rintro e w' ⟨rfl, hb⟩)
  go_ret
  exact ⟨rfl, hb⟩
theorem vclone_any (A : Option Addr) (l : List Int) (c B : Nat) (w : World) (hm : l.length * 4 ≤ 140737488355328) (hB : B ≤ w.heap.size) (hs : Sl w B A (iv l)) :
    Calls Try.prog 39 #[.slice A l.length c] w (Made 21 (iv l) w) := by
  have heq := fun (W : World) (a : Option Addr) (n c : Nat) => Lib.run_eql_slice_nil (P := Try.prog) W 34 21 a n c 0 0 Try.underlying34
  rcases A with _ | a
  · obtain rfl : l = [] := by
      rcases l with _ | ⟨x, r⟩
      · rfl
      · obtain ⟨ad, h, _⟩ := hs 0 _ rfl
        cases h
    go_enter Try.func39, Try.ntmps39
    go_wp2
    go_ret
    exact ⟨none, 0, rfl, World.ownsRow_nil _ _ _ _, Below.refl _ _⟩
  · go_enter Try.func39, Try.ntmps39
    go_wp2_with (first
      | (at_builtin
         refine wpList_append_sl _ rfl (.tmp 5) (.tmp 6) _ rfl w.heap.size 21 _ 4 Try.underlying34 int32E (.slice (some ⟨w.heap.size, 0, none⟩) 0 0) 0 [] rfl (World.ownsRow_lit w #[] 0 (Nat.le_refl _) (by unfold maxLen; omega) rfl) _ (some a) l.length c (iv l) rfl (hs.alloc hB _) (iv_length _) (iv_one _) (by omega) (by unfold maxLen; omega) (by simp) ?_
         intro v1 w1 hown1 hg1 hat1
         have hb1 : Below w.heap.size w w1 := ((Below.refl _ w).alloc (Nat.le_refl _) _).grown hg1 (by simp) (by simp [Value.ownBlock])
         simp only [Nat.zero_add, List.nil_append] at hown1
         obtain ⟨A1, c1, rfl, hc1⟩ := own_slice hown1))
    go_ret
    exact Made.mk hown1 rfl hb1

end Go.Proofs.Ytaamlidflfdjkaa.obj
/-
  The contracts of the document's own order of things, and of object.Clone.
-/
namespace Go.Proofs.Ytaamlidflfdjkaa.obj
open Go.RowKit law bytes nums ord
set_option linter.unusedVariables false

theorem less_str (a b : ByteArray) : Op.bytesLess a.toList b.toList = decide (cmpL cmpC (tl a) (tl b) < 0) := by
  rw [less_lib, Lib.toList_data, Lib.toList_data]
  rfl
set_option maxHeartbeats 1600000 in
theorem less_any (A A' : Option Addr) (c c' B B' : Nat) (x y : Thing) (w : World) (hx : x.vec.length ≤ 281474976710656) (hB : B ≤ w.heap.size) (hB' : B' ≤ w.heap.size) (hs : Sl w B A (iv x.vec)) (hs' : Sl w B' A' (iv y.vec)) :
    Calls Try.prog 38 #[.agg #[.int .i64 x.tag, .slice A x.vec.length c, .string x.str], .agg #[.int .i64 y.tag, .slice A' y.vec.length c', .string y.str]] w (Gives (.bool (lessO x y)) w) := by
  have hO : cmpO x y = thn (cmpI x.tag y.tag) (thn (cmpN x.vec.length y.vec.length) (thn (cmpL cmpI x.vec y.vec) (cmpL cmpC (tl x.str) (tl y.str)))) := rfl
  have hI : ∀ a b : Int, cmpI a b = if a < b then -1 else if a > b then 1 else 0 := fun _ _ => rfl
  obtain ⟨hb, hba, hbb⟩ := two_box w 36 #[.int .i64 x.tag, .slice A x.vec.length c, .string x.str] #[.int .i64 y.tag, .slice A' y.vec.length c', .string y.str]
  by_cases z1 : x.tag = y.tag
  case neg =>
    have hR : lessO x y = decide (x.tag < y.tag) := by
      unfold lessO
      rw [hO]; unfold thn
      rw [if_neg (fun h => z1 ((cmpI_tot.zero _ _).1 h)), hI]
      by_cases h : x.tag < y.tag
      · simp [h]
      · have : x.tag > y.tag := by omega
        simp [h, this]
    have d : (x.tag == y.tag) = false := by simpa using z1
    have d' : (x.tag != y.tag) = true := by simpa using z1
    have HR := Lib.hid hR
    clear hR hO z1 hba hbb
    go_enter Try.func38, Try.ntmps38
    go_wp2_with (fail)
    go_ret
    rw [HR.out]
    exact ⟨rfl, hb⟩
  rw [(cmpI_tot.zero _ _).2 z1] at hO
  have e1 : (x.tag == y.tag) = true := by simpa using z1
  have e1' : (x.tag != y.tag) = false := by simpa using z1
  clear z1
  by_cases z2 : x.vec.length = y.vec.length
  case neg =>
    have hR : lessO x y = decide (x.vec.length < y.vec.length) := by
      unfold lessO
      rw [hO]; unfold thn
      rw [if_pos rfl, if_neg (fun h => z2 ((cmpN_tot.zero _ _).1 h))]
      unfold cmpN
      rw [hI]
      by_cases h : x.vec.length < y.vec.length
      · have : (x.vec.length : Int) < (y.vec.length : Int) := by omega
        simp [h]
      · have : (x.vec.length : Int) > (y.vec.length : Int) := by omega
        simp [h]
        omega
    have hR' : lessO x y = decide ((x.vec.length : Int) < (y.vec.length : Int)) := by rw [hR]; simp
    have d : ((x.vec.length : Int) == (y.vec.length : Int)) = false := by simp; omega
    have d' : ((x.vec.length : Int) != (y.vec.length : Int)) = true := by simp; omega
    have HR := Lib.hid hR
    have HR' := Lib.hid hR'
    clear hR hR' hO z2 hba hbb
    go_enter Try.func38, Try.ntmps38
    go_wp2_with (fail)
    go_ret
    exact ⟨by first | (rw [HR'.out]; rfl) | (rw [HR.out]; rfl), hb⟩
  rw [(cmpN_tot.zero _ _).2 z2] at hO
  have hO : cmpO x y = thn (cmpL cmpI x.vec y.vec) (cmpL cmpC (tl x.str) (tl y.str)) := by rw [hO]; unfold thn; rw [if_pos rfl, if_pos rfl]
  rw [← z2] at hb hba hbb ⊢
  have HL := Lib.hid z2
  clear z2
  have hls := less_str x.str y.str
  have HLS := Lib.hid hls
  clear hls
  have hs1 : Sl ((w.alloc (.cells #[.int .i64 x.tag, .slice A x.vec.length c, .string x.str] 36)).alloc (.cells #[.int .i64 y.tag, .slice A' x.vec.length c', .string y.str] 36)) B A (iv x.vec) := (hs.alloc hB _).alloc (by simp; omega) _
  have hs2 : Sl ((w.alloc (.cells #[.int .i64 x.tag, .slice A x.vec.length c, .string x.str] 36)).alloc (.cells #[.int .i64 y.tag, .slice A' x.vec.length c', .string y.str] 36)) B' A' (iv y.vec) := (hs'.alloc hB' _).alloc (by simp; omega) _
  have HO := Lib.hid hO
  clear hO
  go_enter Try.func38, Try.ntmps38
  go_wp2_with (fail)
  obtain ⟨V, hV⟩ : ∃ V, V = ((w.alloc (.cells #[.int .i64 x.tag, .slice A x.vec.length c, .string x.str] 36)).alloc (.cells #[.int .i64 y.tag, .slice A' x.vec.length c', .string y.str] 36)) := ⟨_, rfl⟩
  rw [← hV] at hs1 hs2 hb hba hbb ⊢
  have HB := Lib.hid hb
  clear hV hs hs' hB hB' hb
  obtain ⟨c0, c1, c2, cf⟩ := cells3 hba
  obtain ⟨d0, d1, d2, df⟩ := cells3 hbb
  generalize w.heap.size = g at hba hbb c0 c1 c2 cf d0 d1 d2 df ⊢
  go_loopw [5] (fun i wr => ∃ k j : Nat, k ≤ x.vec.length ∧ i = .int .i64 k ∧ Alike x.vec y.vec k ∧ wr = V.drewN j) (fun i _ => x.vec.length - (intOf i).toNat)
  case atStart => exact ⟨0, 0, Nat.zero_le _, rfl, Alike.zero, rfl⟩
  case round =>
    obtain ⟨k, j, hk, rfl, HT, rfl⟩ := hrel
    by_cases hlt : k < x.vec.length
    · have hlm : k < y.vec.length := by have := HL.out; omega
      obtain ⟨ad, rfl, -, hc⟩ := Sl.num hs1 hlt
      obtain ⟨ad', rfl, -, hc'⟩ := Sl.num hs2 hlm
      by_cases he : x.vec[k] = y.vec[k]
      · have HE := Lib.hid he
        rw [← he] at hc'
        clear he hs1 hs2
        go_wp2
        go_quiet (fail)
        go_wp2
        go_roundw
        case rel => exact ⟨k + 1, _, by omega, by go_num, HT.step hlt hlm HE.out, rfl⟩
        case measure => simp [intOf]; omega
      · have hne : cmpI x.vec[k] y.vec[k] ≠ 0 := fun h => he ((cmpI_tot.zero _ _).1 h)
        have hR : lessO x y = decide (x.vec[k] < y.vec[k]) := by
          unfold lessO
          rw [HO.out]; unfold thn
          rw [cmpL_at cmpI_tot _ _ k hlt hlm HT hne, if_neg hne, hI]
          by_cases h : x.vec[k] < y.vec[k]
          · simp [h]
          · have : x.vec[k] > y.vec[k] := by omega
            simp [h, this]
        have h1 : (x.vec[k] == y.vec[k]) = false := by simpa using he
        have h2 : (x.vec[k] != y.vec[k]) = true := by simpa using he
        have HR := Lib.hid hR
        clear he hs1 hs2 hne hR
        go_wp2
        go_quiet (fail)
        go_wp2
        go_quiet (fail)
        go_wp2
        go_ret
        rw [HR.out]
        exact ⟨rfl, below_drewN' (below_drewN' (below_drewN' HB.out _) _) _⟩
    · have hR : lessO x y = decide (cmpL cmpC (tl x.str) (tl y.str) < 0) := by
        unfold lessO
        rw [HO.out]; unfold thn
        rw [if_pos (((cmpL_tot cmpI_tot).zero _ _).2 (HT.all HL.out.symm (by omega)))]
      have HR := Lib.hid hR
      clear hR
      go_wp2
      go_ret
      rw [HR.out, HLS.out]
      exact ⟨rfl, below_drewN' HB.out _⟩
end Go.Proofs.Ytaamlidflfdjkaa.obj
/-
  The contracts of object.Clone and of the document's own Same.
-/
namespace Go.Proofs.Ytaamlidflfdjkaa.obj
open Go.RowKit law bytes nums ord
set_option linter.unusedVariables false

theorem own_base {w : World} {base base' : Nat} {e : TypeId} {size n : Nat} {v : Value} {xs : List Value} (h : w.ownsRow base' e size v n xs) (hb : base ≤ base') : w.ownsRow base e size v n xs := by
  refine ⟨h.1, ?_⟩
  rcases h.2 with hn | ⟨g, cap, cur, hv, hg, rest⟩
  · exact .inl hn
  · exact .inr ⟨g, cap, cur, hv, Nat.le_trans hb hg, rest⟩
theorem on' {P : Program} {f : FuncId} {args : Array Value} {V W : World} {v : Value} (hb : Below V.heap.size V W) (h : Calls P f args W (Gives v W)) : Calls P f args W fun e w' => e = .returned v ∧ Below W.heap.size W w' ∧ Below V.heap.size V w' :=
  h.mono fun e w' ⟨he, h2⟩ => ⟨he, h2, hb.trans (h2.mono hb.size)⟩
theorem made_on {P : Program} {f : FuncId} {args : Array Value} {V W : World} {t : TypeId} {xs : List Value} {n : Nat} (hb : Below V.heap.size V W) (hn : xs.length = n) (h : Calls P f args W (Made t xs W)) :
    Calls P f args W fun e w' => ∃ A c, e = .returned (.slice A n c) ∧ w'.ownsRow V.heap.size t 1 (.slice A n c) n xs ∧ Below V.heap.size V w' := by
  subst hn
  exact h.mono fun e w' ⟨A, c, he, ho, h2⟩ => ⟨A, c, he, own_base ho hb.size, hb.trans (h2.mono hb.size)⟩
theorem Below.three {B : Nat} {w V : World} (h : Below B w V) {b : Nat} (hb : B ≤ b) (u0 u1 u2 : Value) : Below B w (((V.setCell ⟨b, 0, none⟩ u0).setCell ⟨b, 1, none⟩ u1).setCell ⟨b, 2, none⟩ u2) :=
  ((h.setCell (p := ⟨b, 0, none⟩) hb u0).setCell (p := ⟨b, 1, none⟩) hb u1).setCell (p := ⟨b, 2, none⟩) hb u2
theorem own_three {V : World} {base b n : Nat} {t : TypeId} {v : Value} {xs : List Value} (h : V.ownsRow base t 1 v n xs) (hb : b < base) (u0 u1 u2 : Value) : (((V.setCell ⟨b, 0, none⟩ u0).setCell ⟨b, 1, none⟩ u1).setCell ⟨b, 2, none⟩ u2).ownsRow base t 1 v n xs :=
  ownsRow_setCell_below (ownsRow_setCell_below (ownsRow_setCell_below h hb _) hb _) hb _
/-- a copy, in memory of its own -/
def Cloned (x : Thing) (w : World) (e : Ending) (w' : World) : Prop := ∃ A c, e = .returned (.agg #[.int .i64 x.tag, .slice A x.vec.length c, .string x.str]) ∧ Sl w' w'.heap.size A (iv x.vec) ∧ Below w.heap.size w w'
set_option maxHeartbeats 1600000 in
theorem clone_any (A : Option Addr) (c B : Nat) (x : Thing) (w : World) (hx : x.vec.length * 4 ≤ 140737488355328) (hx2 : x.str.size ≤ 281474976710656) (hB : B ≤ w.heap.size) (hs : Sl w B A (iv x.vec)) :
    Calls Try.prog 32 #[.agg #[.int .i64 x.tag, .slice A x.vec.length c, .string x.str]] w (Cloned x w) := by
  obtain ⟨hb, hba, hbb⟩ := two_box w 36 #[.int .i64 x.tag, .slice A x.vec.length c, .string x.str] #[.int .i64 0, .slice none 0 0, .string ⟨#[]⟩]
  have hs1 : Sl ((w.alloc (.cells #[.int .i64 x.tag, .slice A x.vec.length c, .string x.str] 36)).alloc (.cells #[.int .i64 0, .slice none 0 0, .string ⟨#[]⟩] 36)) B A (iv x.vec) := (hs.alloc hB _).alloc (by simp; omega) _
  have hvs : ((w.alloc (.cells #[.int .i64 x.tag, .slice A x.vec.length c, .string x.str] 36)).alloc (.cells #[.int .i64 0, .slice none 0 0, .string ⟨#[]⟩] 36)).heap.size = w.heap.size + 2 := by simp
  go_enter Try.func32, Try.ntmps32
  go_wp2_with (fail)
  obtain ⟨V, hV⟩ : ∃ V, V = ((w.alloc (.cells #[.int .i64 x.tag, .slice A x.vec.length c, .string x.str] 36)).alloc (.cells #[.int .i64 0, .slice none 0 0, .string ⟨#[]⟩] 36)) := ⟨_, rfl⟩
  rw [← hV] at hs1 hb hba hbb hvs ⊢
  have HVec : Hid (∀ W, Below V.heap.size V W → Calls Try.prog 39 #[.slice A x.vec.length c] W (Made 21 (iv x.vec) W)) := Lib.hid fun W hW => vclone_any A x.vec c B W hx (Nat.le_trans hB (Nat.le_trans (by omega) hW.size)) (hs1.below (hW.mono (by omega)))
  have HStr : Hid (∀ W, Calls Try.prog 40 #[.string x.str] W (Gives (.string x.str) W)) := Lib.hid fun W => sclone_any x.str W hx2
  have hgl := hba.lt
  have hgl2 := hbb.lt
  have HB := Lib.hid hb
  have HVS := Lib.hid hvs
  clear hV hs hs1 hB hb hx hx2 hvs
  obtain ⟨c0, c1, c2, cf⟩ := cells3 hba
  have hB0 : Below V.heap.size V V.drew := (Below.refl _ _).drew
  have hS : ∀ w' : World, Below (w.heap.size + 1) V w' → (w'.cell? ⟨w.heap.size, 0, none⟩ = some (.int .i64 x.tag) ∧ w'.cell? ⟨w.heap.size, 1, none⟩ = some (.slice A x.vec.length c) ∧ w'.cell? ⟨w.heap.size, 2, none⟩ = some (.string x.str)) := fun w' h => by
    obtain ⟨k0, k1, k2, -⟩ := cells3 (hba.below h (by omega))
    exact ⟨k0, k1, k2⟩
  have HLE : Hid (w.heap.size + 1 ≤ V.heap.size) := Lib.hid hgl
  have HS := Lib.hid hS
  clear hS
  obtain ⟨g, hg⟩ : ∃ g, g = w.heap.size := ⟨_, rfl⟩
  rw [← hg] at hba hbb hgl hgl2 HS HLE c0 c1 c2 cf ⊢
  have HG := Lib.hid hg
  clear hg
  have hln := iv_length x.vec
  go_region_held3 (fun w' => w'.cell? ⟨g, 0, none⟩ = some (.int .i64 x.tag) ∧ w'.cell? ⟨g, 1, none⟩ = some (.slice A x.vec.length c) ∧ w'.cell? ⟨g, 2, none⟩ = some (.string x.str))
    ((refine HS.out _ ?_; (first | (with_reducible exact Below.refl _ _) | (with_reducible exact Below.drew (Below.refl _ _)) | (refine Below.mono ?_ HLE.out; with_reducible assumption) | (with_reducible refine Below.three (Below.mono ?_ HLE.out) (Nat.le_refl _) _ _ _; with_reducible assumption))))
    (first
      | (go_at_call 39
         (with_reducible refine (made_on (by with_reducible assumption) hln (HVec.out _ (by with_reducible assumption))).mono ?_)
         rintro e w2 ⟨A2, c2', rfl, hown2, hb2⟩
         obtain ⟨q0, q1, q2, qf⟩ := cells3 (hbb.below hb2 hgl2))
      | (go_at_call 40
         (with_reducible refine (on' (by with_reducible assumption) (HStr.out _)).mono ?_)
         rintro e w3 ⟨rfl, hb3', hb3⟩
         obtain ⟨q0, q1, q2, qf⟩ := cells3 (hbb.below hb3 hgl2)))
  all_goals go_wp2_with (fail)
  all_goals first
    | (have hown3 := own_below hown2 hb3' (Nat.le_refl _)
       refine bodyPost_ret (v := .agg #[.int .i64 x.tag, .slice A2 x.vec.length c2', .string x.str]) (by simp [results, Try.results32, go_sem, q0, q1, q2]) rfl ?_
       exact ⟨A2, c2', rfl, Sl.of_own (own_three hown3 hgl2 _ _ _), HG.out ▸ Below.three ((HG.out ▸ HB.out : Below g w V).trans (hb3.mono (by omega))) (by omega) _ _ _⟩)
    | (refine bodyPost_ret (v := .agg #[.int .i64 x.tag, .slice A2 x.vec.length c2', .string x.str]) (by simp [results, Try.results32, go_sem, q0, q1, q2]) rfl ?_
       exact ⟨A2, c2', rfl, Sl.of_own (own_three hown2 hgl2 _ _ _), HG.out ▸ Below.three ((HG.out ▸ HB.out : Below g w V).trans (hb2.mono (by omega))) (by omega) _ _ _⟩)
set_option maxHeartbeats 800000 in
theorem rsame_any (A A' : Option Addr) (c c' B B' : Nat) (x y : Thing) (w : World) (hx : x.vec.length ≤ 281474976710656) (hy : y.vec.length ≤ 281474976710656) (hB : B ≤ w.heap.size) (hB' : B' ≤ w.heap.size) (hs : Sl w B A (iv x.vec)) (hs' : Sl w B' A' (iv y.vec)) :
    Calls Try.prog 31 #[.agg #[.int .i64 x.tag, .slice A x.vec.length c, .string x.str], .agg #[.int .i64 y.tag, .slice A' y.vec.length c', .string y.str]] w (Gives (.bool (sameO x y)) w) := by
  have hR := sameO_eq x y
  obtain ⟨hb, hba, hbb⟩ := two_box w 36 #[.int .i64 x.tag, .slice A x.vec.length c, .string x.str] #[.int .i64 y.tag, .slice A' y.vec.length c', .string y.str]
  have hs1 : Sl ((w.alloc (.cells #[.int .i64 x.tag, .slice A x.vec.length c, .string x.str] 36)).alloc (.cells #[.int .i64 y.tag, .slice A' y.vec.length c', .string y.str] 36)) B A (iv x.vec) := (hs.alloc hB _).alloc (by simp; omega) _
  have hs2 : Sl ((w.alloc (.cells #[.int .i64 x.tag, .slice A x.vec.length c, .string x.str] 36)).alloc (.cells #[.int .i64 y.tag, .slice A' y.vec.length c', .string y.str] 36)) B' A' (iv y.vec) := (hs'.alloc hB' _).alloc (by simp; omega) _
  obtain ⟨V, hV⟩ : ∃ V, V = ((w.alloc (.cells #[.int .i64 x.tag, .slice A x.vec.length c, .string x.str] 36)).alloc (.cells #[.int .i64 y.tag, .slice A' y.vec.length c', .string y.str] 36)) := ⟨_, rfl⟩
  rw [← hV] at hs1 hs2 hb hba hbb
  have hL1 : ∀ W, Below V.heap.size V W → Calls Try.prog 38 #[.agg #[.int .i64 x.tag, .slice A x.vec.length c, .string x.str], .agg #[.int .i64 y.tag, .slice A' y.vec.length c', .string y.str]] W (Gives (.bool (lessO x y)) W) := fun W hW => by
    have h1 := hb.size
    have h2 := hW.size
    exact less_any A A' c c' B B' x y W hx (by omega) (by omega) (hs1.below (hW.mono (by omega))) (hs2.below (hW.mono (by omega)))
  have hL2 : ∀ W, Below V.heap.size V W → Calls Try.prog 38 #[.agg #[.int .i64 y.tag, .slice A' y.vec.length c', .string y.str], .agg #[.int .i64 x.tag, .slice A x.vec.length c, .string x.str]] W (Gives (.bool (lessO y x)) W) := fun W hW => by
    have h1 := hb.size
    have h2 := hW.size
    exact less_any A' A c' c B' B y x W hy (by omega) (by omega) (hs2.below (hW.mono (by omega))) (hs1.below (hW.mono (by omega)))
  have hgl := hba.lt
  have hgl2 := hbb.lt
  have HB := Lib.hid hb
  generalize lessO x y = r1 at hR hL1
  generalize lessO y x = r2 at hR hL2
  have HR := Lib.hid hR
  have HL1 := Lib.hid hL1
  have HL2 := Lib.hid hL2
  clear hs hs' hs1 hs2 hR hL1 hL2 hb hx hy hB hB'
  obtain ⟨c0, c1, c2, cf⟩ := cells3 hba
  obtain ⟨d0, d1, d2, df⟩ := cells3 hbb
  cases r1
  · go_enter Try.func31, Try.ntmps31
    go_wp2_with (fail)
    rw [← hV]
    clear hV
    refine (on' (Below.refl _ _) (HL1.out V (Below.refl _ _))).mono ?_
    rintro e w1 ⟨rfl, hb1, -⟩
    obtain ⟨c0, c1, c2, cf⟩ := cells3 (hba.below hb1 hgl)
    obtain ⟨d0, d1, d2, df⟩ := cells3 (hbb.below hb1 hgl2)
    go_wp2_with (fail)
    refine (on hb1 (HL2.out w1 hb1)).mono ?_
    rintro e w2 ⟨rfl, hb2⟩
    go_wp2_with (fail)
    go_ret
    rw [HR.out]
    exact ⟨by first | rfl | (cases r2 <;> rfl), HB.out.trans (hb2.mono HB.out.size)⟩
  · go_enter Try.func31, Try.ntmps31
    go_wp2_with (fail)
    rw [← hV]
    clear hV
    refine (on' (Below.refl _ _) (HL1.out V (Below.refl _ _))).mono ?_
    rintro e w1 ⟨rfl, hb1, -⟩
    go_wp2_with (fail)
    go_ret
    rw [HR.out]
    exact ⟨rfl, HB.out.trans (hb1.mono HB.out.size)⟩
end Go.Proofs.Ytaamlidflfdjkaa.obj
