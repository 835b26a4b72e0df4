/-
  Where a scan stands; the contract of scan.All.
-/
import Derived.Test.YtimkbadjcdnjjaaScA
import Derived.Test.YtimkbadjcdnjjaaGHit
import Derived.Test.YtimkbadjcdnjjaaGHis
import Derived.Deep.LoopGhost
namespace Go.Proofs.Ytimkbadjcdnjjaa.scan
open Go.RowKit law bytes only flat nums ord obj metric
open hit (Hit hv hv_length lt Rises sortH sortH_is sortH_perm sortH_rises hitE hc_oneOf hv_snoc)
set_option linter.unusedVariables false

/-- where a scan stands: the thing's box, the meter, what has turned -/
structure Sc (w W : World) (o : Option Addr) (n k : Int) (q : At) : Prop where
  box : Blk W w.heap.size 25 #[.int .i64 q.x.tag, .slice q.a q.x.vec.length q.c, .string q.x.str]
  mx : Mx W o n k
  only : Only (tk o) w W
section
variable {w W W' : World} {o : Option Addr} {n k k' : Int} {q : At} {S : Nat → Prop}
theorem Sc.start (hm : Mx w o n k) : Sc w (w.alloc (.cells #[.int .i64 q.x.tag, .slice q.a q.x.vec.length q.c, .string q.x.str] 25)) o n k q :=
  ⟨Blk.new w _ _, hm.on ((Below.refl _ _).alloc (Nat.le_refl _) _), (Only.refl _ w).alloc _⟩
theorem Sc.on (h : Sc w W o n k q) (hb : Below W.heap.size W W') : Sc w W' o n k q := ⟨h.box.below hb h.box.lt, h.mx.on hb, h.only.on hb⟩
theorem Sc.alloc (h : Sc w W o n k q) (ob : Obj) : Sc w (W.alloc ob) o n k q := h.on ((Below.refl _ _).alloc (Nat.le_refl _) _)
theorem Sc.turn (h : Sc w W o n k q) (ho : Only S W W') (hS : ∀ i, S i → w.heap.size < i) (hT : ∀ i, tk o i → i < w.heap.size) : Sc w W' o n k q :=
  ⟨Blk.only h.box ho fun e => by have := hS _ e; omega, h.mx.only ho fun i e e2 => by have := hS i e2; have := hT i e; omega, h.only.trans ho fun i e => .inr (by have := hS i e; omega)⟩
theorem Sc.grown {row : Option Nat} (h : Sc w W o n k q) (hg : W.grownBy W' row) (hr : ∀ r, row = some r → w.heap.size < r) (hT : ∀ i, tk o i → i < w.heap.size) : Sc w W' o n k q :=
  h.turn (S := fun i => row = some i) (Only.of_grown hg fun g e => .inl e) hr hT
theorem Sc.asked (h : Sc w W o n k q) (ho : Only (tk o) W W') (hm : Mx W' o n k') (hT : ∀ i, tk o i → i < w.heap.size) : Sc w W' o n k' q :=
  ⟨Blk.only h.box ho fun e => by have := hT _ e; omega, hm, h.only.trans ho fun i e => .inl e⟩
theorem Sc.below {B : Nat} (h : Sc w W o n k q) (hB : B ≤ w.heap.size) (hT : ∀ i, tk o i → B ≤ i) : Below B w W := h.only.below hB hT
theorem Sc.size (h : Sc w W o n k q) : w.heap.size + 1 ≤ W.heap.size := h.box.lt
end
/-- a row of hits, and the meter asked so often -/
def RowX (w : World) (o : Option Addr) (n k : Int) (l : List Hit) (e : Ending) (w' : World) : Prop := ∃ A c, e = .returned (.slice A l.length c) ∧ l.length ≤ c ∧ Sl w' w'.heap.size A (hv l) ∧ Only (tk o) w w' ∧ Mx w' o n k
theorem make_hits (n : Nat) (hn : n ≤ 8796093022208) (u : World) : ∃ Z : Array Value, Z.size = n * 2 ∧ (Instr.makeSlice 33 (.int .i64 0) (.int .i64 (n : Int))).run Try.prog u =
    .ok (.slice (some ⟨u.heap.size, 0, none⟩) 0 n) (u.alloc (.cells Z 50)) := by
  obtain ⟨i, z, hi, hz, hsz, hby, hzs⟩ := hitE
  have h := run_make (P := Try.prog) u 33 50 i z Try.underlying33 hi hz .i64 .i64 0 (n : Int) (by omega) (by omega) (by rw [hby]; omega) (by omega)
  simp only [Int.toNat_zero, Int.toNat_natCast] at h
  exact ⟨_, by rw [size_madeCells, hsz], h⟩
/-- what scans are asked of: short things, none of which a meter turns -/
structure Fit (w : World) (B : Nat) (o : Option Addr) (n k : Int) (A : Option Addr) (l : List Item) (q : At) : Prop where
  its : Its w B A l
  qs : Sl w B q.a (iv q.x.vec)
  small : o ≠ none → (∀ p ∈ l, Small p.2.x) ∧ Small q.x
  mx : Mx w o n k
  le : B ≤ w.heap.size
  tk : ∀ i, tk o i → B ≤ i
  k0 : 0 ≤ k
  kl : k + (l.length : Int) < 9223372036854775807
section
variable {w W : World} {B : Nat} {o : Option Addr} {n k : Int} {A : Option Addr} {l : List Item} {q : At}
theorem Fit.lt (h : Fit w B o n k A l q) : ∀ i, scan.tk o i → i < w.heap.size := fun i => h.mx.lt
/-- an item is asked for -/
theorem Fit.ask (h : Fit w B o n k A l q) {i : Nat} (hi : i < l.length) (hs : Sc w W o n (k + cnt o i) q) :
    Calls Try.prog 21 #[.pointer o, iW l[i], oW q] W fun e w' => e = .returned (.agg #[.int .u64 (th n q.x l[i]).1, .int .i64 (th n q.x l[i]).2]) ∧ Only (scan.tk o) W w' ∧ Sc w w' o n (k + cnt o ((i + 1 : Nat) : Int)) q := by
  have hb := hs.below h.le h.tk
  have hsz : B ≤ W.heap.size := Nat.le_trans h.le hb.size
  have hc := cnt_le o (a := (i : Int)) (by omega)
  have h0 := h.k0
  have h1 := h.kl
  refine (ask_any l[i] q (fun e => ⟨(h.small e).1 _ (List.getElem_mem hi), (h.small e).2⟩) (((h.its.vec _ (List.getElem_mem hi)).below hb).more hsz) ((h.qs.below hb).more hsz) hs.mx (by omega)).mono fun e w' ⟨he, ho, hm⟩ => ⟨he, ho, hs.asked ho ?_ h.lt⟩
  rw [Int.add_assoc, cnt_add] at hm
  exact hm
end
set_option maxRecDepth 100000 in
set_option maxHeartbeats 3200000 in
theorem all_any (w : World) (B : Nat) (o : Option Addr) (n k : Int) (A : Option Addr) (c : Nat) (l : List Item) (q : At) (hF : Fit w B o n k A l q) (hm : l.length * 16 ≤ 140737488355328) :
    Calls Try.prog 11 #[.pointer o, .slice A l.length c, oW q] w (RowX w o n (k + cnt o l.length) (sortH (hitsOf n l q.x))) := by
  have hsc : Sc w (w.alloc (.cells #[.int .i64 q.x.tag, .slice q.a q.x.vec.length q.c, .string q.x.str] 25)) o n k q := Sc.start hF.mx
  obtain ⟨Z, hZ, hmk⟩ := make_hits l.length (by omega) (w.alloc (.cells #[.int .i64 q.x.tag, .slice q.a q.x.vec.length q.c, .string q.x.str] 25))
  have hO0 : ((w.alloc (.cells #[.int .i64 q.x.tag, .slice q.a q.x.vec.length q.c, .string q.x.str] 25)).alloc (.cells Z 50)).ownsRow (w.heap.size + 1) 50 2 (.slice (some ⟨(w.alloc (.cells #[.int .i64 q.x.tag, .slice q.a q.x.vec.length q.c, .string q.x.str] 25)).heap.size, 0, none⟩) 0 l.length) 0 (hv (hitsOf n (l.take 0) q.x)) := World.ownsRow_made _ Z _ hsc.size (by unfold maxLen; omega) hZ
  have hz1 : (w.alloc (.cells #[.int .i64 q.x.tag, .slice q.a q.x.vec.length q.c, .string q.x.str] 25)).heap.size = w.heap.size + 1 := by simp
  rw [hz1] at hmk hO0
  have hs1 := hsc.alloc (.cells Z 50)
  obtain ⟨V, hV⟩ : ∃ V, V = (w.alloc (.cells #[.int .i64 q.x.tag, .slice q.a q.x.vec.length q.c, .string q.x.str] 25)).alloc (.cells Z 50) := ⟨_, rfl⟩
  rw [← hV] at hmk hO0 hs1
  have HO0 := Lib.hid hO0
  have HS1 := Lib.hid hs1
  have HF := Lib.hid hF
  have HLT := Lib.hid hF.lt
  clear hs1 hO0 hF hZ hz1 hV hsc
  have hqW : oW q = .agg #[.int .i64 q.x.tag, .slice q.a q.x.vec.length q.c, .string q.x.str] := rfl
  rw [hqW]
  go_enter Try.func11, Try.ntmps11
  go_wp2_with (fail)
  go_loopg [7, 15] l.length (fun gk s7 s15 wr => ∃ (i c' : Nat) (A' : Option Addr), gk = l.length - i ∧ i ≤ l.length ∧ s7 = .slice A' i c' ∧ s15 = .int .i64 i ∧ wr.ownsRow (w.heap.size + 1) 50 2 (.slice A' i c') i (hv (hitsOf n (l.take i) q.x)) ∧ Sc w wr o n (k + cnt o i) q)
  case atStart => exact ⟨0, l.length, some ⟨w.heap.size + 1, 0, none⟩, rfl, Nat.zero_le _, rfl, rfl, HO0.out, by rw [show ((0 : Nat) : Int) = 0 from rfl, cnt_zero, Int.add_zero]; exact HS1.out⟩
  case round =>
    clear HO0 HS1 hmk
    obtain ⟨i, c', A', rfl, hi, rfl, rfl, hown, hsc⟩ := hrel
    by_cases hlt : i < l.length
    · obtain ⟨b, r, rfl, hb, hcells⟩ := (HF.out.its.below (hsc.below HF.out.le HF.out.tk)).place (by omega)
      obtain ⟨d0, d1, d2, d3⟩ := hcells i hlt
      have i1 : (i : Int) < (l.length : Int) := by omega
      have hask := fun W (h : Sc w W o n (k + cnt o i) q) => HF.out.ask hlt h
      have htk := hitsOf_take n l q.x i hlt
      obtain ⟨x, hx⟩ : ∃ x, th n q.x l[i] = x := ⟨_, rfl⟩
      obtain ⟨p, hp⟩ : ∃ p, l[i] = p := ⟨_, rfl⟩
      rw [hx] at htk hask
      rw [hp] at hask d0 d1 d2 d3
      obtain ⟨x1, x2⟩ := x
      obtain ⟨id, pt⟩ := p
      have HTK : Hid (hv (hitsOf n (l.take (i + 1)) q.x) = hv (hitsOf n (l.take i) q.x) ++ [.int .u64 x1, .int .i64 x2]) := Lib.hid (by rw [htk]; exact hv_snoc _ _ _)
      dsimp only [iW, oW] at hask d0 d1 d2 d3
      have hk0 := Blk.new wr 46 #[.int .u64 id, .int .i64 pt.x.tag, .slice pt.a pt.x.vec.length pt.c, .string pt.x.str]
      have r0 := hk0.cell 0
      have r1 := hk0.cell 1
      have r2 := hk0.cell 2
      have r3 := hk0.cell 3
      have hs1 := hsc.alloc (.cells #[.int .u64 id, .int .i64 pt.x.tag, .slice pt.a pt.x.vec.length pt.c, .string pt.x.str] 46)
      have q0 := hs1.box.cell 0
      have q1 := hs1.box.cell 1
      have q2 := hs1.box.cell 2
      simp only [List.getElem?_toArray, List.getElem?_cons_succ, List.getElem?_cons_zero] at r0 r1 r2 r3 q0 q1 q2
      have HK := Lib.hid (hask _ hs1)
      have HOW : Hid (wr.ownsRow (w.heap.size + 1) 50 2 (.slice A' i c') i (hv (hitsOf n (l.take i) q.x))) := Lib.hid hown
      have hsz := hsc.size
      clear hask htk hx hp hk0 hs1 hown hsc hcells
      go_wp2_with (fail)
      refine HK.out.mono ?_
      rintro e w2 ⟨rfl, ho2, hs2⟩
      have hown2 := own_only (World.ownsRow.alloc (w := wr) HOW.out (.cells #[.int .u64 id, .int .i64 pt.x.tag, .slice pt.a pt.x.vec.length pt.c, .string pt.x.str] 46)) ho2 fun g e e2 => by have := (own_lt HOW.out e).1; have := HLT.out g e2; omega
      have hsz2 := hs2.size
      have HS2 := Lib.hid hs2
      clear HK HOW ho2 hs2 r0 r1 r2 r3 q0 q1 q2 d0 d1 d2 d3
      go_wp2_with (at_builtin
                   refine wpList_append_slk _ rfl (.tmp 19) (.tmp 24) _ rfl (w.heap.size + 1) 50 2 16 Try.underlying33 hitE (by omega) (.slice A' i c') i (hv (hitsOf n (l.take i) q.x)) rfl (World.ownsRow.alloc (w := w2) hown2 _) _ _ 1 1 [.int .u64 x1, .int .i64 x2] rfl (Sl.lit w2 _ _) rfl (hc_oneOf _ _) (by omega) (by unfold maxLen; omega) (by simp; omega) ?_
                   intro v4 w4 hown4 hg4 hat4
                   obtain ⟨A4, c4, rfl, hc4⟩ := own_slice hown4)
      have hlo : ∀ r, (Value.slice A' i c').ownBlock = some r → w.heap.size < r := fun r e => (own_lt hown2 e).1
      go_roundg (l.length - (i + 1))
      case measure => omega
      case rel => exact ⟨i + 1, c4, A4, rfl, by omega, rfl, by go_num, by rw [HTK.out]; exact hown4, (HS2.out.alloc _).grown hg4 hlo HLT.out⟩
    · obtain rfl : i = l.length := by omega
      have i1 : ¬ (l.length : Int) < (l.length : Int) := by omega
      rw [List.take_length] at hown
      have hlen : (hitsOf n l q.x).length = l.length := hitsOf_length n l q.x
      have hS := hit.sort_any A' (hitsOf n l q.x) c' wr.heap.size wr (by rw [hlen]; exact hm) (Nat.le_refl _) (Sl.of_ownK hown)
      rw [hlen] at hS
      have HSO := Lib.hid hS
      have HSC := Lib.hid hsc
      clear hS hown hsc hlen
      go_wp2_with (fail)
      refine HSO.out.mono ?_
      rintro e w2 ⟨A2, c2, rfl, hc2, hsl, hb2⟩
      have HE : Hid (RowX w o n (k + cnt o l.length) (sortH (hitsOf n l q.x)) (.returned (.slice A2 (sortH (hitsOf n l q.x)).length c2)) w2) := Lib.hid ⟨A2, c2, rfl, hc2, hsl, HSC.out.only.on hb2, HSC.out.mx.on hb2⟩
      clear HSO HSC hc2 hsl hb2
      go_wp2_with (fail)
      go_ret
      exact HE.out
end Go.Proofs.Ytimkbadjcdnjjaa.scan
