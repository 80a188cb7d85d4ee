/-
  Texts put together: WalP, WalO, WnA, WnB, WalQ, WalR, WalS, WalT.
-/
import Derived.Test.YtcmnfbpmkndfkaaDoorMgD
import Derived.Test.YtcmnfbpmkndfkaaDoorMgR
import Derived.RangeFuncNested
import Derived.RangeFuncBound
import Derived.RangeFuncCalls
import Derived.RangeFuncLeaves
import Derived.Shelf.Abstract
import Derived.Shelf.RegionOpen
import Derived.OwnWalkIn
import Derived.TacticsInMore
import Derived.LoopNIn
import Derived.LoopIn
import Derived.Deep.DeepCutAuto
import Derived.Deep.CutBlock
namespace Go.Proofs.YtcmnfbpmkndfkaaDoor
open Go.ChangeShapes Go.WideShapes Go.ChangeAt Go.RowKit Go.Shelf
set_option linter.unusedVariables false
set_option maxRecDepth 100000
attribute [local go_sem] Oper.semAt_some

theorem wrap_id (x : Int) (h1 : -9223372036854775808 ≤ x) (h2 : x ≤ 9223372036854775807) : wrap64 x = x := by unfold wrap64; omega
theorem wrap_idk (x : Int) (h1 : -9223372036854775808 ≤ x) (h2 : x ≤ 9223372036854775807) : IntKind.i64.wrap x = x := by rw [IntKind.wrap_i64]; omega
theorem chunk_any (a : Option Addr) (len cap : Nat) (w : World) :
    Calls Tryd.prog 23 #[.slice a len cap, .int .i64 511] w fun e w' => e = .returned (.func (.func 45) #[] #[.pointer (some ⟨w.heap.size, 0, none⟩), .pointer (some ⟨w.heap.size + 1, 0, none⟩)]) ∧ w' = (w.alloc (.cells #[.slice a len cap] 34)).alloc (.cells #[.int .i64 511] 3) := by
  go_enter Tryd.func23, Tryd.ntmps23
  go_wp2
  go_ret
  exact ⟨rfl, rfl⟩
/-- the part that comes at j -/
def partVal (b o len j : Nat) : Value := .slice (some ⟨b, o + 511 * j, none⟩) (min 511 (len - 511 * j)) (min 511 (len - 511 * j))
abbrev Part (n : Nat) := { j : Nat // 511 * j < n }
def partsUpto (n k : Nat) : List (Part n) := (List.range k).filterMap fun j => if h : 511 * j < n then some ⟨j, h⟩ else none
theorem partsUpto_succ (n k : Nat) (h : 511 * k < n) : partsUpto n (k + 1) = partsUpto n k ++ [⟨k, h⟩] := by
  unfold partsUpto
  rw [List.range_succ, List.filterMap_append]
  simp [h]
theorem partsUpto_length (n k : Nat) (h : k ≤ sectorsN n) : (partsUpto n k).length = k := by
  induction k with
  | zero => rfl
  | succ k ih =>
    rw [partsUpto_succ n k (by unfold sectorsN at h; omega), List.length_append, ih (by omega)]
    rfl
def ChunkKeeps (Bs Bn : Nat) (W W' : World) : Prop := W'.heap[Bs]? = W.heap[Bs]? ∧ W'.heap[Bn]? = W.heap[Bn]?
theorem sliceLHM (b o len cap l h : Nat) (h1 : l < h) (h2 : h ≤ cap) (hc : cap ≤ maxLen) (w : World) : (Instr.slice 34 (.slice (some ⟨b, o, none⟩) len cap) (some (.int .i64 (l : Int))) (some (.int .i64 (h : Int))) (some (.int .i64 (h : Int)))).run Tryd.prog w = .ok (.slice (some ⟨b, o + l, none⟩) (h - l) (h - l)) w := by
  rw [run_slice_lhm w 34 (some ⟨b, o, none⟩) len cap (by kernel_rfl) .i64 .i64 .i64 (l : Int) (h : Int) (h : Int) (by omega) (by omega) (by omega) (by omega)]
  go_simp
  omega
theorem sliceFrom (b o len cap l : Nat) (h1 : l ≤ len) (h3 : l < cap) (hc : cap ≤ maxLen) (w : World) : (Instr.slice 34 (.slice (some ⟨b, o, none⟩) len cap) (some (.int .i64 (l : Int))) none none).run Tryd.prog w = .ok (.slice (some ⟨b, o + l, none⟩) (len - l) (cap - l)) w := by
  have h := Wr.slice_from (some ⟨b, o, none⟩) len cap l h1 w
  have e : Wr.fromA (some ⟨b, o, none⟩) cap l = some ⟨b, o + l, none⟩ := by
    unfold Wr.fromA
    rw [if_neg (by omega)]
    show some ((⟨b, o, none⟩ : Addr).add l) = _
    rw [Cr.addr_add]
  rw [e] at h
  exact h
set_option maxHeartbeats 2000000 in
theorem chunk1_in (n l Bs Bn b o len cap : Nat) (hn : 1 ≤ n) (hlc : len ≤ cap) (hcap : cap ≤ maxLen) (hl46 : len ≤ 70368744177664) (J Jx : List (Part len) → World → Prop)
    (hJ : ∀ pre W W', J pre W → Below W.heap.size W W' → J pre W')
    (hY : ∀ pre x W, J pre W → pre.length < sectorsN len → YieldAt Fence.wide (n - 1) Tryd.prog l #[partVal b o len x.1] W fun e W' => (e = .returned (.bool true) ∧ J (pre ++ [x]) W' ∧ ChunkKeeps Bs Bn W W') ∨ (e = .returned (.bool false) ∧ Jx (pre ++ [x]) W'))
    (W : World) (hBs : W.cell? ⟨Bs, 0, none⟩ = some (.slice (some ⟨b, o, none⟩) len cap)) (hBn : W.cell? ⟨Bn, 0, none⟩ = some (.int .i64 511)) (h0 : J [] W) :
    CallsIn Fence.wide n Tryd.prog 45 #[.func (.yield l) #[] #[], .pointer (some ⟨Bs, 0, none⟩), .pointer (some ⟨Bn, 0, none⟩)] W fun e W' => (∃ v, e = .returned v) ∧ ((∃ ys, ys = partsUpto len (sectorsN len) ∧ J ys W') ∨ (∃ pre : List (Part len), True ∧ Jx pre W')) := by
  unfold maxLen at hcap
  refine callsIn_of_wp Tryd.func45 rfl trivial ?_ rfl
  simp only [Tryd.ntmps45, List.size_toArray, List.length_cons, List.length_nil, Nat.reduceAdd, Nat.reduceSub, Array.replicate_succ, Array.replicate_zero, List.push_toArray, List.append_toArray, List.nil_append, List.cons_append]
  have HJ := Lib.hid hJ
  have HY := Lib.hid hY
  clear hJ hY
  gi_wp2
  gi_loopw [4, 5] (fun i e wr => ∃ k : Nat, k ≤ sectorsN len ∧ i = .int .i64 ((511 * k : Nat) : Int) ∧ J (partsUpto len k) wr ∧ wr.cell? ⟨Bs, 0, none⟩ = some (.slice (some ⟨b, o, none⟩) len cap) ∧ wr.cell? ⟨Bn, 0, none⟩ = some (.int .i64 511))
    (fun i _ _ => len + 511 - (intOf i).toNat)
  case atStart => exact ⟨0, Nat.zero_le _, rfl, h0, hBs, hBn⟩
  case round =>
    obtain ⟨k, hk, rfl, hJs, hcs, hcn⟩ := hrel
    obtain ⟨i, hi⟩ : ∃ i, i = 511 * k := ⟨_, rfl⟩
    have HKK : Hid (i < len ↔ k < sectorsN len) := Lib.hid (by rw [hi]; unfold sectorsN; omega)
    have HKE : Hid (¬ i < len → k = sectorsN len) := Lib.hid (fun h => by rw [hi] at h; unfold sectorsN at *; omega)
    have hmx : i ≤ 70368744177664 + 511 := by unfold sectorsN at hk; omega
    rw [← hi]
    have HI := Lib.hid hi
    clear hi
    by_cases hlt : i < len
    · obtain ⟨m, hm⟩ : ∃ m, m = len - i := ⟨_, rfl⟩
      obtain ⟨e, he⟩ : ∃ e, e = min 511 m := ⟨_, rfl⟩
      have hmin : min (511 : Int) (m : Int) = (e : Int) := by omega
      have he0 : 0 < e := by omega
      have he1 : e ≤ 511 := by omega
      have hie : i + e ≤ cap := by omega
      have g1 : -9223372036854775808 ≤ (i : Int) + (e : Int) := by omega
      have g2 : (i : Int) + (e : Int) ≤ 9223372036854775807 := by omega
      have g3 : -9223372036854775808 ≤ (i : Int) + 511 := by omega
      have g4 : (i : Int) + 511 ≤ 9223372036854775807 := by omega
      have hs1 := fun W => sliceFrom b o len cap i (by omega) (by omega) (by unfold maxLen; omega) W
      rw [← hm] at hs1
      have hs2 := fun W => sliceLHM b o len cap i (i + e) (by omega) hie (by unfold maxLen; omega) W
      rw [show i + e - i = e by omega, show ((i + e : Nat) : Int) = (i : Int) + (e : Int) by omega] at hs2
      have hpv : partVal b o len k = .slice (some ⟨b, o + i, none⟩) e e := by unfold partVal; rw [← HI.out, ← hm, ← he]
      have HM := Lib.hid (And.intro hm he)
      have HPV := Lib.hid hpv
      have HK := Lib.hid hk
      clear hm he hpv hk
      have HCS : Hid (∀ W, Gl wr.drew W → W.cell? ⟨Bs, 0, none⟩ = some (.slice (some ⟨b, o, none⟩) len cap) ∧ W.cell? ⟨Bn, 0, none⟩ = some (.int .i64 511)) := Lib.hid (fun W hW => ⟨(hW.undrew.cell (p := ⟨Bs, 0, none⟩) (cell_lt hcs)).trans hcs, (hW.undrew.cell (p := ⟨Bn, 0, none⟩) (cell_lt hcn)).trans hcn⟩)
      have hsum1 : IntKind.i64.wrap ((i : Int) + (e : Int)) = (i : Int) + (e : Int) := wrap_idk _ g1 g2
      have hsum2 : wrap64 ((i : Int) + (e : Int)) = (i : Int) + (e : Int) := wrap_id _ g1 g2
      have hsum3 : wrap64 ((i : Int) + 511) = (i : Int) + 511 := wrap_id _ g3 g4
      clear g1 g2 g3 g4
      gi_wp2
      refine wpIn_wide.2 ?_
      refine wp_region_inv_lit [.is (.int .i64 511), .is (.slice (some ⟨b, o, none⟩) len cap), .is (.int .i64 (i : Int)), .is (.slice (some ⟨b, o + i, none⟩) m (cap - i)), .is (.int .i64 (m : Int)), .is (.int .i64 (e : Int)), .is (.int .i64 (e : Int))] (by kernel_rfl) (by kernel_rfl) ?_
      repeat1' (refine wpInv_is ?_ ?_; (focus (intro W hW hF K hK; clear hF; obtain ⟨d2, d7⟩ := HCS.out W hW; go_simp; exact hK _ _ (Gl.refl _) rfl)); simp only [Act.put, List.setIfInBounds_toArray, List.set_cons_zero, List.set_cons_succ])
      refine wpInv_end ?_
      intro W2 hW hF
      have HJ2 := Lib.hid (HJ.out _ _ _ hJs hW.undrew)
      obtain ⟨d2, d7⟩ := HCS.out W2 hW
      have HYk := HY.out (partsUpto len k) ⟨k, HI.out ▸ hlt⟩ W2 HJ2.out (by rw [partsUpto_length _ _ HK.out]; exact HKK.out.1 hlt)
      dsimp only at HYk
      rw [HPV.out] at HYk
      obtain ⟨fn, tmps, assign, body, hy, hR⟩ := HYk
      clear hW hF HCS hcs hcn hJs
      gi_wp2
      refine hR.mono ?_
      clear hR hy
      rintro e3 W3 (⟨rfl, hJ3, hk1, hk2⟩ | ⟨rfl, hJx3⟩)
      · have c1 : W3.cell? ⟨Bs, 0, none⟩ = some (.slice (some ⟨b, o, none⟩) len cap) := (World.cell?_of_block hk1).trans d2
        have c2 : W3.cell? ⟨Bn, 0, none⟩ = some (.int .i64 511) := (World.cell?_of_block hk2).trans d7
        have HJ3 := Lib.hid hJ3
        clear d2 d7 hk1 hk2 hJ3
        gi_wp2
        clear hsum1 hsum2 hsum3
        have hcast : ((511 * (k + 1) : Nat) : Int) = (i : Int) + 511 := by have := HI.out; omega
        go_roundw
        case rel => exact ⟨k + 1, HKK.out.1 hlt, by rw [hcast], by rw [partsUpto_succ _ _ (HI.out ▸ hlt)]; exact HJ3.out, c1, c2⟩
        case measure => simp [intOf]; omega
      · clear d2 d7
        gi_wp2
        refine bodyPost_ret (results_none rfl _ _ _) rfl ?_
        exact ⟨⟨_, rfl⟩, .inr ⟨_, trivial, hJx3⟩⟩
    · gi_wp2
      go_end0
      exact ⟨⟨_, rfl⟩, .inl ⟨_, by rw [HKE.out hlt], hJs⟩⟩
set_option maxHeartbeats 1000000 in
theorem chunk0_in (n l Bs Bn cap : Nat) (a : Option Addr) (J : List (Part 0) → World → Prop)
    (W : World) (hBs : W.cell? ⟨Bs, 0, none⟩ = some (.slice a 0 cap)) (h0 : J [] W) :
    CallsIn Fence.wide n Tryd.prog 45 #[.func (.yield l) #[] #[], .pointer (some ⟨Bs, 0, none⟩), .pointer (some ⟨Bn, 0, none⟩)] W fun e W' => (∃ v, e = .returned v) ∧ J [] W' := by
  refine callsIn_of_wp Tryd.func45 rfl trivial ?_ rfl
  simp only [Tryd.ntmps45, List.size_toArray, List.length_cons, List.length_nil, Nat.reduceAdd, Nat.reduceSub, Array.replicate_succ, Array.replicate_zero, List.push_toArray, List.append_toArray, List.nil_append, List.cons_append]
  gi_wp2
  gi_loopw [4, 5] (fun i e wr => i = .int .i64 0 ∧ J [] wr ∧ wr.cell? ⟨Bs, 0, none⟩ = some (.slice a 0 cap)) (fun _ _ _ => 0)
  case atStart => exact ⟨rfl, h0, hBs⟩
  case round =>
    obtain ⟨rfl, hJs, hcs⟩ := hrel
    gi_wp2
    go_end0
    exact ⟨⟨_, rfl⟩, hJs⟩
theorem grownBy_of_below {W W' : World} (h : Below W.heap.size W W') : W.grownBy W' none := ⟨h.os, h.tape, h.output, h.size, fun k hk _ => h.block k hk⟩
def partOf (a : Option Addr) (len j : Nat) : Value := match a with
  | some ad => partVal ad.block ad.off len j
  | none => .slice none 0 0
/-- what slices.Chunk(b, 511) hands back asks for a round for each part, in their order -/
theorem chunk_stops (n Bs Bn len cap : Nat) (a : Option Addr) (hn : 1 ≤ n) (hlc : len ≤ cap) (hcap : cap ≤ maxLen) (hl46 : len ≤ 70368744177664) (w : World) (ha : 0 < len → ∃ b o, a = some ⟨b, o, none⟩)
    (hBs : w.cell? ⟨Bs, 0, none⟩ = some (.slice a len cap)) (hBn : w.cell? ⟨Bn, 0, none⟩ = some (.int .i64 511)) :
    SeqStopsK Fence.wide n Tryd.prog 45 #[.pointer (some ⟨Bs, 0, none⟩), .pointer (some ⟨Bn, 0, none⟩)] (fun x : Part len => #[partOf a len x.1]) (ChunkKeeps Bs Bn) (fun ys => ys = partsUpto len (sectorsN len)) (fun _ => True) (sectorsN len) w := fun l J Jx W hW hJ hJx hY h0 => by
  have c1 := (hW.cell (p := ⟨Bs, 0, none⟩) (cell_lt hBs)).trans hBs
  have c2 := (hW.cell (p := ⟨Bn, 0, none⟩) (cell_lt hBn)).trans hBn
  rcases Nat.eq_zero_or_pos len with h | h
  · subst h
    refine (chunk0_in n l Bs Bn cap a J W c1 h0).mono ?_
    rintro e W' ⟨he, hj⟩
    exact ⟨he, .inl ⟨_, rfl, hj⟩⟩
  · obtain ⟨b, o, rfl⟩ := ha h
    exact chunk1_in n l Bs Bn b o len cap hn hlc hcap hl46 J Jx (fun pre W1 W2 h1 h2 => hJ _ _ _ none h1 (grownBy_of_below h2) (fun r e => by cases e)) hY W c1 c2 h0
end Go.Proofs.YtcmnfbpmkndfkaaDoor
namespace Go.Proofs.YtcmnfbpmkndfkaaDoor
open Go.ChangeShapes Go.WideShapes Go.ChangeAt Go.RowKit
set_option linter.unusedVariables false
set_option maxRecDepth 100000

set_option maxHeartbeats 2000000 in
theorem next_some (w : World) (F : Nat → Prop) (g p m : Nat) (s : LSt) (N : List ByteArray) (L0 : List Nat) (h : Qd w F p N m) (hl : LogAt w g p s) (hu : s.used < s.c) (hc : s.c ≤ 30000) (hf : s.f + s.c ≤ N.length) (hN : N.length ≤ 65536) (ht : Cr.Tab w) (hL0 : L0 = bytesOf (N.getD (s.f + s.used) ⟨#[]⟩))
    (l1 l2 l3 : List Nat) (e1 e2 n1 n2 : Int) (n : Nat) (B : List Nat) (hB : n = B.length) (hBn : n ≤ 30000000) (h256 : ∀ c ∈ B, c < 256) (hP : Parts N (s.f + s.used + 1) B) (hst : L0 = startL (s.age : Int) (s.number : Int) B) (hag : s.age < 4611686018427387904) (hnu : s.number ≤ 65536) (hr1 : Wr.readNum (s.age : Int) (s.age : Int) (L0.drop 1) 0 = (n1, l1, e1)) (hr2 : Wr.readNum (s.number : Int) (s.number : Int) l1 e1 = (n2, l2, e2)) (hr3 : Wr.readNum 0 (((s.c - s.used - 1) * 511 : Nat) : Int) l2 e2 = ((n : Int), l3, 0)) :
    Calls Tryd.prog 35 #[.pointer (some ⟨g, 0, none⟩)] w fun e w' => ∃ gb cb, e = .returned (.tuple #[.slice (some ⟨gb, 0, none⟩) n cb, .bool true]) ∧ ByteRow w' (some ⟨gb, 0, none⟩) n B ∧ w.heap.size ≤ gb ∧ Below w.heap.size w w' := by
  have HRB : Hid (∀ W, Below w.heap.size w W → Calls Tryd.prog 62 #[.pointer (some ⟨g, 0, none⟩), .int .i64 ((s.f : Int) + (s.used : Int) + 1), .int .i64 (n : Int)] W fun e w' => ∃ gb cb, e = .returned (.tuple #[.slice (some ⟨gb, 0, none⟩) n cb, .bool true]) ∧ ByteRow w' (some ⟨gb, 0, none⟩) n B ∧ W.heap.size ≤ gb ∧ Below W.heap.size W w') := Lib.hid (fun W hb => by
    have hr := readBytes_ok W F g p m (s.f + s.used + 1) n N B hB (h.below hb) (hl.below hb).dev hBn h256 hP hN (by omega)
    rw [show ((s.f + s.used + 1 : Nat) : Int) = (s.f : Int) + (s.used : Int) + 1 by omega] at hr
    refine hr.mono ?_
    rintro e w' ⟨v, rfl, ho, hv, hb⟩
    obtain ⟨gb, cb, rfl, hM⟩ := Cr.Mine.of ho hv h256
    exact ⟨gb, cb, rfl, hM.row, hM.1, hb⟩)
  have HST := Lib.hid hst
  clear hP hst h256 hB
  have q1 : -9223372036854775808 ≤ (s.age : Int) := by omega
  have q2 : (s.age : Int) ≤ 9223372036854775807 := by omega
  have q3 : -9223372036854775808 ≤ (s.number : Int) := by omega
  have q4 : (s.number : Int) ≤ 9223372036854775807 := by omega
  have q5 : n ≤ 70368744177664 := by omega
  have q6 : -9223372036854775808 ≤ (s.f : Int) + (s.used : Int) + 1 := by omega
  have q7 : (s.f : Int) + (s.used : Int) + 1 ≤ 9223372036854775807 := by omega
  have hmul : (((s.c - s.used - 1) * 511 : Nat) : Int) = (((s.c - s.used : Nat) : Int) - 1) * 511 := by omega
  have hkb : s.c - s.used ≤ 30000 := by omega
  have hk1 : 0 < s.c - s.used := by omega
  have hc65 : s.c ≤ 65536 := by omega
  have hfu : s.f + s.used < N.length := by omega
  have hfuc : ((s.f + s.used : Nat) : Int) = (s.f : Int) + (s.used : Int) := by omega
  have HLW : Hid (∀ W, Below w.heap.size w W → LogAt W g p s) := Lib.hid (fun W hb => hl.below hb)
  have HQW : Hid (∀ W, Below w.heap.size w W → Qd W F p N m) := Lib.hid (fun W hb => h.below hb)
  have HTW : Hid (∀ W, Below w.heap.size w W → Cr.Tab W) := Lib.hid (fun W hb => Cr.Tab.below ht hb)
  have hlt := hl.lt
  have hleft : ((s.c - s.used : Nat) : Int) = (s.c : Int) - (s.used : Int) := by omega
  have h0i : (((s.c - s.used : Nat) : Int) == 0) = false := by simp; omega
  have HW12 : Hid (IntKind.i64.wrap ((s.f : Int) + (s.used : Int)) = (s.f : Int) + (s.used : Int) ∧ wrap64 ((s.f : Int) + (s.used : Int)) = (s.f : Int) + (s.used : Int)) := Lib.hid ⟨by rw [IntKind.wrap_i64]; omega, by unfold wrap64; omega⟩
  have HLeft : Hid (∀ W, Below w.heap.size w W → Calls Tryd.prog 30 #[.pointer (some ⟨g, 0, none⟩)] W fun e w' => e = .returned (.int .i64 ((s.c - s.used : Nat) : Int)) ∧ Below W.heap.size W w') := Lib.hid (fun W hb => by
    refine (left_any W g p s (hl.below hb) (Nat.le_of_lt hu) hc65).mono ?_
    rintro e w' ⟨rfl, n, rfl⟩
    exact ⟨rfl, below_dN W n⟩)
  have HRead : Hid (∀ W, Below w.heap.size w W → Calls Tryd.prog 58 #[.pointer (some ⟨g, 0, none⟩), .int .i64 ((s.f : Int) + (s.used : Int))] W fun e w' => ∃ gh c, e = .returned (.slice (some ⟨gh, 0, none⟩) 512 c) ∧ ByteRow w' (some ⟨gh, 0, none⟩) 512 L0 ∧ W.heap.size ≤ gh ∧ Below W.heap.size W w' ∧ (512 ≤ c ∧ c ≤ maxLen)) := Lib.hid (fun W hb => by
    have hr := dread W F p m (s.f + s.used) g N (h.below hb) (hl.below hb).dev hfu
    rw [hfuc, ← hL0] at hr
    exact hr)
  rw [hmul] at hr3
  clear h hl ht hL0 hleft hmul
  generalize hK : s.c - s.used = K at *
  have HKK := Lib.hid hK
  clear hK
  have HW3 : Hid (wrap64 (((K : Int) - 1) * 511) = ((K : Int) - 1) * 511) := Lib.hid (by unfold wrap64; omega)
  have HR1 := Lib.hid hr1
  have HR2 := Lib.hid hr2
  have HR3 := Lib.hid hr3
  clear hr1 hr2 hr3
  go_enter Tryd.func35, Tryd.ntmps35
  go_wp2_with (go_at_call 30; refine (HLeft.out _ (Below.refl _ _)).mono ?_; rintro e w1 ⟨rfl, hb⟩; have HB1 := Lib.hid hb; clear hb)
  have HC1 : Hid (∀ W, Gl w1.drew W → W.cell? ⟨g, 2, none⟩ = some (.int .i64 (s.f : Int)) ∧ W.cell? ⟨g, 7, none⟩ = some (.int .i64 (s.used : Int))) := Lib.hid (fun W hW => by
    have h := (HLW.out W (Below.step hW.undrew HB1.out HB1.out.size)).at_
    exact ⟨h.1, h.2.2.2.2.2.1⟩)
  obtain ⟨hw1, hw2⟩ := HW12.out
  refine wp_region_inv_lit [.is (.pointer (some ⟨g, 0, none⟩)), .is (.pointer (some ⟨g, 0, none⟩)), .is (.pointer (some ⟨g, 2, none⟩)), .is (.int .i64 (s.f : Int)),
    .is (.pointer (some ⟨g, 0, none⟩)), .is (.pointer (some ⟨g, 0, none⟩)), .is (.pointer (some ⟨g, 7, none⟩)), .is (.int .i64 (s.used : Int)), .is (.int .i64 ((s.f : Int) + (s.used : Int))), .is (.int .i64 ((s.f : Int) + (s.used : Int)))] (by kernel_rfl) (by kernel_rfl) ?_
  repeat1' (refine wpInv_is ?_ ?_; (focus (intro W hW hF K hK; clear hF; obtain ⟨d2, d7⟩ := HC1.out W hW; go_simp; exact hK _ _ (Gl.refl _) rfl)); simp only [Act.put, List.setIfInBounds_toArray, List.set_cons_zero, List.set_cons_succ])
  refine wpInv_end ?_
  intro w2 hW hF
  have HB2 := Lib.hid (Below.step hW.undrew HB1.out HB1.out.size)
  clear hW hF HC1 hw1 hw2
  go_wp2_with (first
    | (go_at_call 58; refine (HRead.out _ HB2.out).mono ?_; rintro e w3 ⟨gh, cp, rfl, hR, _, hb, hc1, hc2⟩; have HRow := Lib.hid hR; have HB3 := Lib.hid (Below.step hb HB2.out HB2.out.size); have hsl := fun W => slice1 gh cp hc1 W; have HO := Lib.hid (Wr.open_any (some ⟨gh, 1, none⟩) 511 (cp - 1) (L0.drop 1) w3 ⟨row_drop1 hR, by omega, by omega, fun e => by cases e⟩ (by omega)); clear hR hb)
    | (go_at_call 59; refine HO.out.mono ?_; rintro e w4 ⟨q, rfl, hi, hq, hb⟩; have HI4 := Lib.hid hi; have HP := Lib.hid hq; have HV4 := Lib.hid hb; clear hi hq hb))
  have HC4 : Hid (∀ W, Gl w4.drew W → W.cell? ⟨g, 5, none⟩ = some (.int .i64 (s.age : Int))) := Lib.hid (fun W hW => by
    have h := (HLW.out W (Below.step (Below.step hW.undrew HV4.out HV4.out.size) HB3.out HB3.out.size)).at_
    exact h.2.2.2.1)
  refine wp_region_last_lit [.is (.pointer (some ⟨q, 0, none⟩)), .is (.pointer (some ⟨g, 0, none⟩)), .is (.pointer (some ⟨g, 0, none⟩)), .is (.pointer (some ⟨g, 5, none⟩)), .is (.int .i64 (s.age : Int)),
    .is (.pointer (some ⟨g, 0, none⟩)), .is (.pointer (some ⟨g, 0, none⟩)), .is (.pointer (some ⟨g, 5, none⟩)), .is (.int .i64 (s.age : Int))] (by kernel_rfl) (by kernel_rfl) (by kernel_rfl) (by kernel_rfl) ?_
  repeat1' (refine wpInvL_is ?_ ?_; (focus (intro W hW hF K hK; clear hF; have d := HC4.out W hW; go_simp; exact hK _ _ (Gl.refl _) rfl)); simp only [Act.put, List.setIfInBounds_toArray, List.set_cons_zero, List.set_cons_succ])
  refine wpInvL_last ?_
  intro W hW hF
  have HVW := Lib.hid (Below.step hW.undrew HV4.out HV4.out.size)
  have HIW := Lib.hid (Wr.InAt.below HI4.out hW.undrew)
  clear hW hF HC4
  go_simp
  refine (Wr.inNum_any q (s.age : Int) (s.age : Int) (L0.drop 1) 0 W HIW.out).mono ?_
  rintro e w5 ⟨rfl, hi, hb⟩
  refine ⟨_, rfl, ?_⟩
  rw [HR1.out] at hi ⊢
  have HI5 := Lib.hid hi
  have HV5 := Lib.hid (Below.trans HVW.out (hb _ HP.out))
  clear hi hb HVW HIW
  go_wp2_with fail
  have HC5 : Hid (∀ W, Gl w5.drew W → W.cell? ⟨g, 6, none⟩ = some (.int .i64 (s.number : Int))) := Lib.hid (fun W hW => by
    have h := (HLW.out W (Below.step (Below.step hW.undrew HV5.out HV5.out.size) HB3.out HB3.out.size)).at_
    exact h.2.2.2.2.1)
  refine wp_region_last_lit [.is (.pointer (some ⟨q, 0, none⟩)), .is (.pointer (some ⟨g, 0, none⟩)), .is (.pointer (some ⟨g, 0, none⟩)), .is (.pointer (some ⟨g, 6, none⟩)), .is (.int .i64 (s.number : Int)),
    .is (.pointer (some ⟨g, 0, none⟩)), .is (.pointer (some ⟨g, 0, none⟩)), .is (.pointer (some ⟨g, 6, none⟩)), .is (.int .i64 (s.number : Int))] (by kernel_rfl) (by kernel_rfl) (by kernel_rfl) (by kernel_rfl) ?_
  repeat1' (refine wpInvL_is ?_ ?_; (focus (intro W hW hF K hK; clear hF; have d := HC5.out W hW; go_simp; exact hK _ _ (Gl.refl _) rfl)); simp only [Act.put, List.setIfInBounds_toArray, List.set_cons_zero, List.set_cons_succ])
  refine wpInvL_last ?_
  intro W hW hF
  have HVW := Lib.hid (Below.step hW.undrew HV5.out HV5.out.size)
  have HIW := Lib.hid (Wr.InAt.below HI5.out hW.undrew)
  clear hW hF HC5
  go_simp
  refine (Wr.inNum_any q (s.number : Int) (s.number : Int) l1 e1 W HIW.out).mono ?_
  rintro e w6 ⟨rfl, hi, hb⟩
  refine ⟨_, rfl, ?_⟩
  rw [HR2.out] at hi ⊢
  have HI6 := Lib.hid hi
  have HV6 := Lib.hid (Below.trans HVW.out (hb _ HP.out))
  clear hi hb HVW HIW
  have hw3 := HW3.out
  go_wp2_with (first
    | (go_at_call 30; refine (HLeft.out _ (Below.step HV6.out HB3.out HB3.out.size)).mono ?_; rintro e w7 ⟨rfl, hb⟩; have HV7 := Lib.hid (Below.step hb HV6.out HV6.out.size); have HI7 := Lib.hid (Wr.InAt.below HI6.out hb); clear hb)
    | (go_at_call 60; refine (Wr.inNum_any q 0 (((K : Int) - 1) * 511) l2 e2 _ HI7.out).mono ?_; rintro e w8 ⟨rfl, hi, hb⟩; rw [HR3.out] at hi ⊢; have HI8 := Lib.hid hi; have HV8 := Lib.hid (Below.trans HV7.out (hb _ HP.out)); clear hi hb)
    | (go_at_call 61; refine (Wr.err_any q l3 0 _ HI8.out).mono ?_; rintro e w9 ⟨rfl, rfl⟩))
  clear hw3
  have hw4 : wrap64 ((s.f : Int) + (s.used : Int) + 1) = (s.f : Int) + (s.used : Int) + 1 := wrap_id _ q6 q7
  go_wp2_with (go_at_call 62; refine (HRB.out _ (Below.step HV8.out HB3.out HB3.out.size)).mono ?_; rintro e w10 ⟨gb, cb, rfl, hR, hgb, hb⟩; have HRb := Lib.hid hR; have HGb := Lib.hid (Nat.le_trans (Nat.le_trans HB3.out.size HV8.out.size) hgb); have HV10 := Lib.hid (Below.step hb HV8.out HV8.out.size); clear hR hgb hb)
  have HC10 : Hid (∀ W, Gl w10.drew W → W.cell? ⟨g, 5, none⟩ = some (.int .i64 (s.age : Int)) ∧ W.cell? ⟨g, 6, none⟩ = some (.int .i64 (s.number : Int))) := Lib.hid (fun W hW => by
    have h := (HLW.out W (Below.step (Below.step hW.undrew HV10.out HV10.out.size) HB3.out HB3.out.size)).at_
    exact ⟨h.2.2.2.1, h.2.2.2.2.1⟩)
  have HSS : Hid (∀ W, Gl w10.drew W → Calls Tryd.prog 27 #[.int .i64 (s.age : Int), .int .i64 (s.number : Int), .slice (some ⟨gb, 0, none⟩) n cb] W fun e w' => ∃ g, e = .returned (.slice (some ⟨g, 0, none⟩) 512 512) ∧ ByteRow w' (some ⟨g, 0, none⟩) 512 (startL (s.age : Int) (s.number : Int) B) ∧ W.heap.size ≤ g ∧ Below W.heap.size W w') := Lib.hid (fun W hW => startSector_any (s.age : Int) (s.number : Int) q1 q2 q3 q4 (some ⟨gb, 0, none⟩) n cb B W (HRb.out.below hW.undrew) q5 (HTW.out W (Below.step (Below.step hW.undrew HV10.out HV10.out.size) HB3.out HB3.out.size)))
  have HEQ : Hid (∀ W gs, Gl w10.drew W → ByteRow W (some ⟨gs, 0, none⟩) 512 (startL (s.age : Int) (s.number : Int) B) → Calls Tryd.prog 63 #[.slice (some ⟨gh, 0, none⟩) 512 cp, .slice (some ⟨gs, 0, none⟩) 512 512] W fun e w' => e = .returned (.bool true) ∧ W = w') := Lib.hid (fun W gs hW hR => by
    have h := equal_any (some ⟨gh, 0, none⟩) (some ⟨gs, 0, none⟩) 512 512 cp 512 L0 _ W (HRow.out.below (Below.step hW.undrew HV10.out HV10.out.size)) hR
    rw [decide_eq_true HST.out] at h
    exact h)
  refine wp_region_inv_lit [.is (.bool true), .is (.bool false), .is (.bool false), .is (.slice (some ⟨gh, 0, none⟩) 512 cp), .is (.pointer (some ⟨g, 0, none⟩)), .is (.pointer (some ⟨g, 0, none⟩)), .is (.pointer (some ⟨g, 5, none⟩)), .is (.int .i64 (s.age : Int)),
    .is (.pointer (some ⟨g, 0, none⟩)), .is (.pointer (some ⟨g, 0, none⟩)), .is (.pointer (some ⟨g, 6, none⟩)), .is (.int .i64 (s.number : Int)), .is (.slice (some ⟨gb, 0, none⟩) n cb),
    .has (SecV 0 (startL (s.age : Int) (s.number : Int) B)), .is (.bool true), .is (.bool false), .is (.bool false)] (by kernel_rfl) (by kernel_rfl) ?_
  repeat1' (refine wpInv_is ?_ ?_; (focus (intro W hW hF K hK; clear hF; obtain ⟨d5, d6⟩ := HC10.out W hW; go_simp; exact hK _ _ (Gl.refl _) rfl)); simp only [Act.put, List.setIfInBounds_toArray, List.set_cons_zero, List.set_cons_succ])
  refine wpInv_has _ (secV_stable _ _) ?_ ?_
  · intro W hW hF K hK
    clear hF
    go_simp
    refine (HSS.out W hW).mono ?_
    rintro e w1 ⟨gs, rfl, hR, _, hb⟩
    exact ⟨_, rfl, hK _ _ hb ⟨gs, rfl, hR, Nat.zero_le _⟩⟩
  intro v13
  simp only [Act.put, List.setIfInBounds_toArray, List.set_cons_zero, List.set_cons_succ]
  refine wpInv_is ?_ ?_
  · intro W hW hF K hK
    obtain ⟨gs, rfl, hR, _⟩ := hF _ (List.mem_cons_self ..) (by kernel_rfl)
    have HE := Lib.hid (HEQ.out W gs hW hR)
    clear hF hR
    go_simp
    refine HE.out.mono ?_
    rintro e w1 ⟨rfl, rfl⟩
    exact ⟨_, rfl, hK _ _ (Gl.refl _) rfl⟩
  simp only [Act.put, List.setIfInBounds_toArray, List.set_cons_zero, List.set_cons_succ]
  repeat1' (refine wpInv_is ?_ ?_; (focus (intro W hW hF K hK; clear hF; go_simp; exact hK _ _ (Gl.refl _) rfl)); simp only [Act.put, List.setIfInBounds_toArray, List.set_cons_zero, List.set_cons_succ])
  refine wpInv_end ?_
  intro w12 hW hF
  obtain ⟨gs, rfl, _, _⟩ := hF _ (List.mem_cons_self ..)
  have HB12 := Lib.hid (Below.step (Below.step hW.undrew HV10.out HV10.out.size) HB3.out HB3.out.size)
  have HRb2 := Lib.hid (HRb.out.below hW.undrew)
  clear hW hF
  go_wp2_with fail
  go_ret2
  exact ⟨gb, cb, rfl, HRb2.out, HGb.out, HB12.out⟩
end Go.Proofs.YtcmnfbpmkndfkaaDoor
namespace Go.Proofs.YtcmnfbpmkndfkaaDoor
open Go.ChangeShapes Go.WideShapes Go.ChangeAt Go.RowKit
set_option linter.unusedVariables false
set_option maxRecDepth 100000

/-- the part of a sector that was read, whatever it holds -/
theorem row_part_any {W : World} {gh k : Nat} {L : List Nat} (h : ByteRow W (some ⟨gh, 0, none⟩) 512 L) (hk : k ≤ 511) (h0 : 0 < k) : ByteRow W (some ⟨gh, 1, none⟩) k ((L.drop 1).take k) := by
  obtain ⟨h1, h2, h3, h4⟩ := h
  refine ⟨by rw [List.length_take, List.length_drop, h1]; omega, by unfold maxLen; omega, fun c hc => h3 c (List.mem_of_mem_drop (List.mem_of_mem_take hc)), fun _ => ⟨gh, 1, rfl, fun i hi => ?_⟩⟩
  obtain ⟨b, o, e, hc⟩ := h4 (by decide)
  injection e with e
  injection e with e1 e2
  subst e1 e2
  have := hc (1 + i) (by omega)
  rw [Nat.zero_add] at this
  rw [this, List.getD_eq_getElem?_getD, List.getD_eq_getElem?_getD, List.getElem?_take, if_pos hi, List.getElem?_drop]
set_option maxHeartbeats 2000000 in
theorem readBytes_bad (w : World) (F : Nat → Prop) (g p m at_ n j0 : Nat) (N : List ByteArray) (B L0 : List Nat) (h : Qd w F p N m) (hd : DevAt w g p) (hB : n ≤ 30000000) (h256 : ∀ c ∈ B, c < 256) (hBl : B.length = 511 * j0) (hj0 : 511 * j0 < n) (hP : ∀ j, j < j0 → at_ + j < N.length ∧ bytesOf (N.getD (at_ + j) ⟨#[]⟩) = bytesL ((B.drop (511 * j)).take 511)) (hl0 : at_ + j0 < N.length) (hL0 : L0 = bytesOf (N.getD (at_ + j0) ⟨#[]⟩)) (hbad : L0 ≠ bytesL ((L0.drop 1).take (min (n - 511 * j0) 511))) (hN : N.length ≤ 65536) (ha : at_ ≤ 65536) :
    Calls Tryd.prog 62 #[.pointer (some ⟨g, 0, none⟩), .int .i64 (at_ : Int), .int .i64 (n : Int)] w fun e w' => e = .returned (.tuple #[.slice none 0 0, .bool false]) ∧ Below w.heap.size w w' := by
  obtain ⟨i0, hi, hz0, hz1, hz2⟩ := info_parts Cr.info5
  have hmk := fun u => make_cap n (by omega) u
  have HQ := Lib.hid h
  have HD := Lib.hid hd
  have HP := Lib.hid hP
  have H256 := Lib.hid h256
  have HM : Hid ((w.alloc (.cells (madeCells #[.int .u8 0] n) 5)).ownsRow w.heap.size 5 1 (.slice (some ⟨w.heap.size, 0, none⟩) 0 n) 0 (vals [])) := Lib.hid (Cr.owns_made w w.heap.size w.heap.size n (by unfold maxLen; omega) (Nat.le_refl _) rfl)
  have HB0 : Hid (Below w.heap.size w (w.alloc (.cells (madeCells #[.int .u8 0] n) 5))) := Lib.hid ((Below.refl _ _).alloc (Nat.le_refl _) _)
  have HL := Lib.hid hBl
  have HL0 := Lib.hid (And.intro hL0 hbad)
  have hlt := hd.lt
  clear h hd hP h256 hBl hL0 hbad
  go_enter Tryd.func62, Tryd.ntmps62
  go_wp2_with fail
  go_loopw [1, 8] (fun i b wr => ∃ j k : Nat, i = .int .i64 ((at_ + j : Nat) : Int) ∧ k = 511 * j ∧ j ≤ j0 ∧ (∃ gb cb, b = .slice (some ⟨gb, 0, none⟩) k cb) ∧ wr.ownsRow w.heap.size 5 1 b k (vals (B.take k)) ∧ Below w.heap.size w wr) (fun i _ _ => at_ + n + 1 - (intOf i).toNat)
  case atStart => exact ⟨0, 0, rfl, rfl, by omega, ⟨_, _, rfl⟩, HM.out, HB0.out⟩
  case round =>
    obtain ⟨j, k, rfl, hk, hj, ⟨gb, cb, rfl⟩, hown, hbel⟩ := hrel
    have HO := Lib.hid hown
    have HB := Lib.hid hbel
    clear hown hbel HM HB0
    have hlti : (k : Int) < (n : Int) := by omega
    by_cases hjl : j < j0
    · obtain ⟨hp1, hp2⟩ := HP.out j hjl
      obtain ⟨C, hC⟩ : ∃ C, C = (B.drop (511 * j)).take 511 := ⟨_, rfl⟩
      have hCl : C.length = 511 := by rw [hC, List.length_take, List.length_drop, HL.out]; omega
      rw [← hC] at hp2
      have HR : Hid (Calls Tryd.prog 58 #[.pointer (some ⟨g, 0, none⟩), .int .i64 ((at_ + j : Nat) : Int)] wr fun e w' => ∃ gh c, e = .returned (.slice (some ⟨gh, 0, none⟩) 512 c) ∧ ByteRow w' (some ⟨gh, 0, none⟩) 512 (bytesL C) ∧ wr.heap.size ≤ gh ∧ Below wr.heap.size wr w' ∧ (512 ≤ c ∧ c ≤ maxLen)) := Lib.hid (by
        have h := dread wr F p m (at_ + j) g N (HQ.out.below HB.out) (HD.out.below HB.out) hp1
        rw [hp2] at h
        exact h)
      have HT : Hid (B.take (k + 511) = B.take k ++ C) := Lib.hid (by rw [hC, hk, drop_take])
      have HK := Lib.hid hk
      obtain ⟨q, hq⟩ : ∃ q : Nat, q = 511 := ⟨_, rfl⟩
      have hmin : min ((n : Int) - (k : Int)) 511 = (q : Int) := by omega
      have htn : (1 + (q : Int)).toNat - 1 = q := by omega
      have hq0 : 0 < q := by omega
      have hq511 : q ≤ 511 := by omega
      rw [← hq] at hCl HT
      have HQ5 := Lib.hid hq
      clear hC hp2 hp1 hk hq
      go_wp2_with (first
        | (go_at_call 58; refine HR.out.mono ?_; rintro e w2 ⟨gh, c, rfl, hR, hgh, hb, hc1, hc2⟩; have HR2 := Lib.hid hR; have HB2 := Lib.hid hb; have HS := Lib.hid (row_part hR hCl hq511 hq0); clear hR hb)
        | (go_at_call 25; refine (bytesSector_any ⟨gh, 1, none⟩ q (c - 1) C _ HS.out hq0 hq511).mono ?_; rintro e w3 ⟨gs, rfl, hR, _, hb⟩; have HB3 := Lib.hid (Below.step hb HB2.out HB2.out.size); have HS3 := Lib.hid (HS.out.below hb); have HE := Lib.hid (equal_any (some ⟨gh, 0, none⟩) (some ⟨gs, 0, none⟩) 512 512 c 512 (bytesL C) (bytesL C) w3 (HR2.out.below hb) hR); rw [decide_eq_true rfl] at HE; clear hR hb)
        | (go_at_call 63; refine HE.out.mono ?_; rintro e w4 ⟨rfl, rfl⟩)
        | (at_builtin; refine wpList_append_own _ rfl (.tmp 35) (.tmp 36) 34 rfl w.heap.size 5 i0 (.int .u8 0) 1 1 Tryd.underlying34 hi hz0 hz1 hz2 rfl (by decide) _ k (vals (B.take k)) rfl (own_below HO.out HB3.out) ⟨gh, 1, none⟩ q (c - 1) (vals C) rfl ?c1 ?c2 ?c3 ?c4 ?c5 ?c6 ?_))
      case c1 => rw [Cr.vals_length, HS3.out.1, Nat.mul_one]
      case c2 => exact src_cells HS3.out hq0
      case c3 => exact Cr.vals_one _
      case c4 => unfold maxLen; have := HQ5.out; omega
      case c5 => have := HQ5.out; omega
      case c6 => exact Nat.le_trans HB.out.size HB3.out.size
      intro v' w5 hown hgrow hnil
      have bel : Below w.heap.size w w5 := (Below.step HB3.out HB.out HB.out.size).grown hgrow (Nat.le_trans HB.out.size HB3.out.size) (fun k hk => own_base HO.out hk)
      have hown2 : w5.ownsRow w.heap.size 5 1 v' (k + q) (vals (B.take (k + q))) := by
        rw [HT.out]
        show World.ownsRow _ _ _ _ _ _ (Cr.vals _)
        rw [Cr.vals_append]
        exact hown
      have hne : v' ≠ .slice none 0 0 := by first | exact hnil | exact fun h => absurd (hnil.1 h).1 (by simp)
      obtain ⟨gv, cv, hv, _⟩ := Cr.Mine.of hown2 hne (fun c hc => H256.out c (List.mem_of_mem_take hc))
      subst hv
      have HO5 := Lib.hid hown2
      have HB5 := Lib.hid bel
      clear hown hown2 hgrow hnil bel hne
      go_wp2_with fail
      go_roundw
      case rel => exact ⟨j + 1, k + q, by go_num, by have := HK.out; have := HQ5.out; omega, by omega, ⟨_, _, rfl⟩, HO5.out, HB5.out⟩
      case measure => simp [intOf]; omega
    · obtain rfl : j = j0 := by omega
      obtain ⟨hL0, hbad⟩ := HL0.out
      obtain ⟨q, hq⟩ : ∃ q, q = min (n - k) 511 := ⟨_, rfl⟩
      rw [← hk, ← hq] at hbad
      have HR : Hid (Calls Tryd.prog 58 #[.pointer (some ⟨g, 0, none⟩), .int .i64 ((at_ + j : Nat) : Int)] wr fun e w' => ∃ gh c, e = .returned (.slice (some ⟨gh, 0, none⟩) 512 c) ∧ ByteRow w' (some ⟨gh, 0, none⟩) 512 L0 ∧ wr.heap.size ≤ gh ∧ Below wr.heap.size wr w' ∧ (512 ≤ c ∧ c ≤ maxLen)) := Lib.hid (by
        have h := dread wr F p m (at_ + j) g N (HQ.out.below HB.out) (HD.out.below HB.out) hl0
        rw [← hL0] at h
        exact h)
      have hmin : min ((n : Int) - (k : Int)) 511 = (q : Int) := by omega
      have htn : (1 + (q : Int)).toNat - 1 = q := by omega
      have hq0 : 0 < q := by omega
      have hq511 : q ≤ 511 := by omega
      have HBAD := Lib.hid hbad
      clear hL0 hbad hk hq
      go_wp2_with (first
        | (go_at_call 58; refine HR.out.mono ?_; rintro e w2 ⟨gh, c, rfl, hR, hgh, hb, hc1, hc2⟩; have HR2 := Lib.hid hR; have HB2 := Lib.hid hb; have HS := Lib.hid (row_part_any hR hq511 hq0); clear hR hb)
        | (go_at_call 25; refine (bytesSector_any ⟨gh, 1, none⟩ q (c - 1) _ _ HS.out hq0 hq511).mono ?_; rintro e w3 ⟨gs, rfl, hR, _, hb⟩; have HB3 := Lib.hid (Below.step hb HB2.out HB2.out.size); have HE := Lib.hid (equal_any (some ⟨gh, 0, none⟩) (some ⟨gs, 0, none⟩) 512 512 c 512 L0 (bytesL ((L0.drop 1).take q)) w3 (HR2.out.below hb) hR); rw [decide_eq_false HBAD.out] at HE; clear hR hb)
        | (go_at_call 63; refine HE.out.mono ?_; rintro e w4 ⟨rfl, rfl⟩))
      go_ret2
      exact ⟨rfl, Below.step HB3.out HB.out HB.out.size⟩
end Go.Proofs.YtcmnfbpmkndfkaaDoor
namespace Go.Proofs.YtcmnfbpmkndfkaaDoor
open Go.ChangeShapes Go.WideShapes Go.ChangeAt Go.RowKit
set_option linter.unusedVariables false
set_option maxRecDepth 100000

set_option maxHeartbeats 2000000 in
theorem next_differ (w : World) (F : Nat → Prop) (g p m : Nat) (s : LSt) (N : List ByteArray) (L0 : List Nat) (h : Qd w F p N m) (hl : LogAt w g p s) (hu : s.used < s.c) (hc : s.c ≤ 30000) (hf : s.f + s.c ≤ N.length) (hN : N.length ≤ 65536) (ht : Cr.Tab w) (hL0 : L0 = bytesOf (N.getD (s.f + s.used) ⟨#[]⟩))
    (l1 l2 l3 : List Nat) (e1 e2 n1 n2 : Int) (n : Nat) (B : List Nat) (hB : n = B.length) (hBn : n ≤ 30000000) (h256 : ∀ c ∈ B, c < 256) (hP : Parts N (s.f + s.used + 1) B) (hst : L0 ≠ startL (s.age : Int) (s.number : Int) B) (hag : s.age < 4611686018427387904) (hnu : s.number ≤ 65536) (hr1 : Wr.readNum (s.age : Int) (s.age : Int) (L0.drop 1) 0 = (n1, l1, e1)) (hr2 : Wr.readNum (s.number : Int) (s.number : Int) l1 e1 = (n2, l2, e2)) (hr3 : Wr.readNum 0 (((s.c - s.used - 1) * 511 : Nat) : Int) l2 e2 = ((n : Int), l3, 0)) :
    Calls Tryd.prog 35 #[.pointer (some ⟨g, 0, none⟩)] w fun e w' => e = .returned (.tuple #[.slice none 0 0, .bool false]) ∧ Below w.heap.size w w' := by
  have HRB : Hid (∀ W, Below w.heap.size w W → Calls Tryd.prog 62 #[.pointer (some ⟨g, 0, none⟩), .int .i64 ((s.f : Int) + (s.used : Int) + 1), .int .i64 (n : Int)] W fun e w' => ∃ gb cb, e = .returned (.tuple #[.slice (some ⟨gb, 0, none⟩) n cb, .bool true]) ∧ ByteRow w' (some ⟨gb, 0, none⟩) n B ∧ W.heap.size ≤ gb ∧ Below W.heap.size W w') := Lib.hid (fun W hb => by
    have hr := readBytes_ok W F g p m (s.f + s.used + 1) n N B hB (h.below hb) (hl.below hb).dev hBn h256 hP hN (by omega)
    rw [show ((s.f + s.used + 1 : Nat) : Int) = (s.f : Int) + (s.used : Int) + 1 by omega] at hr
    refine hr.mono ?_
    rintro e w' ⟨v, rfl, ho, hv, hb⟩
    obtain ⟨gb, cb, rfl, hM⟩ := Cr.Mine.of ho hv h256
    exact ⟨gb, cb, rfl, hM.row, hM.1, hb⟩)
  have HST := Lib.hid hst
  clear hP hst h256 hB
  have q1 : -9223372036854775808 ≤ (s.age : Int) := by omega
  have q2 : (s.age : Int) ≤ 9223372036854775807 := by omega
  have q3 : -9223372036854775808 ≤ (s.number : Int) := by omega
  have q4 : (s.number : Int) ≤ 9223372036854775807 := by omega
  have q5 : n ≤ 70368744177664 := by omega
  have q6 : -9223372036854775808 ≤ (s.f : Int) + (s.used : Int) + 1 := by omega
  have q7 : (s.f : Int) + (s.used : Int) + 1 ≤ 9223372036854775807 := by omega
  have hmul : (((s.c - s.used - 1) * 511 : Nat) : Int) = (((s.c - s.used : Nat) : Int) - 1) * 511 := by omega
  have hkb : s.c - s.used ≤ 30000 := by omega
  have hk1 : 0 < s.c - s.used := by omega
  have hc65 : s.c ≤ 65536 := by omega
  have hfu : s.f + s.used < N.length := by omega
  have hfuc : ((s.f + s.used : Nat) : Int) = (s.f : Int) + (s.used : Int) := by omega
  have HLW : Hid (∀ W, Below w.heap.size w W → LogAt W g p s) := Lib.hid (fun W hb => hl.below hb)
  have HQW : Hid (∀ W, Below w.heap.size w W → Qd W F p N m) := Lib.hid (fun W hb => h.below hb)
  have HTW : Hid (∀ W, Below w.heap.size w W → Cr.Tab W) := Lib.hid (fun W hb => Cr.Tab.below ht hb)
  have hlt := hl.lt
  have hleft : ((s.c - s.used : Nat) : Int) = (s.c : Int) - (s.used : Int) := by omega
  have h0i : (((s.c - s.used : Nat) : Int) == 0) = false := by simp; omega
  have HW12 : Hid (IntKind.i64.wrap ((s.f : Int) + (s.used : Int)) = (s.f : Int) + (s.used : Int) ∧ wrap64 ((s.f : Int) + (s.used : Int)) = (s.f : Int) + (s.used : Int)) := Lib.hid ⟨by rw [IntKind.wrap_i64]; omega, by unfold wrap64; omega⟩
  have HLeft : Hid (∀ W, Below w.heap.size w W → Calls Tryd.prog 30 #[.pointer (some ⟨g, 0, none⟩)] W fun e w' => e = .returned (.int .i64 ((s.c - s.used : Nat) : Int)) ∧ Below W.heap.size W w') := Lib.hid (fun W hb => by
    refine (left_any W g p s (hl.below hb) (Nat.le_of_lt hu) hc65).mono ?_
    rintro e w' ⟨rfl, n, rfl⟩
    exact ⟨rfl, below_dN W n⟩)
  have HRead : Hid (∀ W, Below w.heap.size w W → Calls Tryd.prog 58 #[.pointer (some ⟨g, 0, none⟩), .int .i64 ((s.f : Int) + (s.used : Int))] W fun e w' => ∃ gh c, e = .returned (.slice (some ⟨gh, 0, none⟩) 512 c) ∧ ByteRow w' (some ⟨gh, 0, none⟩) 512 L0 ∧ W.heap.size ≤ gh ∧ Below W.heap.size W w' ∧ (512 ≤ c ∧ c ≤ maxLen)) := Lib.hid (fun W hb => by
    have hr := dread W F p m (s.f + s.used) g N (h.below hb) (hl.below hb).dev hfu
    rw [hfuc, ← hL0] at hr
    exact hr)
  rw [hmul] at hr3
  clear h hl ht hL0 hleft hmul
  generalize hK : s.c - s.used = K at *
  have HKK := Lib.hid hK
  clear hK
  have HW3 : Hid (wrap64 (((K : Int) - 1) * 511) = ((K : Int) - 1) * 511) := Lib.hid (by unfold wrap64; omega)
  have HR1 := Lib.hid hr1
  have HR2 := Lib.hid hr2
  have HR3 := Lib.hid hr3
  clear hr1 hr2 hr3
  go_enter Tryd.func35, Tryd.ntmps35
  go_wp2_with (go_at_call 30; refine (HLeft.out _ (Below.refl _ _)).mono ?_; rintro e w1 ⟨rfl, hb⟩; have HB1 := Lib.hid hb; clear hb)
  have HC1 : Hid (∀ W, Gl w1.drew W → W.cell? ⟨g, 2, none⟩ = some (.int .i64 (s.f : Int)) ∧ W.cell? ⟨g, 7, none⟩ = some (.int .i64 (s.used : Int))) := Lib.hid (fun W hW => by
    have h := (HLW.out W (Below.step hW.undrew HB1.out HB1.out.size)).at_
    exact ⟨h.1, h.2.2.2.2.2.1⟩)
  obtain ⟨hw1, hw2⟩ := HW12.out
  refine wp_region_inv_lit [.is (.pointer (some ⟨g, 0, none⟩)), .is (.pointer (some ⟨g, 0, none⟩)), .is (.pointer (some ⟨g, 2, none⟩)), .is (.int .i64 (s.f : Int)),
    .is (.pointer (some ⟨g, 0, none⟩)), .is (.pointer (some ⟨g, 0, none⟩)), .is (.pointer (some ⟨g, 7, none⟩)), .is (.int .i64 (s.used : Int)), .is (.int .i64 ((s.f : Int) + (s.used : Int))), .is (.int .i64 ((s.f : Int) + (s.used : Int)))] (by kernel_rfl) (by kernel_rfl) ?_
  repeat1' (refine wpInv_is ?_ ?_; (focus (intro W hW hF K hK; clear hF; obtain ⟨d2, d7⟩ := HC1.out W hW; go_simp; exact hK _ _ (Gl.refl _) rfl)); simp only [Act.put, List.setIfInBounds_toArray, List.set_cons_zero, List.set_cons_succ])
  refine wpInv_end ?_
  intro w2 hW hF
  have HB2 := Lib.hid (Below.step hW.undrew HB1.out HB1.out.size)
  clear hW hF HC1 hw1 hw2
  go_wp2_with (first
    | (go_at_call 58; refine (HRead.out _ HB2.out).mono ?_; rintro e w3 ⟨gh, cp, rfl, hR, _, hb, hc1, hc2⟩; have HRow := Lib.hid hR; have HB3 := Lib.hid (Below.step hb HB2.out HB2.out.size); have hsl := fun W => slice1 gh cp hc1 W; have HO := Lib.hid (Wr.open_any (some ⟨gh, 1, none⟩) 511 (cp - 1) (L0.drop 1) w3 ⟨row_drop1 hR, by omega, by omega, fun e => by cases e⟩ (by omega)); clear hR hb)
    | (go_at_call 59; refine HO.out.mono ?_; rintro e w4 ⟨q, rfl, hi, hq, hb⟩; have HI4 := Lib.hid hi; have HP := Lib.hid hq; have HV4 := Lib.hid hb; clear hi hq hb))
  have HC4 : Hid (∀ W, Gl w4.drew W → W.cell? ⟨g, 5, none⟩ = some (.int .i64 (s.age : Int))) := Lib.hid (fun W hW => by
    have h := (HLW.out W (Below.step (Below.step hW.undrew HV4.out HV4.out.size) HB3.out HB3.out.size)).at_
    exact h.2.2.2.1)
  refine wp_region_last_lit [.is (.pointer (some ⟨q, 0, none⟩)), .is (.pointer (some ⟨g, 0, none⟩)), .is (.pointer (some ⟨g, 0, none⟩)), .is (.pointer (some ⟨g, 5, none⟩)), .is (.int .i64 (s.age : Int)),
    .is (.pointer (some ⟨g, 0, none⟩)), .is (.pointer (some ⟨g, 0, none⟩)), .is (.pointer (some ⟨g, 5, none⟩)), .is (.int .i64 (s.age : Int))] (by kernel_rfl) (by kernel_rfl) (by kernel_rfl) (by kernel_rfl) ?_
  repeat1' (refine wpInvL_is ?_ ?_; (focus (intro W hW hF K hK; clear hF; have d := HC4.out W hW; go_simp; exact hK _ _ (Gl.refl _) rfl)); simp only [Act.put, List.setIfInBounds_toArray, List.set_cons_zero, List.set_cons_succ])
  refine wpInvL_last ?_
  intro W hW hF
  have HVW := Lib.hid (Below.step hW.undrew HV4.out HV4.out.size)
  have HIW := Lib.hid (Wr.InAt.below HI4.out hW.undrew)
  clear hW hF HC4
  go_simp
  refine (Wr.inNum_any q (s.age : Int) (s.age : Int) (L0.drop 1) 0 W HIW.out).mono ?_
  rintro e w5 ⟨rfl, hi, hb⟩
  refine ⟨_, rfl, ?_⟩
  rw [HR1.out] at hi ⊢
  have HI5 := Lib.hid hi
  have HV5 := Lib.hid (Below.trans HVW.out (hb _ HP.out))
  clear hi hb HVW HIW
  go_wp2_with fail
  have HC5 : Hid (∀ W, Gl w5.drew W → W.cell? ⟨g, 6, none⟩ = some (.int .i64 (s.number : Int))) := Lib.hid (fun W hW => by
    have h := (HLW.out W (Below.step (Below.step hW.undrew HV5.out HV5.out.size) HB3.out HB3.out.size)).at_
    exact h.2.2.2.2.1)
  refine wp_region_last_lit [.is (.pointer (some ⟨q, 0, none⟩)), .is (.pointer (some ⟨g, 0, none⟩)), .is (.pointer (some ⟨g, 0, none⟩)), .is (.pointer (some ⟨g, 6, none⟩)), .is (.int .i64 (s.number : Int)),
    .is (.pointer (some ⟨g, 0, none⟩)), .is (.pointer (some ⟨g, 0, none⟩)), .is (.pointer (some ⟨g, 6, none⟩)), .is (.int .i64 (s.number : Int))] (by kernel_rfl) (by kernel_rfl) (by kernel_rfl) (by kernel_rfl) ?_
  repeat1' (refine wpInvL_is ?_ ?_; (focus (intro W hW hF K hK; clear hF; have d := HC5.out W hW; go_simp; exact hK _ _ (Gl.refl _) rfl)); simp only [Act.put, List.setIfInBounds_toArray, List.set_cons_zero, List.set_cons_succ])
  refine wpInvL_last ?_
  intro W hW hF
  have HVW := Lib.hid (Below.step hW.undrew HV5.out HV5.out.size)
  have HIW := Lib.hid (Wr.InAt.below HI5.out hW.undrew)
  clear hW hF HC5
  go_simp
  refine (Wr.inNum_any q (s.number : Int) (s.number : Int) l1 e1 W HIW.out).mono ?_
  rintro e w6 ⟨rfl, hi, hb⟩
  refine ⟨_, rfl, ?_⟩
  rw [HR2.out] at hi ⊢
  have HI6 := Lib.hid hi
  have HV6 := Lib.hid (Below.trans HVW.out (hb _ HP.out))
  clear hi hb HVW HIW
  have hw3 := HW3.out
  go_wp2_with (first
    | (go_at_call 30; refine (HLeft.out _ (Below.step HV6.out HB3.out HB3.out.size)).mono ?_; rintro e w7 ⟨rfl, hb⟩; have HV7 := Lib.hid (Below.step hb HV6.out HV6.out.size); have HI7 := Lib.hid (Wr.InAt.below HI6.out hb); clear hb)
    | (go_at_call 60; refine (Wr.inNum_any q 0 (((K : Int) - 1) * 511) l2 e2 _ HI7.out).mono ?_; rintro e w8 ⟨rfl, hi, hb⟩; rw [HR3.out] at hi ⊢; have HI8 := Lib.hid hi; have HV8 := Lib.hid (Below.trans HV7.out (hb _ HP.out)); clear hi hb)
    | (go_at_call 61; refine (Wr.err_any q l3 0 _ HI8.out).mono ?_; rintro e w9 ⟨rfl, rfl⟩))
  clear hw3
  have hw4 : wrap64 ((s.f : Int) + (s.used : Int) + 1) = (s.f : Int) + (s.used : Int) + 1 := wrap_id _ q6 q7
  go_wp2_with (go_at_call 62; refine (HRB.out _ (Below.step HV8.out HB3.out HB3.out.size)).mono ?_; rintro e w10 ⟨gb, cb, rfl, hR, hgb, hb⟩; have HRb := Lib.hid hR; have HGb := Lib.hid (Nat.le_trans (Nat.le_trans HB3.out.size HV8.out.size) hgb); have HV10 := Lib.hid (Below.step hb HV8.out HV8.out.size); clear hR hgb hb)
  have HC10 : Hid (∀ W, Gl w10.drew W → W.cell? ⟨g, 5, none⟩ = some (.int .i64 (s.age : Int)) ∧ W.cell? ⟨g, 6, none⟩ = some (.int .i64 (s.number : Int))) := Lib.hid (fun W hW => by
    have h := (HLW.out W (Below.step (Below.step hW.undrew HV10.out HV10.out.size) HB3.out HB3.out.size)).at_
    exact ⟨h.2.2.2.1, h.2.2.2.2.1⟩)
  have HSS : Hid (∀ W, Gl w10.drew W → Calls Tryd.prog 27 #[.int .i64 (s.age : Int), .int .i64 (s.number : Int), .slice (some ⟨gb, 0, none⟩) n cb] W fun e w' => ∃ g, e = .returned (.slice (some ⟨g, 0, none⟩) 512 512) ∧ ByteRow w' (some ⟨g, 0, none⟩) 512 (startL (s.age : Int) (s.number : Int) B) ∧ W.heap.size ≤ g ∧ Below W.heap.size W w') := Lib.hid (fun W hW => startSector_any (s.age : Int) (s.number : Int) q1 q2 q3 q4 (some ⟨gb, 0, none⟩) n cb B W (HRb.out.below hW.undrew) q5 (HTW.out W (Below.step (Below.step hW.undrew HV10.out HV10.out.size) HB3.out HB3.out.size)))
  have HEQ : Hid (∀ W gs, Gl w10.drew W → ByteRow W (some ⟨gs, 0, none⟩) 512 (startL (s.age : Int) (s.number : Int) B) → Calls Tryd.prog 63 #[.slice (some ⟨gh, 0, none⟩) 512 cp, .slice (some ⟨gs, 0, none⟩) 512 512] W fun e w' => e = .returned (.bool false) ∧ W = w') := Lib.hid (fun W gs hW hR => by
    have h := equal_any (some ⟨gh, 0, none⟩) (some ⟨gs, 0, none⟩) 512 512 cp 512 L0 _ W (HRow.out.below (Below.step hW.undrew HV10.out HV10.out.size)) hR
    rw [decide_eq_false HST.out] at h
    exact h)
  refine wp_region_inv_lit [.is (.bool true), .is (.bool false), .is (.bool false), .is (.slice (some ⟨gh, 0, none⟩) 512 cp), .is (.pointer (some ⟨g, 0, none⟩)), .is (.pointer (some ⟨g, 0, none⟩)), .is (.pointer (some ⟨g, 5, none⟩)), .is (.int .i64 (s.age : Int)),
    .is (.pointer (some ⟨g, 0, none⟩)), .is (.pointer (some ⟨g, 0, none⟩)), .is (.pointer (some ⟨g, 6, none⟩)), .is (.int .i64 (s.number : Int)), .is (.slice (some ⟨gb, 0, none⟩) n cb),
    .has (SecV 0 (startL (s.age : Int) (s.number : Int) B)), .is (.bool false), .is (.bool true), .is (.bool true)] (by kernel_rfl) (by kernel_rfl) ?_
  repeat1' (refine wpInv_is ?_ ?_; (focus (intro W hW hF K hK; clear hF; obtain ⟨d5, d6⟩ := HC10.out W hW; go_simp; exact hK _ _ (Gl.refl _) rfl)); simp only [Act.put, List.setIfInBounds_toArray, List.set_cons_zero, List.set_cons_succ])
  refine wpInv_has _ (secV_stable _ _) ?_ ?_
  · intro W hW hF K hK
    clear hF
    go_simp
    refine (HSS.out W hW).mono ?_
    rintro e w1 ⟨gs, rfl, hR, _, hb⟩
    exact ⟨_, rfl, hK _ _ hb ⟨gs, rfl, hR, Nat.zero_le _⟩⟩
  intro v13
  simp only [Act.put, List.setIfInBounds_toArray, List.set_cons_zero, List.set_cons_succ]
  refine wpInv_is ?_ ?_
  · intro W hW hF K hK
    obtain ⟨gs, rfl, hR, _⟩ := hF _ (List.mem_cons_self ..) (by kernel_rfl)
    have HE := Lib.hid (HEQ.out W gs hW hR)
    clear hF hR
    go_simp
    refine HE.out.mono ?_
    rintro e w1 ⟨rfl, rfl⟩
    exact ⟨_, rfl, hK _ _ (Gl.refl _) rfl⟩
  simp only [Act.put, List.setIfInBounds_toArray, List.set_cons_zero, List.set_cons_succ]
  repeat1' (refine wpInv_is ?_ ?_; (focus (intro W hW hF K hK; clear hF; go_simp; exact hK _ _ (Gl.refl _) rfl)); simp only [Act.put, List.setIfInBounds_toArray, List.set_cons_zero, List.set_cons_succ])
  refine wpInv_end ?_
  intro w12 hW hF
  obtain ⟨gs, rfl, _, _⟩ := hF _ (List.mem_cons_self ..)
  have HB12 := Lib.hid (Below.step (Below.step hW.undrew HV10.out HV10.out.size) HB3.out HB3.out.size)
  clear hW hF
  go_wp2_with fail
  go_ret2
  exact ⟨rfl, HB12.out⟩
set_option maxHeartbeats 2000000 in
theorem next_bytes (w : World) (F : Nat → Prop) (g p m : Nat) (s : LSt) (N : List ByteArray) (L0 : List Nat) (h : Qd w F p N m) (hl : LogAt w g p s) (hu : s.used < s.c) (hc : s.c ≤ 30000) (hf : s.f + s.c ≤ N.length) (hN : N.length ≤ 65536) (ht : Cr.Tab w) (hL0 : L0 = bytesOf (N.getD (s.f + s.used) ⟨#[]⟩))
    (l1 l2 l3 : List Nat) (e1 e2 n1 n2 : Int) (n : Nat) (hrb : ∀ W, Below w.heap.size w W → Calls Tryd.prog 62 #[.pointer (some ⟨g, 0, none⟩), .int .i64 ((s.f : Int) + (s.used : Int) + 1), .int .i64 (n : Int)] W fun e w' => e = .returned (.tuple #[.slice none 0 0, .bool false]) ∧ Below W.heap.size W w') (hBn : n ≤ 30000000) (hag : s.age < 4611686018427387904) (hnu : s.number ≤ 65536) (hr1 : Wr.readNum (s.age : Int) (s.age : Int) (L0.drop 1) 0 = (n1, l1, e1)) (hr2 : Wr.readNum (s.number : Int) (s.number : Int) l1 e1 = (n2, l2, e2)) (hr3 : Wr.readNum 0 (((s.c - s.used - 1) * 511 : Nat) : Int) l2 e2 = ((n : Int), l3, 0)) :
    Calls Tryd.prog 35 #[.pointer (some ⟨g, 0, none⟩)] w fun e w' => e = .returned (.tuple #[.slice none 0 0, .bool false]) ∧ Below w.heap.size w w' := by
  have HRB := Lib.hid hrb
  clear hrb
  have q1 : -9223372036854775808 ≤ (s.age : Int) := by omega
  have q2 : (s.age : Int) ≤ 9223372036854775807 := by omega
  have q3 : -9223372036854775808 ≤ (s.number : Int) := by omega
  have q4 : (s.number : Int) ≤ 9223372036854775807 := by omega
  have q5 : n ≤ 70368744177664 := by omega
  have q6 : -9223372036854775808 ≤ (s.f : Int) + (s.used : Int) + 1 := by omega
  have q7 : (s.f : Int) + (s.used : Int) + 1 ≤ 9223372036854775807 := by omega
  have hmul : (((s.c - s.used - 1) * 511 : Nat) : Int) = (((s.c - s.used : Nat) : Int) - 1) * 511 := by omega
  have hkb : s.c - s.used ≤ 30000 := by omega
  have hk1 : 0 < s.c - s.used := by omega
  have hc65 : s.c ≤ 65536 := by omega
  have hfu : s.f + s.used < N.length := by omega
  have hfuc : ((s.f + s.used : Nat) : Int) = (s.f : Int) + (s.used : Int) := by omega
  have HLW : Hid (∀ W, Below w.heap.size w W → LogAt W g p s) := Lib.hid (fun W hb => hl.below hb)
  have HQW : Hid (∀ W, Below w.heap.size w W → Qd W F p N m) := Lib.hid (fun W hb => h.below hb)
  have HTW : Hid (∀ W, Below w.heap.size w W → Cr.Tab W) := Lib.hid (fun W hb => Cr.Tab.below ht hb)
  have hlt := hl.lt
  have hleft : ((s.c - s.used : Nat) : Int) = (s.c : Int) - (s.used : Int) := by omega
  have h0i : (((s.c - s.used : Nat) : Int) == 0) = false := by simp; omega
  have HW12 : Hid (IntKind.i64.wrap ((s.f : Int) + (s.used : Int)) = (s.f : Int) + (s.used : Int) ∧ wrap64 ((s.f : Int) + (s.used : Int)) = (s.f : Int) + (s.used : Int)) := Lib.hid ⟨by rw [IntKind.wrap_i64]; omega, by unfold wrap64; omega⟩
  have HLeft : Hid (∀ W, Below w.heap.size w W → Calls Tryd.prog 30 #[.pointer (some ⟨g, 0, none⟩)] W fun e w' => e = .returned (.int .i64 ((s.c - s.used : Nat) : Int)) ∧ Below W.heap.size W w') := Lib.hid (fun W hb => by
    refine (left_any W g p s (hl.below hb) (Nat.le_of_lt hu) hc65).mono ?_
    rintro e w' ⟨rfl, n, rfl⟩
    exact ⟨rfl, below_dN W n⟩)
  have HRead : Hid (∀ W, Below w.heap.size w W → Calls Tryd.prog 58 #[.pointer (some ⟨g, 0, none⟩), .int .i64 ((s.f : Int) + (s.used : Int))] W fun e w' => ∃ gh c, e = .returned (.slice (some ⟨gh, 0, none⟩) 512 c) ∧ ByteRow w' (some ⟨gh, 0, none⟩) 512 L0 ∧ W.heap.size ≤ gh ∧ Below W.heap.size W w' ∧ (512 ≤ c ∧ c ≤ maxLen)) := Lib.hid (fun W hb => by
    have hr := dread W F p m (s.f + s.used) g N (h.below hb) (hl.below hb).dev hfu
    rw [hfuc, ← hL0] at hr
    exact hr)
  rw [hmul] at hr3
  clear h hl ht hL0 hleft hmul
  generalize hK : s.c - s.used = K at *
  have HKK := Lib.hid hK
  clear hK
  have HW3 : Hid (wrap64 (((K : Int) - 1) * 511) = ((K : Int) - 1) * 511) := Lib.hid (by unfold wrap64; omega)
  have HR1 := Lib.hid hr1
  have HR2 := Lib.hid hr2
  have HR3 := Lib.hid hr3
  clear hr1 hr2 hr3
  go_enter Tryd.func35, Tryd.ntmps35
  go_wp2_with (go_at_call 30; refine (HLeft.out _ (Below.refl _ _)).mono ?_; rintro e w1 ⟨rfl, hb⟩; have HB1 := Lib.hid hb; clear hb)
  have HC1 : Hid (∀ W, Gl w1.drew W → W.cell? ⟨g, 2, none⟩ = some (.int .i64 (s.f : Int)) ∧ W.cell? ⟨g, 7, none⟩ = some (.int .i64 (s.used : Int))) := Lib.hid (fun W hW => by
    have h := (HLW.out W (Below.step hW.undrew HB1.out HB1.out.size)).at_
    exact ⟨h.1, h.2.2.2.2.2.1⟩)
  obtain ⟨hw1, hw2⟩ := HW12.out
  refine wp_region_inv_lit [.is (.pointer (some ⟨g, 0, none⟩)), .is (.pointer (some ⟨g, 0, none⟩)), .is (.pointer (some ⟨g, 2, none⟩)), .is (.int .i64 (s.f : Int)),
    .is (.pointer (some ⟨g, 0, none⟩)), .is (.pointer (some ⟨g, 0, none⟩)), .is (.pointer (some ⟨g, 7, none⟩)), .is (.int .i64 (s.used : Int)), .is (.int .i64 ((s.f : Int) + (s.used : Int))), .is (.int .i64 ((s.f : Int) + (s.used : Int)))] (by kernel_rfl) (by kernel_rfl) ?_
  repeat1' (refine wpInv_is ?_ ?_; (focus (intro W hW hF K hK; clear hF; obtain ⟨d2, d7⟩ := HC1.out W hW; go_simp; exact hK _ _ (Gl.refl _) rfl)); simp only [Act.put, List.setIfInBounds_toArray, List.set_cons_zero, List.set_cons_succ])
  refine wpInv_end ?_
  intro w2 hW hF
  have HB2 := Lib.hid (Below.step hW.undrew HB1.out HB1.out.size)
  clear hW hF HC1 hw1 hw2
  go_wp2_with (first
    | (go_at_call 58; refine (HRead.out _ HB2.out).mono ?_; rintro e w3 ⟨gh, cp, rfl, hR, _, hb, hc1, hc2⟩; have HRow := Lib.hid hR; have HB3 := Lib.hid (Below.step hb HB2.out HB2.out.size); have hsl := fun W => slice1 gh cp hc1 W; have HO := Lib.hid (Wr.open_any (some ⟨gh, 1, none⟩) 511 (cp - 1) (L0.drop 1) w3 ⟨row_drop1 hR, by omega, by omega, fun e => by cases e⟩ (by omega)); clear hR hb)
    | (go_at_call 59; refine HO.out.mono ?_; rintro e w4 ⟨q, rfl, hi, hq, hb⟩; have HI4 := Lib.hid hi; have HP := Lib.hid hq; have HV4 := Lib.hid hb; clear hi hq hb))
  have HC4 : Hid (∀ W, Gl w4.drew W → W.cell? ⟨g, 5, none⟩ = some (.int .i64 (s.age : Int))) := Lib.hid (fun W hW => by
    have h := (HLW.out W (Below.step (Below.step hW.undrew HV4.out HV4.out.size) HB3.out HB3.out.size)).at_
    exact h.2.2.2.1)
  refine wp_region_last_lit [.is (.pointer (some ⟨q, 0, none⟩)), .is (.pointer (some ⟨g, 0, none⟩)), .is (.pointer (some ⟨g, 0, none⟩)), .is (.pointer (some ⟨g, 5, none⟩)), .is (.int .i64 (s.age : Int)),
    .is (.pointer (some ⟨g, 0, none⟩)), .is (.pointer (some ⟨g, 0, none⟩)), .is (.pointer (some ⟨g, 5, none⟩)), .is (.int .i64 (s.age : Int))] (by kernel_rfl) (by kernel_rfl) (by kernel_rfl) (by kernel_rfl) ?_
  repeat1' (refine wpInvL_is ?_ ?_; (focus (intro W hW hF K hK; clear hF; have d := HC4.out W hW; go_simp; exact hK _ _ (Gl.refl _) rfl)); simp only [Act.put, List.setIfInBounds_toArray, List.set_cons_zero, List.set_cons_succ])
  refine wpInvL_last ?_
  intro W hW hF
  have HVW := Lib.hid (Below.step hW.undrew HV4.out HV4.out.size)
  have HIW := Lib.hid (Wr.InAt.below HI4.out hW.undrew)
  clear hW hF HC4
  go_simp
  refine (Wr.inNum_any q (s.age : Int) (s.age : Int) (L0.drop 1) 0 W HIW.out).mono ?_
  rintro e w5 ⟨rfl, hi, hb⟩
  refine ⟨_, rfl, ?_⟩
  rw [HR1.out] at hi ⊢
  have HI5 := Lib.hid hi
  have HV5 := Lib.hid (Below.trans HVW.out (hb _ HP.out))
  clear hi hb HVW HIW
  go_wp2_with fail
  have HC5 : Hid (∀ W, Gl w5.drew W → W.cell? ⟨g, 6, none⟩ = some (.int .i64 (s.number : Int))) := Lib.hid (fun W hW => by
    have h := (HLW.out W (Below.step (Below.step hW.undrew HV5.out HV5.out.size) HB3.out HB3.out.size)).at_
    exact h.2.2.2.2.1)
  refine wp_region_last_lit [.is (.pointer (some ⟨q, 0, none⟩)), .is (.pointer (some ⟨g, 0, none⟩)), .is (.pointer (some ⟨g, 0, none⟩)), .is (.pointer (some ⟨g, 6, none⟩)), .is (.int .i64 (s.number : Int)),
    .is (.pointer (some ⟨g, 0, none⟩)), .is (.pointer (some ⟨g, 0, none⟩)), .is (.pointer (some ⟨g, 6, none⟩)), .is (.int .i64 (s.number : Int))] (by kernel_rfl) (by kernel_rfl) (by kernel_rfl) (by kernel_rfl) ?_
  repeat1' (refine wpInvL_is ?_ ?_; (focus (intro W hW hF K hK; clear hF; have d := HC5.out W hW; go_simp; exact hK _ _ (Gl.refl _) rfl)); simp only [Act.put, List.setIfInBounds_toArray, List.set_cons_zero, List.set_cons_succ])
  refine wpInvL_last ?_
  intro W hW hF
  have HVW := Lib.hid (Below.step hW.undrew HV5.out HV5.out.size)
  have HIW := Lib.hid (Wr.InAt.below HI5.out hW.undrew)
  clear hW hF HC5
  go_simp
  refine (Wr.inNum_any q (s.number : Int) (s.number : Int) l1 e1 W HIW.out).mono ?_
  rintro e w6 ⟨rfl, hi, hb⟩
  refine ⟨_, rfl, ?_⟩
  rw [HR2.out] at hi ⊢
  have HI6 := Lib.hid hi
  have HV6 := Lib.hid (Below.trans HVW.out (hb _ HP.out))
  clear hi hb HVW HIW
  have hw3 := HW3.out
  go_wp2_with (first
    | (go_at_call 30; refine (HLeft.out _ (Below.step HV6.out HB3.out HB3.out.size)).mono ?_; rintro e w7 ⟨rfl, hb⟩; have HV7 := Lib.hid (Below.step hb HV6.out HV6.out.size); have HI7 := Lib.hid (Wr.InAt.below HI6.out hb); clear hb)
    | (go_at_call 60; refine (Wr.inNum_any q 0 (((K : Int) - 1) * 511) l2 e2 _ HI7.out).mono ?_; rintro e w8 ⟨rfl, hi, hb⟩; rw [HR3.out] at hi ⊢; have HI8 := Lib.hid hi; have HV8 := Lib.hid (Below.trans HV7.out (hb _ HP.out)); clear hi hb)
    | (go_at_call 61; refine (Wr.err_any q l3 0 _ HI8.out).mono ?_; rintro e w9 ⟨rfl, rfl⟩))
  clear hw3
  have hw4 : wrap64 ((s.f : Int) + (s.used : Int) + 1) = (s.f : Int) + (s.used : Int) + 1 := wrap_id _ q6 q7
  go_wp2_with (go_at_call 62; refine (HRB.out _ (Below.step HV8.out HB3.out HB3.out.size)).mono ?_; rintro e w10 ⟨rfl, hb⟩; have HV10 := Lib.hid (Below.step hb HV8.out HV8.out.size); clear hb)
  refine wp_region_inv_lit [.is (.bool false), .is (.bool true), .is (.bool true), .is undef, .is undef, .is undef, .is undef, .is undef, .is undef, .is undef, .is undef, .is undef, .is undef, .is undef, .is undef, .is undef, .is (.bool true)] (by kernel_rfl) (by kernel_rfl) ?_
  repeat1' (refine wpInv_is ?_ ?_; (focus (intro W hW hF K hK; clear hF; go_simp; exact hK _ _ (Gl.refl _) rfl)); simp only [Act.put, List.setIfInBounds_toArray, List.set_cons_zero, List.set_cons_succ])
  refine wpInv_end ?_
  intro w12 hW hF
  have HB12 := Lib.hid (Below.step (Below.step hW.undrew HV10.out HV10.out.size) HB3.out HB3.out.size)
  clear hW hF
  go_wp2_with fail
  go_ret2
  exact ⟨rfl, HB12.out⟩
end Go.Proofs.YtcmnfbpmkndfkaaDoor
namespace Go.Proofs.YtcmnfbpmkndfkaaDoor
open Go.ChangeShapes Go.WideShapes Go.ChangeAt Go.RowKit
set_option linter.unusedVariables false
set_option maxRecDepth 100000

theorem next_full (w : World) (g p : Nat) (s : LSt) (hl : LogAt w g p s) (hu : s.used = s.c) (hc : s.c ≤ 30000) :
    Calls Tryd.prog 35 #[.pointer (some ⟨g, 0, none⟩)] w fun e w' => e = .returned (.tuple #[.slice none 0 0, .bool false]) ∧ Below w.heap.size w w' := by
  have HL := Lib.hid (left_any w g p s hl (by omega) (by omega))
  rw [hu, Nat.sub_self] at HL
  clear hl
  go_enter Tryd.func35, Tryd.ntmps35
  go_wp2_with (go_at_call 30; refine HL.out.mono ?_; rintro e w1 ⟨rfl, n1, rfl⟩)
  go_ret2
  exact ⟨rfl, below_dN w n1⟩
/-- the sector that the next record would begin with -/
def LSt.start (s : LSt) (N : List ByteArray) : List Nat := bytesOf (N.getD (s.f + s.used) ⟨#[]⟩)
/-- what the start of a record says there: its count -/
def Says (N : List ByteArray) (s : LSt) (n : Int) : Prop := ∃ l1 l2 l3 e1 e2 n1 n2, Wr.readNum (s.age : Int) (s.age : Int) ((s.start N).drop 1) 0 = (n1, l1, e1) ∧ Wr.readNum (s.number : Int) (s.number : Int) l1 e1 = (n2, l2, e2) ∧ Wr.readNum 0 (((s.c - s.used - 1) * 511 : Nat) : Int) l2 e2 = (n, l3, 0)
/-- no record stands there -/
def NoRec (N : List ByteArray) (s : LSt) : Prop := s.used = s.c ∨ (s.used < s.c ∧ ∃ l1 l2 l3 e1 e2 e3 n1 n2 n3, Wr.readNum (s.age : Int) (s.age : Int) ((s.start N).drop 1) 0 = (n1, l1, e1) ∧ Wr.readNum (s.number : Int) (s.number : Int) l1 e1 = (n2, l2, e2) ∧ Wr.readNum 0 (((s.c - s.used - 1) * 511 : Nat) : Int) l2 e2 = (n3, l3, e3) ∧ (e3 != 0) = true) ∨
  (s.used < s.c ∧ ∃ (n j0 : Nat) (B : List Nat), Says N s (n : Int) ∧ B.length = 511 * j0 ∧ 511 * j0 < n ∧ (∀ c ∈ B, c < 256) ∧ (∀ j, j < j0 → bytesOf (N.getD (s.f + s.used + 1 + j) ⟨#[]⟩) = bytesL ((B.drop (511 * j)).take 511)) ∧ bytesOf (N.getD (s.f + s.used + 1 + j0) ⟨#[]⟩) ≠ bytesL (((bytesOf (N.getD (s.f + s.used + 1 + j0) ⟨#[]⟩)).drop 1).take (min (n - 511 * j0) 511))) ∨
  (s.used < s.c ∧ ∃ B : List Nat, Says N s (B.length : Int) ∧ (∀ c ∈ B, c < 256) ∧ Parts N (s.f + s.used + 1) B ∧ s.start N ≠ startL (s.age : Int) (s.number : Int) B)
theorem readNum_le {lo hi x : Int} {l l' : List Nat} {e : Int} (h : Wr.readNum lo hi l e = (x, l', 0)) : lo ≤ x ∧ x ≤ hi := by
  unfold Wr.readNum at h
  split at h
  · injection h with a b
    injection b with b c
    exact absurd c (by omega)
  · split at h
    · injection h with a b
      injection b with b c
      exact absurd c (by omega)
    · split at h
      · injection h with a b
        injection b with b c
        exact absurd c (by decide)
      · rename_i hh
        injection h with a b
        rw [a] at hh
        omega
/-- that record stands there -/
def IsRec (N : List ByteArray) (s : LSt) (B : List Nat) : Prop := s.used < s.c ∧ B.length ≤ 30000000 ∧ (∀ c ∈ B, c < 256) ∧ Parts N (s.f + s.used + 1) B ∧ s.start N = startL (s.age : Int) (s.number : Int) B ∧
  ∃ l1 l2 l3 e1 e2 n1 n2, Wr.readNum (s.age : Int) (s.age : Int) ((s.start N).drop 1) 0 = (n1, l1, e1) ∧ Wr.readNum (s.number : Int) (s.number : Int) l1 e1 = (n2, l2, e2) ∧ Wr.readNum 0 (((s.c - s.used - 1) * 511 : Nat) : Int) l2 e2 = ((B.length : Int), l3, 0)
theorem next_no (w : World) (F : Nat → Prop) (g p m : Nat) (s : LSt) (N : List ByteArray) (h : Qd w F p N m) (hl : LogAt w g p s) (hc : s.c ≤ 30000) (hf : s.f + s.c ≤ N.length) (hN : N.length ≤ 65536) (ht : Cr.Tab w) (hag : s.age < 4611686018427387904) (hnu : s.number ≤ 65536) (hr : NoRec N s) :
    Calls Tryd.prog 35 #[.pointer (some ⟨g, 0, none⟩)] w fun e w' => e = .returned (.tuple #[.slice none 0 0, .bool false]) ∧ Below w.heap.size w w' := by
  rcases hr with hr | ⟨hu, l1, l2, l3, e1, e2, e3, n1, n2, n3, r1, r2, r3, he⟩ | ⟨hu, n, j0, B, ⟨l1, l2, l3, e1, e2, n1, n2, r1, r2, r3⟩, hBl, hj0, h256, hP, hbad⟩ | ⟨hu, B, ⟨l1, l2, l3, e1, e2, n1, n2, r1, r2, r3⟩, h256, hP, hst⟩
  · exact next_full w g p s hl hr hc
  · exact next_none w F g p m s N _ h hl hu hc hf hN ht rfl l1 l2 l3 e1 e2 e3 n1 n2 n3 r1 r2 r3 he
  · have hle := (readNum_le r3).2
    have hn : n ≤ (s.c - s.used - 1) * 511 := by omega
    refine next_bytes w F g p m s N _ h hl hu hc hf hN ht rfl l1 l2 l3 e1 e2 n1 n2 n (fun W hb => ?_) (by omega) hag hnu r1 r2 r3
    have hrb := readBytes_bad W F g p m (s.f + s.used + 1) n j0 N B _ (h.below hb) (hl.below hb).dev (by omega) h256 hBl hj0 (fun j hj => ⟨by omega, hP j hj⟩) (by omega) rfl hbad hN (by omega)
    rw [show ((s.f + s.used + 1 : Nat) : Int) = (s.f : Int) + (s.used : Int) + 1 by omega] at hrb
    exact hrb
  · have hle := (readNum_le r3).2
    exact next_differ w F g p m s N _ h hl hu hc hf hN ht rfl l1 l2 l3 e1 e2 n1 n2 B.length B rfl (by omega) h256 hP hst hag hnu r1 r2 r3
theorem next_yes (w : World) (F : Nat → Prop) (g p m : Nat) (s : LSt) (N : List ByteArray) (h : Qd w F p N m) (hl : LogAt w g p s) (hc : s.c ≤ 30000) (hf : s.f + s.c ≤ N.length) (hN : N.length ≤ 65536) (ht : Cr.Tab w) (hag : s.age < 4611686018427387904) (hnu : s.number ≤ 65536) (B : List Nat) (hr : IsRec N s B) :
    Calls Tryd.prog 35 #[.pointer (some ⟨g, 0, none⟩)] w fun e w' => ∃ gb cb, e = .returned (.tuple #[.slice (some ⟨gb, 0, none⟩) B.length cb, .bool true]) ∧ ByteRow w' (some ⟨gb, 0, none⟩) B.length B ∧ w.heap.size ≤ gb ∧ Below w.heap.size w w' := by
  obtain ⟨hu, hBn, h256, hP, hst, l1, l2, l3, e1, e2, n1, n2, r1, r2, r3⟩ := hr
  exact next_some w F g p m s N _ h hl hu hc hf hN ht rfl l1 l2 l3 e1 e2 n1 n2 B.length B rfl hBn h256 hP hst hag hnu r1 r2 r3
/-- these records stand there, and no more -/
def Recs (N : List ByteArray) : LSt → List (List Nat) → Prop
  | s, [] => NoRec N s
  | s, B :: R => IsRec N s B ∧ Recs N (s.passed B.length) R
def LSt.through (s : LSt) (R : List (List Nat)) : LSt := R.foldl (fun s B => s.passed B.length) s
/-- what next hands back, where these records stand -/
def NextRes (W : World) (N : List ByteArray) (s : LSt) (base : Nat) (b ok : Value) : List (List Nat) → Prop
  | [] => b = .slice none 0 0 ∧ ok = .bool false ∧ NoRec N s
  | B :: R => ∃ gb cb, b = .slice (some ⟨gb, 0, none⟩) B.length cb ∧ ok = .bool true ∧ ByteRow W (some ⟨gb, 0, none⟩) B.length B ∧ base ≤ gb ∧ IsRec N s B ∧ Recs N (s.passed B.length) R
theorem NextRes.below {W W' : World} {N : List ByteArray} {s : LSt} {base : Nat} {b ok : Value} {R : List (List Nat)} (h : NextRes W N s base b ok R) (hb : Below W.heap.size W W') : NextRes W' N s base b ok R := by
  cases R with
  | nil => exact h
  | cons B R =>
    obtain ⟨gb, cb, h1, h2, h3, h4⟩ := h
    exact ⟨gb, cb, h1, h2, h3.below hb, h4⟩
theorem isrec_used {N : List ByteArray} {s : LSt} {B : List Nat} (h : IsRec N s B) : s.used + (1 + sectorsN B.length) ≤ s.c := by
  obtain ⟨h1, h2, h3, h4, h5, l1, l2, l3, e1, e2, n1, n2, r1, r2, r3⟩ := h
  have hle := (readNum_le r3).2
  unfold sectorsN
  omega
theorem next_res (w : World) (F : Nat → Prop) (g p m : Nat) (s : LSt) (N : List ByteArray) (h : Qd w F p N m) (hl : LogAt w g p s) (hc : s.c ≤ 30000) (hf : s.f + s.c ≤ N.length) (hN : N.length ≤ 65536) (ht : Cr.Tab w) (hag : s.age < 4611686018427387904) (hnu : s.number ≤ 65536) (R : List (List Nat)) (hr : Recs N s R) :
    Calls Tryd.prog 35 #[.pointer (some ⟨g, 0, none⟩)] w fun e w' => ∃ b ok, e = .returned (.tuple #[b, ok]) ∧ NextRes w' N s w.heap.size b ok R ∧ Below w.heap.size w w' := by
  cases R with
  | nil =>
    refine (next_no w F g p m s N h hl hc hf hN ht hag hnu hr).mono ?_
    rintro e w' ⟨rfl, hb⟩
    exact ⟨_, _, rfl, ⟨rfl, rfl, hr⟩, hb⟩
  | cons B R =>
    refine (next_yes w F g p m s N h hl hc hf hN ht hag hnu B hr.1).mono ?_
    rintro e w' ⟨gb, cb, rfl, hR, hg, hb⟩
    exact ⟨_, _, rfl, ⟨gb, cb, rfl, rfl, hR, hg, hr.1, hr.2⟩, hb⟩
end Go.Proofs.YtcmnfbpmkndfkaaDoor
namespace Go.Proofs.YtcmnfbpmkndfkaaDoor
open Go.ChangeShapes Go.WideShapes Go.ChangeAt Go.RowKit
set_option linter.unusedVariables false
set_option maxRecDepth 100000

/-- slices of bytes, one behind the other -/
def RowVals (W : World) : List (List Nat) → List Value → Prop
  | [], [] => True
  | B :: R, v :: vs => (∃ gb cb, v = .slice (some ⟨gb, 0, none⟩) B.length cb ∧ ByteRow W (some ⟨gb, 0, none⟩) B.length B) ∧ RowVals W R vs
  | _, _ => False
theorem RowVals.snoc {W : World} {R : List (List Nat)} {vs : List Value} (h : RowVals W R vs) {B : List Nat} {gb cb : Nat} (hb : ByteRow W (some ⟨gb, 0, none⟩) B.length B) : RowVals W (R ++ [B]) (vs ++ [.slice (some ⟨gb, 0, none⟩) B.length cb]) := by
  induction R generalizing vs with
  | nil =>
    cases vs with
    | nil => exact ⟨⟨gb, cb, rfl, hb⟩, trivial⟩
    | cons v vs => exact h.elim
  | cons C R ih =>
    cases vs with
    | nil => exact h.elim
    | cons v vs => exact ⟨h.1, ih h.2⟩
theorem RowVals.length {W : World} {R : List (List Nat)} {vs : List Value} (h : RowVals W R vs) : vs.length = R.length := by
  induction R generalizing vs with
  | nil => cases vs with
    | nil => rfl
    | cons v vs => exact h.elim
  | cons C R ih => cases vs with
    | nil => exact h.elim
    | cons v vs => rw [List.length_cons, List.length_cons, ih h.2]
theorem RowVals.keep {W W' : World} {R : List (List Nat)} {vs : List Value} (h : RowVals W R vs) (hk : ∀ gb n B, ByteRow W (some ⟨gb, 0, none⟩) n B → ByteRow W' (some ⟨gb, 0, none⟩) n B) : RowVals W' R vs := by
  induction R generalizing vs with
  | nil => cases vs with
    | nil => trivial
    | cons v vs => exact h.elim
  | cons C R ih => cases vs with
    | nil => exact h.elim
    | cons v vs =>
      obtain ⟨⟨gb, cb, h1, h2⟩, h3⟩ := h
      exact ⟨⟨gb, cb, h1, hk _ _ _ h2⟩, ih h3⟩
theorem RowVals.slice {W : World} {R : List (List Nat)} {vs : List Value} (h : RowVals W R vs) {u : Value} (hu : vs[0]? = some u) : ∃ a n c, u = .slice a n c := by
  cases R with
  | nil => cases vs with
    | nil => cases hu
    | cons v vs => exact h.elim
  | cons C R => cases vs with
    | nil => cases hu
    | cons v vs =>
      obtain ⟨⟨gb, cb, h1, _⟩, _⟩ := h
      injection hu with hu
      exact ⟨_, _, _, hu.symm.trans h1⟩
theorem RowVals.get {W : World} {R : List (List Nat)} {vs : List Value} (h : RowVals W R vs) (i : Nat) (hi : i < R.length) : ∃ gb cb, vs[i]? = some (.slice (some ⟨gb, 0, none⟩) (R.getD i []).length cb) ∧ ByteRow W (some ⟨gb, 0, none⟩) (R.getD i []).length (R.getD i []) := by
  induction R generalizing vs i with
  | nil => exact absurd hi (Nat.not_lt_zero _)
  | cons C R ih => cases vs with
    | nil => exact h.elim
    | cons v vs =>
      obtain ⟨⟨gb, cb, h1, h2⟩, h3⟩ := h
      cases i with
      | zero => exact ⟨gb, cb, by rw [h1]; rfl, h2⟩
      | succ i => exact ih h3 i (by simpa using hi)
/-- a [][]byte of the call's own -/
def RowsOf (W : World) (base : Nat) (v : Value) (R : List (List Nat)) : Prop := ∃ vs, W.ownsRow base 34 1 v R.length vs ∧ RowVals W R vs ∧ (R = [] → v = .slice none 0 0)
/-- a row of bytes does not lie in the block of the rows -/
theorem rows_apart {W : World} {base k gb n : Nat} {v : Value} {R : List (List Nat)} {vs : List Value} {B : List Nat} (h : W.ownsRow base 34 1 v k vs) (hv : RowVals W R vs) (hk : vs ≠ [] ∨ v.ownBlock = none) (hb : ByteRow W (some ⟨gb, 0, none⟩) n B) (h0 : 0 < n) : v.ownBlock ≠ some gb := by
  intro e
  rcases hk with hk | hk
  · obtain ⟨b, o, e2, hc⟩ := hb.2.2.2 h0
    injection e2 with e2
    injection e2 with e3 e4
    subst e3 e4
    have h1 := hc 0 h0
    cases vs with
    | nil => exact hk rfl
    | cons x xs =>
      have h2 := h.cells e 0 x rfl
      rw [Cr.addr_add] at h2
      obtain ⟨a, m, c, rfl⟩ := hv.slice (u := x) rfl
      rw [Nat.zero_add] at h1 h2
      rw [h1] at h2
      cases h2
  · rw [hk] at e
    cases e
theorem infoB : (Tryd.prog.info? 34).map (fun i => (i.zero, i.size, i.bytes)) = some (some (.slice none 0 0), 1, 24) := by kernel_rfl
theorem byteRow_grown {W W' : World} {row : Option Nat} {gb n : Nat} {B : List Nat} (h : ByteRow W (some ⟨gb, 0, none⟩) n B) (hg : W.grownBy W' row) (hne : 0 < n → row ≠ some gb) : ByteRow W' (some ⟨gb, 0, none⟩) n B := by
  refine h.keep (fun b o i e h0 => ?_)
  injection e with e
  injection e with e1 e2
  subst e1
  obtain ⟨b', o', e3, hc⟩ := h.2.2.2 h0
  injection e3 with e3
  injection e3 with e4 e5
  subst e4 e5
  have hlt := cell_lt (hc 0 h0)
  exact World.cell?_of_block (hg.block _ hlt (fun e => hne h0 e.symm))
/-- behind an append of one more -/
theorem RowsOf.snoc {W W' : World} {base : Nat} {v v' : Value} {R : List (List Nat)} {vs : List Value} {B : List Nat} {gb cb : Nat} (h : W.ownsRow base 34 1 v R.length vs) (hv : RowVals W R vs) (hn : R = [] → v = .slice none 0 0) (hb : ByteRow W (some ⟨gb, 0, none⟩) B.length B)
    (h' : W'.ownsRow base 34 1 v' (R.length + 1) (vs ++ [.slice (some ⟨gb, 0, none⟩) B.length cb])) (hg : W.grownBy W' v.ownBlock) : RowsOf W' base v' (R ++ [B]) := by
  have hk : vs ≠ [] ∨ v.ownBlock = none := by
    cases R with
    | nil => right; rw [hn rfl]; rfl
    | cons C R =>
      left
      intro e
      have := hv.length
      rw [e] at this
      cases this
  have hall : ∀ gb n B, ByteRow W (some ⟨gb, 0, none⟩) n B → ByteRow W' (some ⟨gb, 0, none⟩) n B := fun gb n B hb => byteRow_grown hb hg (fun h0 => rows_apart h hv hk hb h0)
  refine ⟨_, by rw [List.length_append]; exact h', (hv.keep hall).snoc (hall _ _ _ hb), fun e => ?_⟩
  have := congrArg List.length e
  simp at this
theorem passed_f (s : LSt) (n : Nat) : (s.passed n).f = s.f ∧ (s.passed n).c = s.c ∧ (s.passed n).age = s.age ∧ (s.passed n).head = s.head ∧ (s.passed n).number = s.number + 1 ∧ (s.passed n).used = s.used + (1 + sectorsN n) := ⟨rfl, rfl, rfl, rfl, rfl, rfl⟩
theorem through_snoc (s : LSt) (R : List (List Nat)) (B : List Nat) : s.through (R ++ [B]) = (s.through R).passed B.length := by
  unfold LSt.through
  rw [List.foldl_append]
  rfl
theorem new_one (W : World) (u : Value) (t : TypeId) (fr : Nat × Nat) : ∀ (j : Nat) (x : Value), [u][j]? = some x → (W.alloc (.cells #[u] t fr)).cell? ((⟨W.heap.size, 0, none⟩ : Addr).add j) = some x := by
  intro j x hx
  cases j with
  | zero =>
    injection hx with hx
    subst hx
    exact Cr.cell_new W _ _ _ _ 0 _ rfl rfl
  | succ j => cases hx
theorem log_apart {W : World} {G p base k : Nat} {S : LSt} {v : Value} {vs : List Value} (hl : LogAt W G p S) (h : W.ownsRow base 34 1 v k vs) : v.ownBlock ≠ some G := by
  intro e
  rcases h.2 with ⟨rfl, _⟩ | ⟨g, cap, cur, rfl, _, hg, _⟩
  · cases e
  · injection e with e
    have e : g = G := e
    subst e
    unfold LogAt at hl
    rw [hl] at hg
    injection hg with hg
    injection hg with _ h2 _
    cases h2
theorem LogAt.grown {W W' : World} {G p : Nat} {S : LSt} {row : Option Nat} (h : LogAt W G p S) (hg : W.grownBy W' row) (hr : row ≠ some G) : LogAt W' G p S := by
  have hlt := h.lt
  unfold LogAt at h ⊢
  rw [hg.block G hlt (fun e => hr e.symm)]
  exact h
theorem byte_apart {W : World} {G p gb n : Nat} {S : LSt} {B : List Nat} (hl : LogAt W G p S) (hb : ByteRow W (some ⟨gb, 0, none⟩) n B) (h0 : 0 < n) : gb ≠ G := by
  intro e
  subst e
  obtain ⟨b, o, e2, hc⟩ := hb.2.2.2 h0
  injection e2 with e2
  injection e2 with e3 e4
  subst e3 e4
  have h1 := hc 0 h0
  have h2 := hl.dev.cells.1
  rw [Nat.zero_add] at h1
  rw [h1] at h2
  cases h2
theorem RowVals.below {W W' : World} {R : List (List Nat)} {vs : List Value} (h : RowVals W R vs) (hb : Below W.heap.size W W') : RowVals W' R vs := h.keep (fun _ _ _ h => h.below hb)
theorem RowsOf.below {W W' : World} {base : Nat} {v : Value} {R : List (List Nat)} (h : RowsOf W base v R) (hb : Below W.heap.size W W') : RowsOf W' base v R := by
  obtain ⟨vs, h1, h2, h3⟩ := h
  exact ⟨vs, own_below h1 hb, h2.below hb, h3⟩
theorem RowsOf.only_log {W W' : World} {base G p : Nat} {S : LSt} {v : Value} {R : List (List Nat)} (h : RowsOf W base v R) (hl : LogAt W G p S) (ho : Only (fun k => k = G) W W') : RowsOf W' base v R := by
  obtain ⟨vs, h1, h2, h3⟩ := h
  have hg : W.grownBy W' (some G) := ⟨ho.os, ho.tape, ho.output, ho.size, fun k hk hne => ho.block k hk (fun e => hne (by rw [e]))⟩
  exact ⟨vs, h1.kept hg (.inr (log_apart hl h1)), h2.keep (fun gb n B hb => byteRow_grown hb hg (fun h0 e => byte_apart hl hb h0 (Option.some.inj e).symm)), h3⟩
def lenOf : Value → Nat
  | .slice _ n _ => n
  | _ => 0
def openL (f c : Nat) : LSt := ⟨f, c, 0, 0, 0, 2⟩
set_option maxHeartbeats 2000000 in
theorem open_ok (w : World) (F : Nat → Prop) (p m f c : Nat) (N : List ByteArray) (R : List (List Nat)) (h : Qd w F p N m) (h3 : 3 ≤ c) (hc : c ≤ 30000) (hl : f + c ≤ N.length) (hN : N.length ≤ 65536) (ht : Cr.Tab w)
    (ha0 : 0 < (foundL N (openL f c) 2).age) (ha : (foundL N (openL f c) 2).age < 4611686018427387904) (hu : (foundL N (openL f c) 2).used = 2 ∧ (foundL N (openL f c) 2).number = 0 ∧ (foundL N (openL f c) 2).f = f ∧ (foundL N (openL f c) 2).c = c) (hr : Recs N (foundL N (openL f c) 2) R) :
    Calls Tryd.prog 14 #[.pointer (some ⟨p, 0, none⟩), .int .i64 (f : Int), .int .i64 (c : Int)] w fun e w' => ∃ v, e = .returned (.tuple #[.pointer (some ⟨w.heap.size, 0, none⟩), v, .int .i64 0]) ∧ LogAt w' w.heap.size p ((foundL N (openL f c) 2).through R) ∧ RowsOf w' w.heap.size v R ∧ Below w.heap.size w w' := by
  obtain ⟨i0, hi, hz0, hz1, hz2⟩ := info_parts infoB
  have HQ := Lib.hid h
  have HT := Lib.hid ht
  have HFI := Lib.hid (fun W (hW : w = W) => by subst hW; exact fits_any w F p m f c N h h3 hl hN)
  obtain ⟨S0, hS0⟩ : ∃ S0, S0 = foundL N (openL f c) 2 := ⟨_, rfl⟩
  rw [← hS0] at ha0 ha hu hr ⊢
  have HS0 := Lib.hid hS0
  have HR := Lib.hid hr
  have HU := Lib.hid hu
  have hqz : 0 < w.heap.size := cell_lt (ht 0 (by decide))
  clear h ht hr hS0 hu
  obtain ⟨G, hG⟩ : ∃ G, G = w.heap.size := ⟨_, rfl⟩
  rw [← hG]
  have HG := Lib.hid hG
  clear hG
  go_enter Tryd.func14, Tryd.ntmps14
  go_wp2_with (first
    | (go_at_call 33; refine (HFI.out _ rfl).mono ?_; rintro e w1 ⟨rfl, rfl⟩))
  obtain ⟨w1, hw1⟩ : ∃ w1, w1 = w.alloc (.cells #[.pointer (some ⟨p, 0, none⟩), .int .i64 0, .int .i64 (f : Int), .int .i64 (c : Int), .int .i64 0, .int .i64 0, .int .i64 0, .int .i64 2] 63) := ⟨_, rfl⟩
  have HB1 : Hid (Below w.heap.size w w1) := Lib.hid (by rw [hw1]; exact (Below.refl _ _).alloc (Nat.le_refl _) _)
  have HL1 : Hid (LogAt w1 w.heap.size p (openL f c)) := Lib.hid (by
    rw [hw1]
    exact World.alloc_heap_new w _)
  rw [← hw1]
  have HFH := Lib.hid (findHead_any w1 F w.heap.size p m (openL f c) N (HQ.out.below HB1.out) HL1.out (fun g => Nat.lt_irrefl _ (HQ.out.lts _ g)) (by show f + 2 ≤ _; omega) hN (Cr.Tab.below HT.out HB1.out) (by omega))
  rw [← HS0.out] at HFH
  clear hw1 HS0
  have hG := HG.out
  rw [← hG] at HFH HL1 ⊢
  clear hG
  have ha1 : ((S0.age : Int) == 0) = false := by simp; omega
  have s1 := HB1.out.size
  refine HFH.out.mono ?_
  rintro e w2 ⟨rfl, hlog, ho⟩
  have HL2 := Lib.hid hlog
  have HB2 : Hid (Below w.heap.size w w2) := Lib.hid (HB1.out.trans (ho.below HB1.out.size (fun k e => by rw [e, HG.out]; exact Nat.le_refl _)))
  obtain ⟨c2, c3, c4, c5, c6, c7, cf⟩ := HL2.out.at_
  obtain ⟨d0, d1, _⟩ := HL2.out.dev.cells
  have hlt2 := HL2.out.lt
  clear hlog ho HFH HL1 c2 c3 c4 c6 c7
  have HN : Hid (∀ W S R, Below w.heap.size w W → LogAt W G p S → S.f = f → S.c = c → S.age = S0.age → S.number ≤ 65536 → Recs N S R → Calls Tryd.prog 35 #[.pointer (some ⟨G, 0, none⟩)] W fun e w' => ∃ b ok, e = .returned (.tuple #[b, ok]) ∧ NextRes w' N S W.heap.size b ok R ∧ Below W.heap.size W w') := Lib.hid (fun W S R hb hl h1 h2 h3 h4 h5 => next_res W F G p m S N (HQ.out.below hb) hl (by omega) (by omega) hN (Cr.Tab.below HT.out hb) (by omega) h4 R h5)
  go_wp2_with (go_at_call 35; refine (HN.out _ S0 R HB2.out HL2.out HU.out.2.2.1 HU.out.2.2.2 rfl (by rw [HU.out.2.1]; omega) HR.out).mono ?_; rintro e w3 ⟨b, ok, rfl, hres, hb⟩; have HRes := Lib.hid hres; have HB3 := Lib.hid (Below.step hb HB2.out HB2.out.size); have HL3 := Lib.hid (HL2.out.below hb); clear hres hb)
  clear d0 d1 c5 cf hlt2
  go_loopw [10, 11, 12] (fun r b ok wr => ∃ (done rest : List (List Nat)) (S : LSt), R = done ++ rest ∧ S = S0.through done ∧ (S.f = f ∧ S.c = c ∧ S.age = S0.age ∧ S.number = done.length ∧ done.length + 2 ≤ S.used ∧ S.used ≤ c) ∧ LogAt wr G p S ∧ (∃ base, NextRes wr N S base b ok rest) ∧ (lenOf r = done.length ∧ RowsOf wr G r done) ∧ Below w.heap.size w wr) (fun r b ok wr => R.length - lenOf r)
  case atStart => exact ⟨[], R, S0, rfl, rfl, ⟨HU.out.2.2.1, HU.out.2.2.2, rfl, HU.out.2.1, by rw [HU.out.1]; exact Nat.le_refl _, by rw [HU.out.1]; omega⟩, HL3.out, ⟨_, HRes.out⟩, ⟨rfl, [], World.ownsRow_nil _ _ _ _, trivial, fun _ => rfl⟩, HB3.out⟩
  case round =>
    obtain ⟨done, rest, S, hRR, hSS, ⟨hSf, hSc, hSa, hSn, hSu, hSu2⟩, hlog, ⟨base, hres⟩, ⟨hlen, vs, hown, hvals, hnil⟩, hbel⟩ := hrel
    have HRR := Lib.hid hRR
    have HSS := Lib.hid hSS
    have HSf := Lib.hid (And.intro hSf (And.intro hSc (And.intro hSa (And.intro hSn (And.intro hSu hSu2)))))
    have HLr := Lib.hid hlog
    have HO := Lib.hid hown
    have HV := Lib.hid hvals
    have HNil := Lib.hid hnil
    have HBr := Lib.hid hbel
    have HLen := Lib.hid hlen
    have hlt := hlog.lt
    obtain ⟨d0, d1, df⟩ := hlog.dev.cells
    clear hRR hSS hSf hSc hSa hSn hown hvals hnil hbel HL3 HRes HB3 hlog hlen
    cases rest with
    | nil =>
      obtain ⟨rfl, rfl, _⟩ := hres
      go_wp2_with fail
      go_ret3
      have e : R = done := by have := HRR.out; rw [List.append_nil] at this; exact this
      subst e
      refine ⟨_, rfl, ?_, ⟨vs, HO.out, HV.out, HNil.out⟩, ?_⟩
      · rw [← HSS.out]; exact HLr.out
      · rw [HG.out]; exact HBr.out
    | cons B R2 =>
      obtain ⟨gb, cb, rfl, rfl, hB, _, hIs, hRecs⟩ := hres
      have HBR := Lib.hid hB
      have hbl : B.length ≤ 70368744177664 := by have := hIs.2.1; omega
      have huse := isrec_used hIs
      have HRecs := Lib.hid hRecs
      have hdl : done.length ≤ 30000 := by have := HSf.out; omega
      have hu65 : S.used ≤ 65536 := by have := HSf.out; omega
      have hn65 : S.number ≤ 65536 := by have := HSf.out; omega
      have hGw : G ≤ wr.heap.size := by omega
      clear hB hIs hRecs
      go_wp2_with (at_builtin; refine wpList_append_own _ rfl (.tmp 50) (.tmp 52) 38 rfl G 34 i0 (.slice none 0 0) 1 24 Tryd.underlying38 hi hz0 hz1 hz2 rfl (by decide) _ done.length vs rfl (HO.out.alloc _) ⟨wr.heap.size, 0, none⟩ 1 1 [.slice (some ⟨gb, 0, none⟩) B.length cb] rfl rfl ?c1 ?c2 ?c3 ?c4 ?c5 ?_)
      case c1 => exact new_one wr _ _ _
      case c2 => simp [Value.oneCell']
      case c3 => unfold maxLen; omega
      case c4 => omega
      case c5 => rw [size_alloc']; omega
      intro v' w5 hown' hgrow hnil'
      have hal : Below wr.heap.size wr (wr.alloc (.cells #[.slice (some ⟨gb, 0, none⟩) B.length cb] 34)) := (Below.refl _ _).alloc (Nat.le_refl _) _
      obtain ⟨g', cap', rfl⟩ := ownsRow_succ hown'
      have HR5 : Hid (RowsOf w5 G (.slice (some ⟨g', 0, none⟩) (done.length + 1) cap') (done ++ [B])) := Lib.hid (RowsOf.snoc (HO.out.alloc _) (HV.out.below hal) HNil.out (HBR.out.below hal) hown' hgrow)
      have HL5 : Hid (LogAt w5 G p S) := Lib.hid ((HLr.out.below hal).grown hgrow (log_apart (HLr.out.below hal) (HO.out.alloc _)))
      have HB5 : Hid (Below w.heap.size w w5) := Lib.hid ((HBr.out.alloc HBr.out.size _).grown hgrow (by rw [size_alloc']; have := HBr.out.size; omega) (fun k hk => by rw [← HG.out]; exact own_base HO.out hk))
      clear hown' hgrow hnil' hal d0 d1 df
      go_wp2_with (first
        | (go_at_call 28; refine (pass_any w5 G p B.length S HL5.out hbl hu65 hn65).mono ?_; rintro e w6 ⟨rfl, hl6, ho6⟩; have HL6 := Lib.hid hl6; have HR6 := Lib.hid (HR5.out.only_log HL5.out ho6); have HB6 : Hid (Below w.heap.size w w6) := Lib.hid (HB5.out.trans (ho6.below HB5.out.size (fun k e => by rw [e, HG.out]; exact Nat.le_refl _))); clear hl6 ho6)
        | (go_at_call 35; refine (HN.out _ (S.passed B.length) R2 HB6.out HL6.out HSf.out.1 HSf.out.2.1 HSf.out.2.2.1 (by have := HSf.out; show S.number + 1 ≤ _; omega) HRecs.out).mono ?_; rintro e w7 ⟨b7, ok7, rfl, hres, hb⟩; have HRes7 := Lib.hid hres; have HB7 := Lib.hid (Below.step hb HB6.out HB6.out.size); have HL7 := Lib.hid (HL6.out.below hb); have HR7 := Lib.hid (HR6.out.below hb); clear hres hb))
      have hlr : R.length = done.length + (R2.length + 1) := by rw [HRR.out, List.length_append, List.length_cons]
      go_roundw
      case rel => exact ⟨done ++ [B], R2, S.passed B.length, by rw [HRR.out, List.append_assoc]; rfl, by rw [through_snoc, HSS.out], ⟨HSf.out.1, HSf.out.2.1, HSf.out.2.2.1, by rw [List.length_append]; show S.number + 1 = _; rw [HSf.out.2.2.2.1]; rfl, by rw [List.length_append]; show _ ≤ S.used + (1 + sectorsN B.length); have := HSf.out; simp; omega, by show S.used + (1 + sectorsN B.length) ≤ c; have := HSf.out; omega⟩, HL7.out, ⟨_, HRes7.out⟩, ⟨by rw [List.length_append]; rfl, HR7.out⟩, HB7.out⟩
      case measure =>
        show R.length - (done.length + 1) < R.length - lenOf _
        rw [HLen.out]
        omega
end Go.Proofs.YtcmnfbpmkndfkaaDoor
namespace Go.Proofs.YtcmnfbpmkndfkaaDoor
open Go.ChangeShapes Go.WideShapes Go.ChangeAt Go.RowKit Go.Shelf
set_option linter.unusedVariables false
set_option maxRecDepth 100000
attribute [local go_sem] Oper.semAt_some

theorem ByteRow.only2 {w w' : World} {F : Nat → Prop} {a : Option Addr} {n : Nat} {l : List Nat} (h : ByteRow w a n l) (ho : Only F w w') (ha : 0 < n → ∀ x, a = some x → ¬ F x.block) : ByteRow w' a n l := by
  rcases Nat.eq_zero_or_pos n with e | e
  · subst e
    exact ⟨h.1, h.2.1, h.2.2.1, fun h0 => absurd h0 (Nat.lt_irrefl _)⟩
  · exact h.only ho (ha e)
def Cells (w : World) (k : Nat) : Prop := ∃ o : Obj, w.heap[k]? = some o ∧ o.isCells = true
/-- of a disk's blocks just the cells -/
theorem Qd.shrink {w : World} {F : Nat → Prop} {p m : Nat} {N : List ByteArray} (h : Qd w F p N m) : Qd w (fun k => F k ∧ Cells w k) p N m := by
  obtain ⟨s, ⟨lb, nb, lc, nc, wv, h1, h2, h3, h4, h5, h6, h7, h8, h9, h10, h11⟩, r⟩ := h
  obtain ⟨c1, e1⟩ := row_heap h2
  obtain ⟨c2, e2⟩ := row_heap h3
  refine ⟨s, ⟨lb, nb, lc, nc, wv, h1, h2, h3, h4, h5, ⟨h6, _, h1, rfl⟩, ⟨h7, _, e1, rfl⟩, ⟨h8, _, e2, rfl⟩, fun g hg => ⟨h9 g hg, ?_⟩, h10, fun k hk => h11 k hk.1⟩, r⟩
  obtain ⟨c3, e3⟩ := row_heap' h4 hg
  exact ⟨_, e3, rfl⟩
/-- the sector of the part at j -/
def partSec (B : List Nat) (j : Nat) : ByteArray := bstr (bytesL ((B.drop (511 * j)).take 511))
def wrParts (N : List ByteArray) (at_ : Nat) (B : List Nat) {n : Nat} (xs : List (Part n)) : List ByteArray × Nat := xs.foldl (fun s x => (s.1.set s.2 (partSec B x.1), s.2 + 1)) (N, at_)
theorem wrParts_snoc (N : List ByteArray) (at_ : Nat) (B : List Nat) {n : Nat} (xs : List (Part n)) (x : Part n) : wrParts N at_ B (xs ++ [x]) = ((wrParts N at_ B xs).1.set (at_ + xs.length) (partSec B x.1), at_ + xs.length + 1) := by
  have h : ∀ ys : List (Part n), (wrParts N at_ B ys).2 = at_ + ys.length := by
    intro ys
    unfold wrParts
    suffices g : ∀ (ys : List (Part n)) (s : List ByteArray × Nat), (ys.foldl (fun s x => (s.1.set s.2 (partSec B x.1), s.2 + 1)) s).2 = s.2 + ys.length from g ys (N, at_)
    intro ys
    induction ys with
    | nil => intro s; rfl
    | cons y ys ih => intro s; rw [List.foldl_cons, ih]; simp; omega
  have e : wrParts N at_ B (xs ++ [x]) = ((wrParts N at_ B xs).1.set (wrParts N at_ B xs).2 (partSec B x.1), (wrParts N at_ B xs).2 + 1) := by
    unfold wrParts
    rw [List.foldl_append]
    rfl
  rw [e, h]
theorem wrParts_length (N : List ByteArray) (at_ : Nat) (B : List Nat) {n : Nat} (xs : List (Part n)) : (wrParts N at_ B xs).1.length = N.length := by
  unfold wrParts
  suffices g : ∀ (ys : List (Part n)) (s : List ByteArray × Nat), (ys.foldl (fun s x => (s.1.set s.2 (partSec B x.1), s.2 + 1)) s).1.length = s.1.length from g xs (N, at_)
  intro ys
  induction ys with
  | nil => intro s; rfl
  | cons y ys ih => intro s; rw [List.foldl_cons, ih]; simp
def partsK (N : List ByteArray) (at_ : Nat) (B : List Nat) : Nat → List ByteArray
  | 0 => N
  | k + 1 => (partsK N at_ B k).set (at_ + k) (partSec B k)
theorem wrParts_upto (N : List ByteArray) (at_ : Nat) (B : List Nat) (n k : Nat) (h : k ≤ sectorsN n) : (wrParts N at_ B (partsUpto n k)).1 = partsK N at_ B k := by
  induction k with
  | zero => rfl
  | succ k ih =>
    rw [partsUpto_succ n k (by unfold sectorsN at h; omega), wrParts_snoc, ih (by omega), partsUpto_length n k (by omega)]
    rfl
/-- what Append makes of the sectors -/
def appN (N : List ByteArray) (s : LSt) (B : List Nat) : List ByteArray := (partsK N (s.f + s.used + 1) B (sectorsN B.length)).set (s.f + s.used) (bstr (startL (s.age : Int) (s.number : Int) B))
/-- the blocks of the walk's own -/
structure Loopy (w0 W : World) (F : Nat → Prop) (g p Bl Bat Bs Bn m st n cap : Nat) (a : Option Addr) (s : LSt) (N1 : List ByteArray) (k : Nat) : Prop where
  disk : ∃ F', Qd W F' p N1 (m + k) ∧ (∀ j, F' j → (F j ∨ w0.heap.size ≤ j) ∧ Cells W j) ∧ ¬ F' g ∧ ¬ F' Bl ∧ ¬ F' Bat ∧ ¬ F' Bs ∧ ¬ F' Bn
  log : LogAt W g p s
  only : Only F w0 W
  bl : W.heap[Bl]? = some (.cells #[.pointer (some ⟨g, 0, none⟩)] 25)
  bat : W.heap[Bat]? = some (.cells #[.int .i64 ((st + k : Nat) : Int)] 3)
  bs : W.heap[Bs]? = some (.cells #[.slice a n cap] 34)
  bn : W.heap[Bn]? = some (.cells #[.int .i64 511] 3)
theorem heap_lt {W : World} {k : Nat} {o : Obj} (h : W.heap[k]? = some o) : k < W.heap.size := (Array.getElem?_eq_some_iff.1 h).1
section
variable {w0 W : World} {F : Nat → Prop} {g p Bl Bat Bs Bn m st n cap : Nat} {a : Option Addr} {s : LSt} {N1 : List ByteArray} {k : Nat}
theorem Loopy.turn {W' : World} {row : Option Nat} {b0 : Nat} (h : Loopy w0 W F g p Bl Bat Bs Bn m st n cap a s N1 k) (hg : W.grownBy W' row) (h0 : w0.heap.size ≤ b0) (hr : ∀ r, row = some r → b0 ≤ r ∧ ∃ o : Obj, W.heap[r]? = some o ∧ o.isCells = false) : Loopy w0 W' F g p Bl Bat Bs Bn m st n cap a s N1 k := by
  have hkeep : ∀ j (o : Obj), W.heap[j]? = some o → o.isCells = true → W'.heap[j]? = some o := fun j o hj ho => by
    rw [hg.block j (heap_lt hj) (fun e => by
      obtain ⟨_, o', ho', hc⟩ := hr j e.symm
      rw [hj] at ho'
      obtain rfl := Option.some.inj ho'
      rw [ho] at hc
      cases hc)]
    exact hj
  obtain ⟨⟨F', hq, hF, h1, h2, h3, h4, h5⟩, hlog, honly, hbl, hbat, hbs, hbn⟩ := h
  refine ⟨⟨F', hq.keep (G := fun j => row = some j) ⟨hg.os, hg.tape, hg.output, hg.size, fun j hj hne => hg.block j hj (fun e => hne e.symm)⟩ (fun j hj e => ?_), fun j hj => ⟨(hF j hj).1, ?_⟩, h1, h2, h3, h4, h5⟩, hkeep _ _ hlog rfl, ?_, hkeep _ _ hbl rfl, hkeep _ _ hbat rfl, hkeep _ _ hbs rfl, hkeep _ _ hbn rfl⟩
  · obtain ⟨_, o', ho', hc⟩ := hr j e
    obtain ⟨o, ho, hc'⟩ := (hF j hj).2
    rw [ho] at ho'
    obtain rfl := Option.some.inj ho'
    rw [hc'] at hc
    cases hc
  · obtain ⟨o, ho, hc'⟩ := (hF j hj).2
    exact ⟨o, hkeep j o ho hc', hc'⟩
  · exact honly.grown hg (fun r e => .inr (Nat.le_trans h0 (hr r e).1))
theorem Loopy.step {Wx w' : World} {F' : Nat → Prop} {N2 : List ByteArray} (hW0 : w0.heap.size ≤ Bat) (h : Loopy w0 W F g p Bl Bat Bs Bn m st n cap a s N1 k) (hF : ∀ j, F' j → (F j ∨ w0.heap.size ≤ j) ∧ Cells W j) (hns : ¬ F' g ∧ ¬ F' Bl ∧ ¬ F' Bat ∧ ¬ F' Bs ∧ ¬ F' Bn) (hd : Bat ≠ g ∧ Bat ≠ Bl ∧ Bat ≠ Bs ∧ Bat ≠ Bn)
    (hx : Gl (W.setCell ⟨Bat, 0, none⟩ (.int .i64 ((st + (k + 1) : Nat) : Int))) Wx) (hq : Qd w' (Gr F' Wx w') p N2 (m + (k + 1))) (ho : Only F' Wx w') :
    KeepsOthers W w' ∧ ChunkKeeps Bs Bn W w' ∧ Loopy w0 w' F g p Bl Bat Bs Bn m st n cap a s N2 (k + 1) := by
  obtain ⟨_, hlog, honly, hbl, hbat, hbs, hbn⟩ := h
  obtain ⟨n1, n2, n3, n4, n5⟩ := hns
  obtain ⟨e1, e2, e3, e4⟩ := hd
  have hsz : (W.setCell ⟨Bat, 0, none⟩ (.int .i64 ((st + (k + 1) : Nat) : Int))).heap.size = W.heap.size := by simp only [World.setCell, Array.size_modify]
  have hxs : W.heap.size ≤ Wx.heap.size := by rw [← hsz]; exact hx.size
  have hk : ∀ j (o : Obj), W.heap[j]? = some o → j ≠ Bat → ¬ F' j → w'.heap[j]? = some o := fun j o hj hne hn => by
    have hl := heap_lt hj
    rw [ho.block j (Nat.lt_of_lt_of_le hl hxs) hn, hx.block j (by rw [hsz]; exact hl), Below.heap_setCell W _ _ j hne]
    exact hj
  have hbl' := heap_lt hbl
  have hbs' := heap_lt hbs
  have hbn' := heap_lt hbn
  have hg' := heap_lt hlog
  have hba' := heap_lt hbat
  refine ⟨⟨Nat.le_trans hxs ho.size, fun j o hj hc => hk j o hj (fun e => ?_) (fun e => ?_)⟩, ⟨(hk _ _ hbs e3.symm n4).trans hbs.symm, (hk _ _ hbn e4.symm n5).trans hbn.symm⟩, ⟨⟨_, hq.shrink, fun j hj => ⟨?_, hj.2⟩, fun x => gr_new n1 (by omega) x.1, fun x => gr_new n2 (by omega) x.1, fun x => gr_new n3 (by omega) x.1, fun x => gr_new n4 (by omega) x.1, fun x => gr_new n5 (by omega) x.1⟩, hk _ _ hlog e1.symm n1, ?_, hk _ _ hbl e2.symm n2, ?_, hk _ _ hbs e3.symm n4, hk _ _ hbn e4.symm n5⟩⟩
  · subst e
    rw [hbat] at hj
    obtain rfl := Option.some.inj hj
    cases hc
  · obtain ⟨o', ho', hc'⟩ := (hF j e).2
    rw [hj] at ho'
    obtain rfl := Option.some.inj ho'
    rw [hc'] at hc
    cases hc
  · rcases hj.1 with hj | hj
    · exact (hF j hj).1
    · right
      have := honly.size
      omega
  · have o1 : Only F w0 (W.setCell ⟨Bat, 0, none⟩ (.int .i64 ((st + (k + 1) : Nat) : Int))) := honly.grown (grownBy_setCell' W Bat _) (fun j e => .inr (by obtain rfl := Option.some.inj e; exact hW0))
    refine only_gr (o1.trans (Only.of_below hx)) ho (fun j hj => ?_)
    rcases (hF j hj).1 with h1 | h1
    · exact .inl h1
    · obtain ⟨o, ho', _⟩ := (hF j hj).2
      have := heap_lt ho'
      exact .inr ⟨h1, by omega⟩
  · rw [ho.block Bat (by omega) n3, hx.block Bat (by rw [hsz]; exact hba'), set_put W Bat 0 _ hbat]
    rfl
end
/-- the row of a part -/
theorem row_part_of {W : World} {b o n : Nat} {B : List Nat} (h : ByteRow W (some ⟨b, o, none⟩) n B) (x : Part n) : ByteRow W (some ⟨b, o + 511 * x.1, none⟩) (min 511 (n - 511 * x.1)) ((B.drop (511 * x.1)).take 511) := by
  obtain ⟨h1, h2, h3, h4⟩ := h
  have hx := x.2
  refine ⟨by rw [List.length_take, List.length_drop, h1], by omega, fun c hc => h3 c (List.mem_of_mem_drop (List.mem_of_mem_take hc)), fun _ => ⟨b, _, rfl, fun i hi => ?_⟩⟩
  obtain ⟨b', o', e, hc⟩ := h4 (by omega)
  injection e with e
  injection e with e1 e2
  subst e1 e2
  have := hc (511 * x.1 + i) (by omega)
  rw [← Nat.add_assoc] at this
  rw [this, List.getD_eq_getElem?_getD, List.getD_eq_getElem?_getD, List.getElem?_take, if_pos (by omega), List.getElem?_drop]
end Go.Proofs.YtcmnfbpmkndfkaaDoor
namespace Go.Proofs.YtcmnfbpmkndfkaaDoor
open Go.ChangeShapes Go.WideShapes Go.ChangeAt Go.RowKit Go.Shelf
set_option linter.unusedVariables false
set_option maxRecDepth 100000
attribute [local go_sem] Oper.semAt_some

set_option maxHeartbeats 4000000 in
theorem append_ok (w : World) (F : Nat → Prop) (g p m n cap : Nat) (a : Option Addr) (s : LSt) (N : List ByteArray) (B : List Nat) (h : Qd w F p N m) (hl : LogAt w g p s) (hg : ¬ F g) (hB : ByteRow w a n B) (hnc : n ≤ cap) (hcm : cap ≤ maxLen) (ha : 0 < n → ∀ x, a = some x → ¬ F x.block ∧ x.block ≠ g)
    (hu : s.used + (1 + sectorsN n) ≤ s.c) (hc : s.c ≤ 30000) (hf : s.f + s.c ≤ N.length) (hN : N.length ≤ 65536) (hage : s.age < 4611686018427387904) (hnum : s.number ≤ 65536) (hm : m + sectorsN n + 5 < 900000) (ht : Cr.Tab w) (hF : ¬ F 0) :
    Calls Tryd.prog 8 #[.pointer (some ⟨g, 0, none⟩), .slice a n cap] w fun e w' => e = .returned (.int .i64 0) ∧ LogAt w' g p (s.passed n) ∧ (∃ F', Qd w' F' p (appN N s B) (m + sectorsN n + 3) ∧ ∀ k, F' k → Gr F w w' k ∧ k ≠ g) ∧ Only (fun k => F k ∨ k = g) w w' := by
  have hK : sectorsN n ≤ 30000 := by omega
  have hn46 : n ≤ 70368744177664 := by unfold sectorsN at hK; omega
  obtain ⟨R, hR⟩ : ∃ R : Nat, roomL s = (R : Int) ∧ n ≤ R ∧ n ≤ 16777216 := by
    refine ⟨(s.c - s.used - 1) * 511, ?_, ?_, ?_⟩
    · unfold roomL; rw [if_neg (by omega)]
    · unfold sectorsN at hu; omega
    · unfold sectorsN at hu; omega
  obtain ⟨hR1, hR2, hR3⟩ := hR
  have hR2i : (n : Int) ≤ (R : Int) := by omega
  have hR3i : (n : Int) ≤ 16777216 := by omega
  have hut : s.used < s.c := by omega
  obtain ⟨st, hst⟩ : ∃ st, st = s.f + s.used := ⟨_, rfl⟩
  have hstl : st + sectorsN n + 1 ≤ N.length := by omega
  have hst65 : st ≤ 65536 := by omega
  have hsti : (s.f : Int) + (s.used : Int) = (st : Int) := by omega
  have HQ := Lib.hid h
  have HL := Lib.hid hl
  have HT := Lib.hid ht
  have HB := Lib.hid hB
  have HRoom : Hid (∀ W, Below w.heap.size w W → Calls Tryd.prog 11 #[.pointer (some ⟨g, 0, none⟩)] W fun e w' => e = .returned (.int .i64 (R : Int)) ∧ Below W.heap.size W w') := Lib.hid (fun W hb => by
    have h := room_any W g p s (hl.below hb) (Nat.le_of_lt hut) hc
    rw [hR1] at h
    refine h.mono ?_
    rintro e w' ⟨rfl, k, rfl⟩
    exact ⟨rfl, below_dN W k⟩)
  have hglt := hl.lt
  have HST := Lib.hid hst
  have HSTi := Lib.hid hsti
  clear hst hsti h hl ht hB hR1
  refine (callsIn_wide (n := 9)).1 ?_
  refine callsIn_of_wp_marks Tryd.func8 rfl trivial ?_ rfl
  simp only [Tryd.ntmps8, List.size_toArray, List.length_cons, List.length_nil, Nat.reduceAdd, Nat.reduceSub, Array.replicate_succ, Array.replicate_zero, List.push_toArray, List.append_toArray, List.nil_append, List.cons_append]
  have HB1 : Hid (Below w.heap.size w (w.alloc (.cells #[.pointer (some ⟨g, 0, none⟩)] 25))) := Lib.hid ((Below.refl _ _).alloc (Nat.le_refl _) _)
  refine wpIn_wide.2 ?_
  go_wp2_with (go_at_call 11; refine (HRoom.out _ HB1.out).mono ?_; rintro e w2 ⟨rfl, hb⟩; have HB2 := Lib.hid (Below.step hb HB1.out HB1.out.size); have HSz := Lib.hid (show w.heap.size < w2.heap.size by have := hb.size; rw [size_alloc'] at this; omega); have HBl : Hid (w2.heap[w.heap.size]? = some (.cells #[.pointer (some ⟨g, 0, none⟩)] 25)) := Lib.hid ((hb.block _ (by rw [size_alloc']; omega)).trans (World.alloc_heap_new w _)); clear hb)
  have HW7 : Hid (∀ W, Gl w2.drew W → W.cell? ⟨w.heap.size, 0, none⟩ = some (.pointer (some ⟨g, 0, none⟩)) ∧ W.cell? ⟨g, 2, none⟩ = some (.int .i64 (s.f : Int)) ∧ W.cell? ⟨g, 7, none⟩ = some (.int .i64 (s.used : Int))) := Lib.hid (fun W hW => by
    have hl := ((HL.out.below HB2.out).below hW.undrew).at_
    refine ⟨?_, hl.1, hl.2.2.2.2.2.1⟩
    rw [World.cell?_of_block (hW.undrew.block _ HSz.out)]
    simp only [World.cell?, HBl.out]
    rfl)
  have hw1 : IntKind.i64.wrap ((s.f : Int) + (s.used : Int)) = (st : Int) := by rw [HSTi.out]; exact wrap_idk _ (by omega) (by omega)
  have hw2 : wrap64 ((s.f : Int) + (s.used : Int)) = (st : Int) := by rw [HSTi.out]; exact wrap_id _ (by omega) (by omega)
  refine wp_region_inv_lit [.is (.pointer (some ⟨g, 0, none⟩)), .is (.pointer (some ⟨g, 0, none⟩)), .is (.pointer (some ⟨g, 2, none⟩)), .is (.int .i64 (s.f : Int)),
    .is (.pointer (some ⟨g, 0, none⟩)), .is (.pointer (some ⟨g, 0, none⟩)), .is (.pointer (some ⟨g, 7, none⟩)), .is (.int .i64 (s.used : Int)), .is (.int .i64 (st : Int)), .is (.int .i64 (st : Int))] (by kernel_rfl) (by kernel_rfl) ?_
  repeat1' (refine wpInv_is ?_ ?_; (focus (intro W hW hF K hK; clear hF; obtain ⟨d0, d2, d7⟩ := HW7.out W hW; go_simp; exact hK _ _ (Gl.refl _) rfl)); simp only [Act.put, List.setIfInBounds_toArray, List.set_cons_zero, List.set_cons_succ])
  refine wpInv_end ?_
  intro w7 hW hF
  have HB7 := Lib.hid (Below.step hW.undrew HB2.out HB2.out.size)
  have HSz7 : Hid (w.heap.size < w7.heap.size) := Lib.hid (Nat.lt_of_lt_of_le HSz.out hW.undrew.size)
  have HBl7 : Hid (w7.heap[w.heap.size]? = some (.cells #[.pointer (some ⟨g, 0, none⟩)] 25)) := Lib.hid ((hW.undrew.block _ HSz.out).trans HBl.out)
  clear hW hF HW7 hw1 hw2
  go_wp2_with (go_at_call 23; refine (chunk_any a n cap _).mono ?_; rintro e w8 ⟨rfl, rfl⟩)
  obtain ⟨w0, hw0⟩ : ∃ w0, w0 = ((w7.alloc (.cells #[.int .i64 (st : Int)] 3)).alloc (.cells #[.slice a n cap] 34)).alloc (.cells #[.int .i64 511] 3) := ⟨_, rfl⟩
  rw [← hw0]
  have hs0 : w0.heap.size = w7.heap.size + 3 := by rw [hw0, size_alloc', size_alloc', size_alloc']
  have hb70 : Below w7.heap.size w7 w0 := by rw [hw0]; exact (((Below.refl _ _).alloc (Nat.le_refl _) _).alloc (by rw [size_alloc']; omega) _).alloc (by rw [size_alloc', size_alloc']; omega) _
  have k1 : w0.heap[w7.heap.size]? = some (.cells #[.int .i64 ((st + 0 : Nat) : Int)] 3) := by rw [hw0, Below.heap_alloc _ _ _ (by rw [size_alloc', size_alloc']; omega), Below.heap_alloc _ _ _ (by rw [size_alloc']; omega)]; exact World.alloc_heap_new w7 _
  have k2 : w0.heap[w7.heap.size + 1]? = some (.cells #[.slice a n cap] 34) := by rw [hw0, Below.heap_alloc _ _ _ (by rw [size_alloc', size_alloc']; omega)]; have := World.alloc_heap_new (w7.alloc (.cells #[.int .i64 (st : Int)] 3)) (.cells #[.slice a n cap] 34); rw [size_alloc'] at this; exact this
  have k3 : w0.heap[w7.heap.size + 1 + 1]? = some (.cells #[.int .i64 511] 3) := by rw [hw0]; have := World.alloc_heap_new ((w7.alloc (.cells #[.int .i64 (st : Int)] 3)).alloc (.cells #[.slice a n cap] 34)) (.cells #[.int .i64 511] 3); rw [size_alloc', size_alloc'] at this; exact this
  have hb0 : Below w.heap.size w w0 := Below.step hb70 HB7.out HB7.out.size
  have h77 := HB7.out.size
  have hLoop0 : Loopy w w0 F g p w.heap.size w7.heap.size (w7.heap.size + 1) (w7.heap.size + 1 + 1) m st n cap a s (wrParts N (st + 1) B ([] : List (Part n))).1 0 := by
    refine ⟨⟨_, ((HQ.out.below hb0).shrink : Qd w0 (fun k => F k ∧ Cells w0 k) p N m), fun j hj => ⟨.inl hj.1, hj.2⟩, fun x => hg x.1, fun x => ?_, fun x => ?_, fun x => ?_, fun x => ?_⟩, HL.out.below hb0, Only.of_below hb0, (hb70.block _ HSz7.out).trans HBl7.out, k1, k2, k3⟩
    all_goals (have := HQ.out.lts _ x.1; omega)
  have HLoop0 := Lib.hid hLoop0
  have HS0 := Lib.hid hs0
  have HSz0 : Hid (w.heap.size ≤ w0.heap.size) := Lib.hid (by omega)
  have c2 : w0.cell? ⟨w7.heap.size + 1, 0, none⟩ = some (.slice a n cap) := by simp only [World.cell?, k2]; rfl
  have c3 : w0.cell? ⟨w7.heap.size + 1 + 1, 0, none⟩ = some (.int .i64 511) := by simp only [World.cell?, k3]; rfl
  have HA : Hid (0 < n → ∃ b o, a = some ⟨b, o, none⟩) := Lib.hid (fun h0 => by obtain ⟨b, o, e, _⟩ := HB.out.2.2.2 h0; exact ⟨b, o, e⟩)
  clear hw0 hb70 k1 k2 k3 hb0 hLoop0
  refine (wpIn_wide (n := 8)).1 ?_
  refine wpIn_rangeFunc_ownF rfl (by decide) (gf := 45) (lb := #[.pointer (some ⟨w7.heap.size + 1, 0, none⟩), .pointer (some ⟨w7.heap.size + 1 + 1, 0, none⟩)]) rfl trivial (enters_of Tryd.func45 (by kernel_rfl) rfl)
    (chunk_stops 7 (w7.heap.size + 1) (w7.heap.size + 1 + 1) n cap a (by decide) hnc hcm hn46 w0 HA.out c2 c3) (fun h k => ⟨k.1.trans h.1, k.2.trans h.2⟩) (fun W l o o' hl _ _ _ => ⟨World.putObj_heap_other (by omega), World.putObj_heap_other (by omega)⟩) (Below.refl _ _) (fun _ => rfl)
    (fun pre W => Loopy w W F g p w.heap.size w7.heap.size (w7.heap.size + 1) (w7.heap.size + 1 + 1) m st n cap a s (wrParts N (st + 1) B pre).1 pre.length)
    (fun _ _ _ => False)
    (fun pre W W' row hs hg hr => hs.turn hg HSz0.out hr)
    (fun _ _ _ _ _ hs _ _ => hs)
    HLoop0.out
    (fun x => { tmps := #[.pointer (some ⟨g, 0, none⟩), .slice a n cap, .pointer (some ⟨w.heap.size, 0, none⟩), undef, .int .i64 0, .int .i64 (st : Int), .pointer (some ⟨w7.heap.size, 0, none⟩), partOf a n x.1, .bool false, .pointer (some ⟨g, 0, none⟩), .bool false, .bool (decide ((16777216 : Int) < (n : Int))), .slice a n cap, .int .i64 (n : Int), .bool (decide ((16777216 : Int) < (n : Int))), .bool false, .slice a n cap, .int .i64 (n : Int), .pointer (some ⟨g, 0, none⟩), .int .i64 (R : Int), .bool false, .pointer (some ⟨g, 0, none⟩), .pointer (some ⟨g, 0, none⟩), .pointer (some ⟨g, 2, none⟩), .int .i64 (s.f : Int), .pointer (some ⟨g, 0, none⟩), .pointer (some ⟨g, 0, none⟩), .pointer (some ⟨g, 7, none⟩), .int .i64 (s.used : Int), .int .i64 (st : Int), .int .i64 (st : Int), .slice a n cap, .func (.func 45) #[] #[.pointer (some ⟨w7.heap.size + 1, 0, none⟩), .pointer (some ⟨w7.heap.size + 1 + 1, 0, none⟩)], partOf a n x.1, undef, undef, undef, undef, undef, undef, undef, undef, undef, undef, undef, undef, undef, undef, undef, undef, undef, undef, undef, undef, undef, undef, undef, undef, undef, undef, undef, undef, undef, undef, undef, undef, undef, undef, undef, undef, undef, undef, undef, undef, undef, undef, undef, undef, undef, undef, undef], defers := [] }) ?assign ?body ?done ?stop
  case assign =>
    intro l x W K hK
    gi_wp2
    exact hK
  case stop =>
    intro D c pre W _ _ hx _
    exact hx.elim
  case body =>
    rintro l pre x W hI hlen
    obtain ⟨b, o, hab⟩ := HA.out (by have := x.2; omega)
    obtain ⟨C, hC⟩ : ∃ C, C = (B.drop (511 * x.1)).take 511 := ⟨_, rfl⟩
    obtain ⟨qn, hqn⟩ : ∃ qn, qn = min 511 (n - 511 * x.1) := ⟨_, rfl⟩
    have hq0 : 0 < qn := by have := x.2; omega
    have hq511 : qn ≤ 511 := by omega
    have hpo : partOf a n x.1 = .slice (some ⟨b, o + 511 * x.1, none⟩) qn qn := by rw [hab, hqn]; rfl
    obtain ⟨q, hq⟩ : ∃ q, q = st + pre.length := ⟨_, rfl⟩
    have hql : q + 1 < N.length := by omega
    have hq65 : q ≤ 100000 := by omega
    have HI := Lib.hid hI
    obtain ⟨⟨F', hqd, hF', hns⟩, hlog, honly, hbl, hbat, hbs, hbn⟩ := hI
    rw [← hq] at hbat
    have hbB : b < w.heap.size := by
      obtain ⟨b', o', e, hc⟩ := HB.out.2.2.2 (by have := x.2; omega)
      rw [hab] at e
      injection e with e
      injection e with e1 e2
      have := cell_lt (hc 0 (by have := x.2; omega))
      dsimp only at this
      omega
    have hrow : ByteRow W (some ⟨b, o + 511 * x.1, none⟩) qn C := by
      have h1 := HB.out.only honly (fun y hy => (ha (by have := x.2; omega) y hy).1)
      rw [hab] at h1
      have h2 := row_part_of h1 x
      rw [← hC, ← hqn] at h2
      exact h2
    have HROW := Lib.hid hrow
    have HQD := Lib.hid hqd
    have HF' := Lib.hid hF'
    have HNS := Lib.hid hns
    have HLG := Lib.hid hlog
    have HQQ := Lib.hid hq
    have HCC := Lib.hid hC
    have d1 : W.cell? ⟨w.heap.size, 0, none⟩ = some (.pointer (some ⟨g, 0, none⟩)) := by simp only [World.cell?, hbl]; rfl
    have d2 : W.cell? ⟨w7.heap.size, 0, none⟩ = some (.int .i64 (q : Int)) := by simp only [World.cell?, hbat]; rfl
    have f2 : W.frozen? ⟨w7.heap.size, 0, none⟩ = false := by simp [World.frozen?, hbat]
    have hBl := heap_lt hbl
    have hBat := heap_lt hbat
    have hGl := heap_lt hlog
    have hne : w.heap.size ≠ w7.heap.size := by have := HSz7.out; omega
    have hGne : g ≠ w7.heap.size := by have := HSz7.out; omega
    have hbne : b ≠ w7.heap.size := by have := HSz7.out; omega
    clear hC hqn hq hqd hF' hns hlog honly hbl hbat hbs hbn hrow
    rw [hpo]
    clear hpo
    gi_wp2
    have hW1 : Only (fun j => j = w7.heap.size) W (W.setCell ⟨w7.heap.size, 0, none⟩ (.int .i64 ((q : Int) + 1))) := (Only.refl (fun j => j = w7.heap.size) W).setCell (p := ⟨w7.heap.size, 0, none⟩) rfl _
    have e1 : W.setCell ⟨w7.heap.size, 0, none⟩ (.int .i64 ((q : Int) + 1)) = W.setCell ⟨w7.heap.size, 0, none⟩ (.int .i64 ((st + (pre.length + 1) : Nat) : Int)) := by
      rw [show ((st + (pre.length + 1) : Nat) : Int) = (q : Int) + 1 by have := HQQ.out; omega]
    have c1 : (W.setCell ⟨w7.heap.size, 0, none⟩ (.int .i64 ((q : Int) + 1))).cell? ⟨w.heap.size, 0, none⟩ = some (.pointer (some ⟨g, 0, none⟩)) := (World.cell?_of_block (hW1.block _ hBl hne)).trans d1
    have c2 : (W.setCell ⟨w7.heap.size, 0, none⟩ (.int .i64 ((q : Int) + 1))).cell? ⟨w7.heap.size, 0, none⟩ = some (.int .i64 ((q : Int) + 1)) := World.cell?_setCell_same _ _ _ d2
    have HQ1 := Lib.hid (HQD.out.keep hW1 (fun j hj e => HNS.out.2.2.1 (e ▸ hj)))
    have HL1 : Hid (LogAt (W.setCell ⟨w7.heap.size, 0, none⟩ (.int .i64 ((q : Int) + 1))) g p s) := Lib.hid (HLG.out.keep hW1 hGne)
    have HR1 : Hid (ByteRow (W.setCell ⟨w7.heap.size, 0, none⟩ (.int .i64 ((q : Int) + 1))) (some ⟨b, o + 511 * x.1, none⟩) qn C) := Lib.hid (HROW.out.only hW1 (fun y hy => by obtain rfl := Option.some.inj hy; exact hbne))
    have HE1 := Lib.hid e1
    have hBl1 : w.heap.size < (W.setCell ⟨w7.heap.size, 0, none⟩ (.int .i64 ((q : Int) + 1))).heap.size := Nat.lt_of_lt_of_le hBl hW1.size
    have hBat1 : w7.heap.size < (W.setCell ⟨w7.heap.size, 0, none⟩ (.int .i64 ((q : Int) + 1))).heap.size := Nat.lt_of_lt_of_le hBat hW1.size
    clear hW1 e1 d1 d2 f2
    generalize W.setCell ⟨w7.heap.size, 0, none⟩ (.int .i64 ((q : Int) + 1)) = W1 at *
    have HC : Hid (∀ X, Gl W1.drew X → X.cell? ⟨w.heap.size, 0, none⟩ = some (.pointer (some ⟨g, 0, none⟩)) ∧ X.cell? ⟨w7.heap.size, 0, none⟩ = some (.int .i64 ((q : Int) + 1))) := Lib.hid (fun X hX => ⟨(World.cell?_of_block (hX.undrew.block _ hBl1)).trans c1, (World.cell?_of_block (hX.undrew.block _ hBat1)).trans c2⟩)
    have HSec : Hid (∀ X, Gl W1.drew X → Calls Tryd.prog 25 #[.slice (some ⟨b, o + 511 * x.1, none⟩) qn qn] X fun e w' => ∃ gs, e = .returned (.slice (some ⟨gs, 0, none⟩) 512 512) ∧ ByteRow w' (some ⟨gs, 0, none⟩) 512 (bytesL C) ∧ X.heap.size ≤ gs ∧ Below X.heap.size X w') := Lib.hid (fun X hX => bytesSector_any ⟨b, o + 511 * x.1, none⟩ qn qn C X (HR1.out.below hX.undrew) hq0 hq511)
    clear c1 c2
    refine wpIn_region_last_lit [.is (.pointer (some ⟨g, 0, none⟩)), .is (.pointer (some ⟨g, 0, none⟩)), .is (.pointer (some ⟨g, 0, none⟩)), .is (.int .i64 ((q : Int) + 1)), .is (.slice (some ⟨b, o + 511 * x.1, none⟩) qn qn), .has (SecV W1.heap.size (bytesL C))] (by kernel_rfl) (by kernel_rfl) (by kernel_rfl) (by kernel_rfl) (by kernel_rfl) (fun ⟨_, _, h⟩ => h) ?_
    repeat1' (refine wpInvL_is ?_ ?_; (focus (intro X hX hF K hK; clear hF; obtain ⟨d0, d2⟩ := HC.out X hX; go_simp; exact hK _ _ (Gl.refl _) rfl)); simp only [Act.put, List.setIfInBounds_toArray, List.set_cons_zero, List.set_cons_succ])
    refine wpInvL_has _ (secV_stable _ _) ?_ ?_
    · intro X hX hF K hK
      clear hF
      go_simp
      refine (HSec.out X hX).mono ?_
      rintro e X1 ⟨gs, rfl, hR, hgs, hb⟩
      exact ⟨_, rfl, hK _ _ hb ⟨gs, rfl, hR, Nat.le_trans hX.undrew.size hgs⟩⟩
    intro v5
    simp only [Act.put, List.setIfInBounds_toArray, List.set_cons_zero, List.set_cons_succ]
    refine wpInvL_last ?_
    intro X hX hF
    obtain ⟨gs, rfl, hR, hgs⟩ := hF _ (List.mem_cons_self ..)
    clear hF
    have HX := Lib.hid hX.undrew
    have HWr := dwrite X F' p (m + pre.length) (q + 1) g (wrParts N (st + 1) B pre).1 (some ⟨gs, 0, none⟩) 512 (bytesL C) (HQ1.out.below HX.out) (HL1.out.below HX.out).dev HNS.out.1 (by omega) (by rw [wrParts_length]; omega) hR (fun y hy => by
      obtain rfl := Option.some.inj hy
      intro gg
      have := HQ1.out.lts _ gg
      dsimp only at this
      omega)
    rw [show ((q + 1 : Nat) : Int) = (q : Int) + 1 by omega] at HWr
    have HWR := Lib.hid HWr
    clear HWr hR hX
    go_simp
    refine HWR.out.mono ?_
    rintro e X1 ⟨rfl, hq2, ho2⟩
    refine ⟨_, rfl, ?_⟩
    have hfin := HI.out.step (Wx := X) (w' := X1) (F' := F') (N2 := (wrParts N (st + 1) B (pre ++ [x])).1) HB7.out.size HF'.out HNS.out ⟨fun e => hGne e.symm, fun e => hne e.symm, by omega, by omega⟩ (by rw [← HE1.out]; exact HX.out) (by
      rw [wrParts_snoc, ← show partSec B x.1 = bstr (bytesL C) by rw [HCC.out]; rfl] at *
      rw [show st + 1 + pre.length = q + 1 by have := HQQ.out; omega]
      exact hq2) ho2
    refine ⟨hfin.1, hfin.2.1, ?_⟩
    dsimp only
    rw [List.length_append]
    exact hfin.2.2
  case done =>
    rintro D xs W hD rfl hI hK
    rw [wrParts_upto _ _ _ _ _ (Nat.le_refl _), partsUpto_length _ _ (Nat.le_refl _)] at hI
    obtain ⟨⟨F', hqd, hF', hns⟩, hlog, honly, hbl, hbat, hbs, hbn⟩ := hI
    have hDF : ¬ F' D := fun e => by
      obtain ⟨_, o, ho, hc⟩ := hF' D e
      rw [hK] at ho
      obtain rfl := Option.some.inj ho
      cases hc
    have hDl := heap_lt hK
    have hBl := heap_lt hbl
    have hGl := heap_lt hlog
    have hDg : D ≠ g := fun e => by
      subst e
      rw [show W.heap[D]? = _ from hlog] at hK
      cases hK
    have HF' := Lib.hid hF'
    have HNS := Lib.hid hns
    have HLG := Lib.hid hlog
    have HON := Lib.hid honly
    have HKD := Lib.hid hK
    have d1 : W.cell? ⟨w.heap.size, 0, none⟩ = some (.pointer (some ⟨g, 0, none⟩)) := by simp only [World.cell?, hbl]; rfl
    have HBL := Lib.hid hbl
    have HBa := Lib.hid (dbarrier W F' p (m + sectorsN n) g _ hqd hlog.dev hns.1 (by omega))
    have hTW : Hid (Cr.Tab W) := Lib.hid (tab_only HT.out honly hF)
    have hql := cell_lt (HT.out 0 (by decide))
    have hFq : ¬ F' 0 := fun e => by
      rcases (hF' _ e).1 with h1 | h1
      · exact hF h1
      · exact absurd h1 (Nat.not_le.2 hql)
    clear hqd hF' hns hlog honly hK hbl hbat hbs hbn
    go_wp2_with (go_at_call 26; refine HBa.out.mono ?_; rintro e w9 ⟨rfl, hq9, ho9⟩; have HQ9 := Lib.hid hq9; have HO9 := Lib.hid ho9; clear hq9 ho9)
    have HON9 : Hid (Only F w w9) := Lib.hid (only_gr HON.out HO9.out (fun j hj => by
      rcases (HF'.out j hj).1 with h1 | h1
      · exact .inl h1
      · obtain ⟨o, ho', _⟩ := (HF'.out j hj).2
        exact .inr ⟨h1, heap_lt ho'⟩))
    have s9 := HO9.out.size
    have HL9 : Hid (LogAt w9 g p s) := Lib.hid (HLG.out.keep HO9.out HNS.out.1)
    have HT9 : Hid (Cr.Tab w9) := Lib.hid (tab_only hTW.out HO9.out hFq)
    have HBL9 : Hid (w9.heap[w.heap.size]? = some (.cells #[.pointer (some ⟨g, 0, none⟩)] 25)) := Lib.hid ((HO9.out.block _ hBl HNS.out.2.1).trans HBL.out)
    have HK9 : Hid (w9.heap[D]? = some (.deferred (some []))) := Lib.hid ((HO9.out.block _ hDl hDF).trans HKD.out)
    have HR9 : Hid (ByteRow w9 a n B) := Lib.hid (HB.out.only2 HON9.out (fun h0 x hx => (ha h0 x hx).1))
    have hD9 : D < w9.heap.size := heap_lt HK9.out
    have hB9 : w.heap.size < w9.heap.size := heap_lt HBL9.out
    have HC : Hid (∀ X, Gl w9.drew X → X.cell? ⟨w.heap.size, 0, none⟩ = some (.pointer (some ⟨g, 0, none⟩)) ∧ X.cell? ⟨g, 5, none⟩ = some (.int .i64 (s.age : Int)) ∧ X.cell? ⟨g, 6, none⟩ = some (.int .i64 (s.number : Int))) := Lib.hid (fun X hX => by
      have hl := (HL9.out.below hX.undrew).at_
      refine ⟨?_, hl.2.2.2.1, hl.2.2.2.2.1⟩
      rw [World.cell?_of_block (hX.undrew.block _ hB9)]
      simp only [World.cell?, HBL9.out]
      rfl)
    have HSS : Hid (∀ X, Gl w9.drew X → Calls Tryd.prog 27 #[.int .i64 (s.age : Int), .int .i64 (s.number : Int), .slice a n cap] X fun e w' => ∃ g, e = .returned (.slice (some ⟨g, 0, none⟩) 512 512) ∧ ByteRow w' (some ⟨g, 0, none⟩) 512 (startL (s.age : Int) (s.number : Int) B) ∧ X.heap.size ≤ g ∧ Below X.heap.size X w') := Lib.hid (fun X hX => startSector_any (s.age : Int) (s.number : Int) (by omega) (by omega) (by omega) (by omega) a n cap B X (HR9.out.below hX.undrew) hn46 (Cr.Tab.below HT9.out hX.undrew))
    clear d1
    refine wp_region_last_lit [.is (.pointer (some ⟨g, 0, none⟩)), .is (.pointer (some ⟨g, 0, none⟩)), .is (.pointer (some ⟨g, 0, none⟩)), .is (.int .i64 (st : Int)),
      .is (.pointer (some ⟨g, 0, none⟩)), .is (.pointer (some ⟨g, 0, none⟩)), .is (.pointer (some ⟨g, 5, none⟩)), .is (.int .i64 (s.age : Int)),
      .is (.pointer (some ⟨g, 0, none⟩)), .is (.pointer (some ⟨g, 0, none⟩)), .is (.pointer (some ⟨g, 6, none⟩)), .is (.int .i64 (s.number : Int)), .is (.slice a n cap),
      .has (SecV w9.heap.size (startL (s.age : Int) (s.number : Int) B))] (by kernel_rfl) (by kernel_rfl) (by kernel_rfl) (by kernel_rfl) ?_
    repeat1' (refine wpInvL_is ?_ ?_; (focus (intro X hX hF K hK; clear hF; obtain ⟨d0, d5, d6⟩ := HC.out X hX; go_simp; exact hK _ _ (Gl.refl _) rfl)); simp only [Act.put, List.setIfInBounds_toArray, List.set_cons_zero, List.set_cons_succ])
    refine wpInvL_has _ (secV_stable _ _) ?_ ?_
    · intro X hX hF K hK
      clear hF
      go_simp
      refine (HSS.out X hX).mono ?_
      rintro e X1 ⟨gs, rfl, hR, hgs, hb⟩
      exact ⟨_, rfl, hK _ _ hb ⟨gs, rfl, hR, Nat.le_trans hX.undrew.size hgs⟩⟩
    intro v13
    simp only [Act.put, List.setIfInBounds_toArray, List.set_cons_zero, List.set_cons_succ]
    refine wpInvL_last ?_
    intro X hX hF
    obtain ⟨gs, rfl, hR, hgs⟩ := hF _ (List.mem_cons_self ..)
    clear hF
    have HX := Lib.hid hX.undrew
    have sX := HX.out.size
    have HWr := Lib.hid (dwrite X F' p (m + sectorsN n + 1) st g (partsK N (st + 1) B (sectorsN n)) (some ⟨gs, 0, none⟩) 512 (startL (s.age : Int) (s.number : Int) B) (HQ9.out.below HX.out) (HL9.out.below HX.out).dev HNS.out.1 (by omega) (by
      have : (partsK N (st + 1) B (sectorsN n)).length = N.length := by rw [← wrParts_upto N (st + 1) B n _ (Nat.le_refl _), wrParts_length]
      rw [this]
      omega) hR (fun y hy => by
      obtain rfl := Option.some.inj hy
      intro gg
      have := HQ9.out.lts _ gg
      dsimp only at this
      omega))
    clear hR hX
    go_simp
    refine HWr.out.mono ?_
    rintro e X1 ⟨rfl, hq2, ho2⟩
    refine ⟨_, rfl, ?_⟩
    have HO2 := Lib.hid ho2
    have sX1 := HO2.out.size
    have n1 : ¬ Gr F' X X1 g := gr_new HNS.out.1 (by have := heap_lt HL9.out; omega)
    have n2 : ¬ Gr F' X X1 w.heap.size := gr_new HNS.out.2.1 (by omega)
    have n3 : ¬ Gr F' X X1 D := gr_new hDF (by omega)
    have HL10 : Hid (LogAt X1 g p s) := Lib.hid ((HL9.out.below HX.out).keep HO2.out HNS.out.1)
    have HBL10 : Hid (X1.heap[w.heap.size]? = some (.cells #[.pointer (some ⟨g, 0, none⟩)] 25)) := Lib.hid ((HO2.out.block _ (by omega) HNS.out.2.1).trans ((HX.out.block _ hB9).trans HBL9.out))
    have HK10 : Hid (X1.heap[D]? = some (.deferred (some []))) := Lib.hid ((HO2.out.block _ (by omega) hDF).trans ((HX.out.block _ hD9).trans HK9.out))
    have HBa2 := Lib.hid (dbarrier X1 (Gr F' X X1) p (m + sectorsN n + 2) g _ hq2 HL10.out.dev n1 (by omega))
    have d1 : X1.cell? ⟨w.heap.size, 0, none⟩ = some (.pointer (some ⟨g, 0, none⟩)) := by simp only [World.cell?, HBL10.out]; rfl
    have hBg : ¬ (w.heap.size = g) := by omega
    have hu65 : s.used ≤ 65536 := by omega
    clear hq2 ho2 HWr HSS HC HBa
    go_wp2_with (first
      | (go_at_call 26; refine HBa2.out.mono ?_; rintro e w11 ⟨rfl, hq9, ho9⟩; have HQ11 := Lib.hid hq9; have HO11 := Lib.hid ho9; have HL11 := Lib.hid (HL10.out.keep ho9 n1); have HBL11 := Lib.hid ((ho9.block _ (heap_lt HBL10.out) n2).trans HBL10.out); have HK11 := Lib.hid ((ho9.block _ (heap_lt HK10.out) n3).trans HK10.out); clear d1; have d1 : w11.cell? ⟨w.heap.size, 0, none⟩ = some (.pointer (some ⟨g, 0, none⟩)) := (by simp only [World.cell?, HBL11.out]; rfl); obtain ⟨dd0, dd1, ddf⟩ := HL11.out.dev.cells; clear hq9 ho9)
      | (go_at_call 28; refine (pass_any w11 g p n s HL11.out hn46 hu65 hnum).mono ?_; rintro e w12 ⟨rfl, hl12, ho12⟩; have HL12 := Lib.hid hl12; have HO12 := Lib.hid ho12; clear d1 dd0 dd1 ddf; have d1 : w12.cell? ⟨w.heap.size, 0, none⟩ = some (.pointer (some ⟨g, 0, none⟩)) := (by rw [World.cell?_of_block (ho12.block _ (heap_lt HBL11.out) hBg)]; simp only [World.cell?, HBL11.out]; rfl); obtain ⟨dd0, dd1, ddf⟩ := HL12.out.dev.cells; clear hl12 ho12))
    have HK12 : Hid (w12.heap[D]? = some (.deferred (some []))) := Lib.hid ((HO12.out.block _ (heap_lt HK11.out) hDg).trans HK11.out)
    refine ⟨by simp, .inl ⟨_, _, rfl, run_takeDeferred HK12.out, ?_⟩⟩
    have hgr := grownBy_putObj' w12 D (.deferred none)
    have HP : Only (fun k => k = D) w12 (w12.putObj D (.deferred none)) := ⟨hgr.os, hgr.tape, hgr.output, hgr.size, fun k hk hne => hgr.block k hk (fun e => hne (Option.some.inj e))⟩
    have sP := HP.size
    have s12 := HO12.out.size
    have s11 := HO11.out.size
    have s0 := HSz0.out
    have sW := HON.out.size
    have hF'w : ∀ j, F' j → Gr F w X j := fun j hj => by
      rcases (HF'.out j hj).1 with h1 | h1
      · exact .inl h1
      · obtain ⟨o, ho', _⟩ := (HF'.out j hj).2
        have := heap_lt ho'
        exact .inr ⟨h1, by omega⟩
    have hGG : ∀ j, Gr F' X X1 j → Gr F w X1 j := fun j hj => by
      rcases hj with hj | ⟨h1, h2⟩
      · rcases hF'w j hj with h1 | ⟨h1, h2⟩
        · exact .inl h1
        · exact .inr ⟨h1, by omega⟩
      · exact .inr ⟨by omega, h2⟩
    refine ⟨_, results_tmp rfl _ _ _, rfl, HL12.out.keep HP (fun e => hDg e.symm), ⟨Gr F' X X1, ?_, fun k hk => ⟨?_, fun e => n1 (e ▸ hk)⟩⟩, ?_⟩
    · have hq := (HQ11.out.keep HO12.out (fun k hk e => n1 (e ▸ hk))).keep HP (fun k hk e => n3 (e ▸ hk))
      unfold appN
      rw [HB.out.1, ← HST.out]
      exact hq
    · rcases hGG k hk with h1 | ⟨h1, h2⟩
      · exact .inl h1
      · exact .inr ⟨h1, by omega⟩
    · have o1 : Only F w X := HON9.out.trans (Only.of_below HX.out)
      have o2 : Only F w X1 := only_gr o1 HO2.out hF'w
      have o3 : Only F w w11 := only_gr o2 HO11.out hGG
      have o4 : Only (fun k => F k ∨ k = g) w w12 := (o3.mono (fun k hk => .inl hk)).trans (HO12.out.mono (fun k hk => .inr hk))
      exact only_gr o4 HP (fun j hj => .inr ⟨by rw [hj]; omega, by rw [hj]; exact heap_lt HK12.out⟩)
end Go.Proofs.YtcmnfbpmkndfkaaDoor
