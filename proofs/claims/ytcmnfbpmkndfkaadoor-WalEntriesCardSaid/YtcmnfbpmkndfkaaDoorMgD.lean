/-
  Texts put together: WalA, WalB, WalC, WalD, WalE, WalF, WalG, WalH, WalI, WalJ, WalK, WalL, WalM, WalN.
-/
import Derived.Test.YtcmnfbpmkndfkaaDoorMgA
import Derived.Test.YtcmnfbpmkndfkaaDoorMgC
import Derived.Test.YtcmnfbpmkndfkaaDoorMgB
import Derived.Lib.AppendZerosOnto
import Derived.Laws.CopyOwn
import Derived.Deep.DeepCutAuto
import Derived.Deep.CutBlock
import Derived.Test.YtcmnfbpmkndfkaaDoorShelf
import Derived.BigQuiet
import Derived.Deep.QuietTactic
import Derived.Test.YtcmnfbpmkndfkaaDoorMgR
namespace Go.Proofs.YtcmnfbpmkndfkaaDoor
open Go.ChangeShapes Go.WideShapes Go.ChangeAt Go.RowKit
set_option linter.unusedVariables false
set_option maxRecDepth 100000

abbrev vals := Cr.vals
theorem own_zeros (w : World) (n c : Nat) (hc : n ≤ c) (hm : c ≤ maxLen) : (w.drew.alloc (.cells ((#[] : Array Value) ++ Builtin.zeroCells #[.int .u8 0] n ++ Builtin.zeroCells #[.int .u8 0] (c - n)) 5)).ownsRow w.heap.size 5 1 (.slice (some ⟨w.heap.size, 0, none⟩) 0 c) 0 (vals []) := by
  refine ⟨rfl, .inr ⟨w.heap.size, c, (#[] : Array Value) ++ Builtin.zeroCells #[.int .u8 0] n ++ Builtin.zeroCells #[.int .u8 0] (c - n), rfl, Nat.le_refl _, ?_, Nat.zero_le _, hm, ?_, rfl⟩⟩
  · show (w.heap.push _)[w.heap.size]? = _
    simp
  · simp [Builtin.zeroCells]
    omega
theorem grow_any (n : Nat) (h0 : 0 < n) (hn : n ≤ 7000) (w : World) :
    Calls Tryd.prog 68 #[.slice none 0 0, .int .i64 (n : Int)] w fun e w' => ∃ cap, e = .returned (.slice (some ⟨w.heap.size, 0, none⟩) 0 cap) ∧ w'.ownsRow w.heap.size 5 1 (.slice (some ⟨w.heap.size, 0, none⟩) 0 cap) 0 (vals []) ∧ Below w.heap.size w w' := by
  obtain ⟨i0, hi, hz0, hz1, hz2⟩ := info_parts Cr.info5
  have hold : (Builtin.firstCells i0.size 0 (.slice none 0 0)).run Tryd.prog w.drew = .ok ([] : List Value).toArray w.drew := run_firstCells_none w.drew i0.size 0 0 0
  have hgc : n ≤ grownCap w (0 + n) 0 5 := by have := grownCap_ge w (0 + n) 0 5; omega
  have hgm : grownCap w (0 + n) 0 5 ≤ maxLen := grownCap_le_maxLen w (0 + n) 0 5 (by unfold maxLen; omega)
  have hrz : ∀ ty, (Builtin.append_ #[34, 3] ty #[.slice none 0 0, .int .i64 (n : Int)]).run Tryd.prog w = .ok (.slice (some ⟨w.heap.size, 0, none⟩) n (grownCap w (0 + n) 0 5)) (w.drew.alloc (.cells ((#[] : Array Value) ++ Builtin.zeroCells #[.int .u8 0] n ++ Builtin.zeroCells #[.int .u8 0] (grownCap w (0 + n) 0 5 - n)) 5)) := fun ty => by
    have h := Lib.run_append_grow_zeros w 34 3 ty 5 i0 (.int .u8 0) .i64 .i64 Tryd.underlying34 Tryd.underlying3 hi hz0 none 0 0 [] hold n h0 (by omega) (by omega) (by omega) (by rw [hz2]; omega) (growslice_fits (by omega) (by rw [hz2]; omega))
    rw [Nat.zero_add] at h ⊢
    exact h
  have hown := own_zeros w n _ hgc hgm
  have HO := Lib.hid hown
  have HB : Hid (Below w.heap.size w (w.drew.alloc (.cells ((#[] : Array Value) ++ Builtin.zeroCells #[.int .u8 0] n ++ Builtin.zeroCells #[.int .u8 0] (grownCap w (0 + n) 0 5 - n)) 5))) := Lib.hid (((Below.refl w.heap.size w).drew).alloc (Nat.le_refl _) _)
  clear hown hold hi hz0 hz1 hz2
  generalize w.drew.alloc (.cells ((#[] : Array Value) ++ Builtin.zeroCells #[.int .u8 0] n ++ Builtin.zeroCells #[.int .u8 0] (grownCap w (0 + n) 0 5 - n)) 5) = w1 at *
  generalize grownCap w (0 + n) 0 5 = c at *
  have h3 : ¬ (n : Int) < 0 := by omega
  have h4 : (n : Int) > 0 := by omega
  have hcm : c ≤ 9223372036854775807 := by unfold maxLen at hgm; omega
  go_enter Tryd.func68, Tryd.ntmps68
  go_wp2_with (at_builtin; refine Lib.wpList_append_run _ rfl _ _ _ _ rfl _ _ rfl rfl _ _ (hrz _) ?_)
  go_ret
  exact ⟨c, rfl, HO.out, HB.out⟩
end Go.Proofs.YtcmnfbpmkndfkaaDoor
namespace Go.Proofs.YtcmnfbpmkndfkaaDoor
open Go.ChangeShapes Go.WideShapes Go.ChangeAt Go.RowKit
set_option linter.unusedVariables false
set_option maxRecDepth 100000

theorem cat_mono (l : Nat → List Nat) {i j : Nat} (h : i ≤ j) : (Cr.cat l i).length ≤ (Cr.cat l j).length := by
  induction h with
  | refl => exact Nat.le_refl _
  | step h ih =>
    refine Nat.le_trans ih ?_
    show _ ≤ (Cr.cat l _ ++ l _).length
    rw [List.length_append]
    omega
theorem src_cells {W : World} {b o m : Nat} {t : List Nat} (h : ByteRow W (some ⟨b, o, none⟩) m t) (h0 : 0 < m) : ∀ (j : Nat) (u : Value), (vals t)[j]? = some u → W.cell? ((⟨b, o, none⟩ : Addr).add j) = some u := Cr.src_cells h h0
theorem ByteRow.below {w w' : World} {a : Option Addr} {n : Nat} {l : List Nat} (h : ByteRow w a n l) (hb : Below w.heap.size w w') : ByteRow w' a n l := Cr.ByteRow.below h hb

set_option maxHeartbeats 1000000 in
theorem concat_any (b n cap : Nat) (A : Nat → Option Addr) (L C : Nat → Nat) (l : Nat → List Nat) (w : World) (hn : n ≤ 100)
    (hc : ∀ i, i < n → w.cell? ⟨b, i, none⟩ = some (.slice (A i) (L i) (C i))) (hr : ∀ i, i < n → ByteRow w (A i) (L i) (l i)) (hA : ∀ i, i < n → 0 < L i) (h0 : 0 < (Cr.cat l n).length) (hm : (Cr.cat l n).length ≤ 7000) :
    Calls Tryd.prog 48 #[.slice (some ⟨b, 0, none⟩) n cap] w fun e w' => ∃ v, e = .returned v ∧ w'.ownsRow w.heap.size 5 1 v (Cr.cat l n).length (vals (Cr.cat l n)) ∧ v ≠ .slice none 0 0 ∧ Below w.heap.size w w' := by
  obtain ⟨i0, hi, hz0, hz1, hz2⟩ := info_parts Cr.info5
  have HC := Lib.hid hc
  have HR := Lib.hid hr
  have HA := Lib.hid hA
  have HM : Hid (∀ k, k ≤ n → (Cr.cat l k).length ≤ 7000) := Lib.hid (fun k hk => Nat.le_trans (cat_mono l hk) hm)
  have HS : Hid (∀ k, (Cr.cat l (k + 1)).length = (Cr.cat l k).length + (l k).length) := Lib.hid (fun k => List.length_append)
  clear hc hr hA
  go_enter Tryd.func48, Tryd.ntmps48
  go_wp2_with fail
  go_loop [3, 11] (fun r i => ∃ k S : Nat, k ≤ n ∧ i = .int .i64 k ∧ r = .int .i64 S ∧ Hid (S = (Cr.cat l k).length)) (fun _ i => n - (intOf i).toNat)
  case atStart => exact ⟨0, 0, Nat.zero_le _, rfl, rfl, Lib.hid rfl⟩
  case round =>
    obtain ⟨k, S, hk, rfl, rfl, HSk⟩ := hrel
    have hS := HM.out k hk
    rw [← HSk.out] at hS
    by_cases hlt : k < n
    · have hcell := HC.out k hlt
      have h1 := HM.out (k + 1) (by omega)
      have h2 := HS.out k
      have h3 := (HR.out k hlt).1
      rw [← HSk.out, h3] at h2
      rw [h2] at h1
      have HS2 := Lib.hid h2
      clear h2 h3
      generalize L k = m at *
      go_wp2_with fail
      go_round
      case rel => exact ⟨k + 1, S + m, by omega, by go_num, by go_num, Lib.hid HS2.out.symm⟩
      case measure => simp [intOf]; omega
    · obtain rfl : k = n := by omega
      have hS0 : 0 < S := by rw [HSk.out]; exact h0
      have HG := Lib.hid (grow_any S hS0 hS w)
      clear hlt hk
      go_wp2_with (go_at_call 68; refine HG.out.mono ?_; rintro e w1 ⟨c1, rfl, ho, hb⟩; have HO1 := Lib.hid ho; have HB1 := Lib.hid hb; clear ho hb)
      go_loopw [6, 27] (fun v i wr => ∃ (j m : Nat), j ≤ k ∧ i = .int .i64 j ∧ Hid (m = (Cr.cat l j).length) ∧ v ≠ .slice none 0 0 ∧ wr.ownsRow w.heap.size 5 1 v m (vals (Cr.cat l j)) ∧ Below w.heap.size w wr) (fun _ i _ => k - (intOf i).toNat)
      case atStart => exact ⟨0, 0, Nat.zero_le _, rfl, Lib.hid rfl, (by simp), HO1.out, HB1.out⟩
      case round =>
        obtain ⟨j, m, hj, rfl, HMj, hne, hown, hbel⟩ := hrel
        have HO := Lib.hid hown
        have HB := Lib.hid hbel
        have HN := Lib.hid hne
        clear hown hbel hne HO1 HB1 HG
        by_cases hlt : j < k
        · have hcell := (HB.out.cell (p := ⟨b, j, none⟩) (cell_lt (HC.out j hlt))).trans (HC.out j hlt)
          have hrow := (HR.out j hlt).below HB.out
          have hnone := HA.out j hlt
          have h2 := HS.out j
          have h1 := HM.out (j + 1) (by omega)
          have h3 := hrow.1
          have HCat : Hid (Cr.cat l (j + 1) = Cr.cat l j ++ l j) := Lib.hid rfl
          rw [h2, ← HMj.out, h3] at h1
          rw [← HMj.out, h3] at h2
          have HS2 := Lib.hid h2
          have HRow := Lib.hid hrow
          clear h2 h3 hrow
          generalize L j = mj at *
          generalize C j = cj at *
          generalize l j = lj at *
          obtain ⟨g5, o5, hx5, _⟩ := HRow.out.2.2.2 hnone
          rw [hx5] at hcell HRow
          clear hx5
          go_wp2_with (at_builtin; refine wpList_append_own _ rfl (.tmp 31) (.tmp 32) 34 rfl w.heap.size 5 i0 (.int .u8 0) 1 1 Tryd.underlying34 hi hz0 hz1 hz2 rfl (by decide) _ m (vals (Cr.cat l j)) rfl HO.out ⟨g5, o5, none⟩ mj cj (vals lj) rfl ?c1 ?c2 ?c3 ?c4 ?c5 ?c6 ?_)
          case c1 => rw [Cr.vals_length, HRow.out.1, Nat.mul_one]
          case c2 => exact src_cells HRow.out hnone
          case c3 => exact Cr.vals_one _
          case c4 => unfold maxLen; omega
          case c5 => omega
          case c6 => exact HB.out.size
          intro v' w3 hown hgrow hnil
          have bel : Below w.heap.size w w3 := HB.out.grown hgrow HB.out.size (fun k hk => own_base HO.out hk)
          have HO3 := Lib.hid hown
          have HB3 := Lib.hid bel
          have HN3 : Hid (v' ≠ .slice none 0 0) := Lib.hid (by first | exact hnil | exact fun h => HN.out (hnil.1 h).1)
          clear hown hgrow hnil bel
          go_wp2_with fail
          go_roundw
          case rel => exact ⟨j + 1, m + mj, by omega, by go_num, Lib.hid HS2.out.symm, HN3.out, (by rw [HCat.out]; show World.ownsRow _ _ _ _ _ _ (Cr.vals _); rw [Cr.vals_append]; exact HO3.out), HB3.out⟩
          case measure => simp [intOf]; omega
        · obtain rfl : j = k := by omega
          go_wp2_with fail
          go_ret
          exact ⟨_, rfl, by rw [← HMj.out]; exact HO.out, HN.out, HB.out⟩
end Go.Proofs.YtcmnfbpmkndfkaaDoor
namespace Go.Proofs.YtcmnfbpmkndfkaaDoor
open Go.ChangeShapes Go.WideShapes Go.ChangeAt Go.RowKit
set_option linter.unusedVariables false
set_option maxRecDepth 100000

/-- bytes, and noughts up to a sector's end -/
def padL (l : List Nat) : List Nat := l ++ List.replicate (512 - l.length) 0
theorem padL_length (l : List Nat) (h : l.length ≤ 512) : (padL l).length = 512 := by
  unfold padL
  rw [List.length_append, List.length_replicate]
  omega
theorem padL_lt (l : List Nat) (h : ∀ c ∈ l, c < 256) : ∀ c ∈ padL l, c < 256 := by
  intro c hc
  rcases List.mem_append.1 hc with hc | hc
  · exact h c hc
  · rw [(List.mem_replicate.1 hc).2]; decide
def zero512 : List Nat := List.replicate 512 0
theorem zero512_length : zero512.length = 512 := List.length_replicate
theorem noughts_vals : noughts = (vals zero512).toArray := by
  unfold noughts zero512
  show _ = (Cr.vals _).toArray
  unfold Cr.vals
  rw [List.map_replicate]
  generalize 512 = q
  apply Array.ext
  · simp [size_madeCells]
  · intro i h1 h2
    simp [madeCells, Nat.mod_one]
theorem splice_pad (l : List Nat) (h : l.length ≤ 512) : splice (vals zero512) 0 (vals l) = vals (padL l) := by
  unfold padL
  show _ = Cr.vals (_ ++ _)
  rw [Cr.vals_append]
  show (vals zero512).take 0 ++ (vals l ++ (vals zero512).drop (0 + (vals l).length)) = _
  rw [List.take_zero, List.nil_append, Nat.zero_add, show (vals l).length = l.length from Cr.vals_length l]
  congr 1
  show (Cr.vals zero512).drop l.length = _
  unfold Cr.vals zero512
  rw [← List.map_drop, List.drop_replicate]
theorem row_of_heap {w : World} {g : Nat} {l : List Nat} (h : w.heap[g]? = some (.cells (vals l).toArray 5 (0, 0))) (hl : l.length = 512) (hb : ∀ c ∈ l, c < 256) : ByteRow w (some ⟨g, 0, none⟩) 512 l := by
  refine ⟨hl, by unfold maxLen; omega, hb, fun _ => ⟨g, 0, rfl, fun i hi => ?_⟩⟩
  rw [Nat.zero_add]
  simp only [World.cell?, h]
  have := Cr.vals_get l i (by omega)
  simpa using this
theorem sector_any (x : Addr) (n cap : Nat) (l : List Nat) (w : World) (hr : ByteRow w (some x) n l) (h0 : 0 < n) (hn : n ≤ 512) :
    Calls Tryd.prog 47 #[.slice (some x) n cap] w fun e w' => e = .returned (.slice (some ⟨w.heap.size, 0, none⟩) 512 512) ∧ ByteRow w' (some ⟨w.heap.size, 0, none⟩) 512 (padL l) ∧ Below w.heap.size w w' := by
  have hmk := fun W => make512 W
  obtain ⟨g5, o5, hx5, _⟩ := hr.2.2.2 h0
  obtain rfl : x = ⟨g5, o5, none⟩ := Option.some.inj hx5
  have hr0 : Hid ((w.alloc (.cells noughts 5)).heap[w.heap.size]? = some (.cells (vals zero512).toArray 5 (0, 0))) := Lib.hid (by
    rw [noughts_vals]
    show (w.heap.push _)[w.heap.size]? = _
    simp)
  have HB0 : Hid (Below w.heap.size w (w.alloc (.cells noughts 5))) := Lib.hid ((Below.refl w.heap.size w).alloc (Nat.le_refl _) _)
  have HR := Lib.hid (hr.below HB0.out)
  have HL := Lib.hid hr.1
  have H256 := Lib.hid hr.2.2.1
  clear hr hx5
  go_enter Tryd.func47, Tryd.ntmps47
  go_wp2_with (with_reducible refine wpList_copy_splice rfl (.tmp 5) (.tmp 6) 34 34 rfl 5 Tryd.underlying34 (by kernel_rfl) (some ⟨w.heap.size, 0, none⟩) (some ⟨g5, o5, none⟩) 512 512 n cap rfl rfl w.heap.size 0 (vals zero512) 5 hr0.out (vals l) ?q1 ?q2 ?q3 ?q4 w.heap.size w HB0.out (Nat.le_refl _) ?_)
  case q1 => show (Cr.vals l).length = min n 512; rw [Cr.vals_length, HL.out]; omega
  case q2 => exact fun _ j v hj => by have h := src_cells HR.out h0 j v hj; rw [Cr.addr_add] at h; exact h
  case q3 => show 0 + (Cr.vals l).length ≤ (Cr.vals _).length; rw [Cr.vals_length, Cr.vals_length, HL.out, zero512_length]; omega
  case q4 => exact Cr.vals_one l
  intro w1 hrow hbel
  have hrow2 := hrow.out
  rw [splice_pad l (by rw [HL.out]; exact hn)] at hrow2
  have HF := Lib.hid (row_of_heap hrow2 (padL_length l (by rw [HL.out]; exact hn)) (padL_lt l H256.out))
  have HB1 := Lib.hid hbel
  clear hrow hrow2 hbel hr0 HR
  go_wp2_with fail
  go_ret
  exact ⟨rfl, HF.out, HB1.out⟩
theorem sector_nil (w : World) :
    Calls Tryd.prog 47 #[.slice none 0 0] w fun e w' => e = .returned (.slice (some ⟨w.heap.size, 0, none⟩) 512 512) ∧ ByteRow w' (some ⟨w.heap.size, 0, none⟩) 512 (List.replicate 512 0) ∧ Below w.heap.size w w' := by
  have hmk := fun W => make512 W
  have HF := Lib.hid (noughts_row w)
  have HB0 : Hid (Below w.heap.size w (w.alloc (.cells noughts 5))) := Lib.hid ((Below.refl w.heap.size w).alloc (Nat.le_refl _) _)
  go_enter Tryd.func47, Tryd.ntmps47
  go_wp2_with (refine wpList_copy_nothing rfl (.tmp 5) (.tmp 6) 34 34 rfl 5 Tryd.underlying34 (by kernel_rfl) (some ⟨w.heap.size, 0, none⟩) none 512 512 0 0 rfl rfl rfl ?_)
  go_ret
  exact ⟨rfl, HF.out, HB0.out⟩
end Go.Proofs.YtcmnfbpmkndfkaaDoor
namespace Go.Proofs.YtcmnfbpmkndfkaaDoor
open Go.ChangeShapes Go.WideShapes Go.ChangeAt Go.RowKit
set_option linter.unusedVariables false
set_option maxRecDepth 100000

/-- of a row of the walk's own -/
theorem row_own {w : World} {base n : Nat} {v : Value} {l : List Nat} (h : w.ownsRow base 5 1 v n (vals l)) (hv : v ≠ .slice none 0 0) (hn : n = l.length) (hl : ∀ c ∈ l, c < 256) (hm : l.length ≤ 7000) :
    ∃ g cap, v = .slice (some ⟨g, 0, none⟩) n cap ∧ Hid (ByteRow w (some ⟨g, 0, none⟩) n l) ∧ base ≤ g := by
  obtain ⟨g, cap, e, hM⟩ := Cr.Mine.of h hv hl
  exact ⟨g, cap, e, Lib.hid hM.row, hM.1⟩
theorem two_all {P : Nat → Prop} (h0 : P 0) (h1 : P 1) : ∀ i, i < 2 → P i
  | 0, _ => h0
  | 1, _ => h1
theorem Below.step {B : Nat} {w w1 w2 : World} (k : Below w1.heap.size w1 w2) (h : Below B w w1) (hB : B ≤ w1.heap.size) : Below B w w2 := h.trans (k.mono hB)
theorem size_alloc' (w : World) (o : Obj) : (w.alloc o).heap.size = w.heap.size + 1 := by
  show (w.heap.push o).size = _
  rw [Array.size_push]
theorem concat_two (b n cap : Nat) (a0 : Addr) (n0 c0 : Nat) (l0 : List Nat) (a1 : Addr) (n1 c1 : Nat) (l1 : List Nat) (w : World)
    (h0 : w.cell? ⟨b, 0, none⟩ = some (.slice (some a0) n0 c0)) (h1 : w.cell? ⟨b, 1, none⟩ = some (.slice (some a1) n1 c1)) (r0 : ByteRow w (some a0) n0 l0) (r1 : ByteRow w (some a1) n1 l1) (p0 : 0 < n0) (p1 : 0 < n1) (hm : (l0 ++ l1).length ≤ 7000) :
    Calls Tryd.prog 48 #[.slice (some ⟨b, 0, none⟩) 2 cap] w fun e w' => ∃ v, e = .returned v ∧ w'.ownsRow w.heap.size 5 1 v (l0 ++ l1).length (vals (l0 ++ l1)) ∧ v ≠ .slice none 0 0 ∧ Below w.heap.size w w' := by
  have h := concat_any b 2 cap (fun i => if i = 0 then some a0 else some a1) (fun i => if i = 0 then n0 else n1) (fun i => if i = 0 then c0 else c1) (fun i => if i = 0 then l0 else l1) w (by decide)
    (two_all h0 h1)
    (two_all r0 r1)
    (two_all p0 p1)
    (by show 0 < (([] ++ l0) ++ l1).length; rw [List.nil_append, List.length_append, r0.1]; omega) (by show (([] ++ l0) ++ l1).length ≤ 7000; rw [List.nil_append]; exact hm)
  have e : Cr.cat (fun i => if i = 0 then l0 else l1) 2 = l0 ++ l1 := by show ([] ++ l0) ++ l1 = _; rw [List.nil_append]
  rw [e] at h
  exact h
/-- a sector of a record's bytes -/
def bytesL (l : List Nat) : List Nat := padL (68 :: l)
theorem mark_row (W : World) (x : Nat) (hx : x < 256) (fr : Nat × Nat) : ByteRow (W.alloc (.cells #[.int .u8 (x : Int)] 5 fr)) (some ⟨W.heap.size, 0, none⟩) 1 [x] := by
  refine ⟨rfl, by unfold maxLen; omega, fun c hc => by rw [List.mem_singleton.1 hc]; exact hx, fun _ => ⟨_, 0, rfl, fun i hi => ?_⟩⟩
  obtain rfl : i = 0 := by omega
  exact Cr.cell_new W _ _ _ _ 0 _ rfl rfl
theorem concat_pair (W : World) (b : Nat) (hb : b = W.heap.size) (a0 : Addr) (n0 c0 : Nat) (l0 : List Nat) (a1 : Addr) (n1 c1 : Nat) (l1 : List Nat) (r0 : ByteRow W (some a0) n0 l0) (r1 : ByteRow W (some a1) n1 l1) (p0 : 0 < n0) (p1 : 0 < n1) (hm : n0 + n1 ≤ 7000) :
    Calls Tryd.prog 48 #[.slice (some ⟨b, 0, none⟩) 2 2] (W.alloc (.cells #[.slice (some a0) n0 c0, .slice (some a1) n1 c1] 34)) fun e w' => ∃ g cap, e = .returned (.slice (some ⟨g, 0, none⟩) (n0 + n1) cap) ∧ ByteRow w' (some ⟨g, 0, none⟩) (n0 + n1) (l0 ++ l1) ∧ W.heap.size ≤ g ∧ Below W.heap.size W w' := by
  have hB : Below W.heap.size W (W.alloc (.cells #[.slice (some a0) n0 c0, .slice (some a1) n1 c1] 34)) := (Below.refl _ _).alloc (Nat.le_refl _) _
  have hl : (l0 ++ l1).length = n0 + n1 := by rw [List.length_append, r0.1, r1.1]
  refine (concat_two b n0 2 a0 n0 c0 l0 a1 n1 c1 l1 _ (Cr.cell_new W _ _ _ b 0 _ hb rfl) (Cr.cell_new W _ _ _ b 1 _ hb rfl) (r0.below hB) (r1.below hB) p0 p1 (by omega)).mono ?_
  rintro e w' ⟨v, rfl, ho, hv, hb'⟩
  obtain ⟨g, cap, rfl, hR, hg⟩ := row_own ho hv rfl (fun c hc => by
    rcases List.mem_append.1 hc with hc | hc
    · exact r0.2.2.1 c hc
    · exact r1.2.2.1 c hc) (by omega)
  rw [hl]
  exact ⟨g, cap, rfl, by rw [← hl]; exact hR.out, Nat.le_trans hB.size hg, Below.step hb' hB hB.size⟩
theorem bytesSector_any (a : Addr) (n cap : Nat) (l : List Nat) (w : World) (hr : ByteRow w (some a) n l) (h0 : 0 < n) (hn : n ≤ 511) :
    Calls Tryd.prog 25 #[.slice (some a) n cap] w fun e w' => ∃ g, e = .returned (.slice (some ⟨g, 0, none⟩) 512 512) ∧ ByteRow w' (some ⟨g, 0, none⟩) 512 (bytesL l) ∧ w.heap.size ≤ g ∧ Below w.heap.size w w' := by
  have HM1 : Hid (ByteRow (w.alloc (.cells #[.int .u8 68] 5)) (some ⟨w.heap.size, 0, none⟩) 1 [68]) := Lib.hid (mark_row w 68 (by decide) _)
  have HB1 : Hid (Below w.heap.size w (w.alloc (.cells #[.int .u8 68] 5))) := Lib.hid ((Below.refl _ _).alloc (Nat.le_refl _) _)
  have HC := Lib.hid (concat_pair (w.alloc (.cells #[.int .u8 68] 5)) (w.heap.size + 1) (size_alloc' _ _).symm ⟨w.heap.size, 0, none⟩ 1 1 [68] a n cap l HM1.out (hr.below HB1.out) (by decide) h0 (by omega))
  clear hr HM1
  go_enter Tryd.func25, Tryd.ntmps25
  go_wp2_with (first
    | (go_at_call 48; refine HC.out.mono ?_; rintro e w2 ⟨g, cap2, rfl, hR, hg, hb⟩; have HR2 := Lib.hid hR; have HB2 := Lib.hid (Below.step hb HB1.out HB1.out.size); clear hR hb)
    | (go_at_call 47; refine (sector_any ⟨g, 0, none⟩ (1 + n) cap2 (68 :: l) _ HR2.out (by omega) (by omega)).mono ?_; rintro e w3 ⟨rfl, hR, hb⟩; have HR3 := Lib.hid hR; have HB3 := Lib.hid (Below.step hb HB2.out HB2.out.size); clear hR hb))
  go_ret
  exact ⟨w2.heap.size, rfl, HR3.out, HB2.out.size, HB3.out⟩
end Go.Proofs.YtcmnfbpmkndfkaaDoor
namespace Go.Proofs.YtcmnfbpmkndfkaaDoor
open Go.ChangeShapes Go.WideShapes Go.ChangeAt Go.RowKit
set_option linter.unusedVariables false
set_option maxRecDepth 100000

theorem code_pos (n : Int) : 0 < (Wr.code n).length := by
  unfold Wr.code
  unfold Wr.enc
  split
  · exact Nat.one_pos
  · exact Nat.succ_pos _
theorem code_lt (n : Int) : ∀ c ∈ Wr.code n, c < 256 := Wr.enc_lt _ _
theorem num_row (n : Int) (h1 : -9223372036854775808 ≤ n) (h2 : n ≤ 9223372036854775807) (w : World) :
    Calls Tryd.prog 52 #[.int .i64 n] w fun e w' => ∃ g cap, e = .returned (.slice (some ⟨g, 0, none⟩) (Wr.code n).length cap) ∧ ByteRow w' (some ⟨g, 0, none⟩) (Wr.code n).length (Wr.code n) ∧ Below w.heap.size w w' := by
  refine (Wr.num_any n h1 h2 w).mono ?_
  rintro e w' ⟨v, rfl, ho, hv, hb⟩
  obtain ⟨g, cap, rfl, hR, _⟩ := row_own ho hv rfl (code_lt n) (by have := Wr.code_len n; omega)
  exact ⟨g, cap, rfl, hR.out, hb⟩
/-- bytes with their sum -/
def closedL (l : List Nat) : List Nat := l ++ Cr.four (Cr.sum l)
theorem closedL_length (l : List Nat) : (closedL l).length = l.length + 4 := by unfold closedL; rw [List.length_append]; rfl
theorem close_row (x : Addr) (n cap : Nat) (l : List Nat) (w : World) (hr : ByteRow w (some x) n l) (hn : n ≤ 3000) (ht : Cr.Tab w) :
    Calls Tryd.prog 51 #[.slice (some x) n cap] w fun e w' => ∃ g cap2, e = .returned (.slice (some ⟨g, 0, none⟩) (n + 4) cap2) ∧ ByteRow w' (some ⟨g, 0, none⟩) (n + 4) (closedL l) ∧ Below w.heap.size w w' := by
  refine (Cr.close_some x n cap l w hr hn ht).mono ?_
  rintro e w' ⟨g, cap2, rfl, hM, hb⟩
  exact ⟨g, cap2, rfl, hM.row, hb⟩
def headL (age : Int) : List Nat := padL (closedL (76 :: 71 :: Wr.code age))
theorem mark2_row (W : World) (x y : Nat) (hx : x < 256) (hy : y < 256) (fr : Nat × Nat) : ByteRow (W.alloc (.cells #[.int .u8 (x : Int), .int .u8 (y : Int)] 5 fr)) (some ⟨W.heap.size, 0, none⟩) 2 [x, y] := by
  refine ⟨rfl, by unfold maxLen; omega, fun c hc => ?_, fun _ => ⟨_, 0, rfl, fun i hi => ?_⟩⟩
  · rcases List.mem_cons.1 hc with rfl | hc
    · exact hx
    · rw [List.mem_singleton.1 hc]; exact hy
  · rcases (show i = 0 ∨ i = 1 by omega) with rfl | rfl
    · exact Cr.cell_new W _ _ _ _ 0 _ rfl rfl
    · exact Cr.cell_new W _ _ _ _ 1 _ rfl rfl
theorem headSector_any (age : Int) (h1 : -9223372036854775808 ≤ age) (h2 : age ≤ 9223372036854775807) (w : World) (ht : Cr.Tab w) :
    Calls Tryd.prog 29 #[.int .i64 age] w fun e w' => ∃ g, e = .returned (.slice (some ⟨g, 0, none⟩) 512 512) ∧ ByteRow w' (some ⟨g, 0, none⟩) 512 (headL age) ∧ w.heap.size ≤ g ∧ Below w.heap.size w w' := by
  have HM0 := Lib.hid (mark2_row w 76 71 (by decide) (by decide) (0, 0))
  have HB0 : Hid (Below w.heap.size w (w.alloc (.cells #[.int .u8 76, .int .u8 71] 5))) := Lib.hid ((Below.refl _ _).alloc (Nat.le_refl _) _)
  have HT := Lib.hid ht
  have hl := Wr.code_len age
  have hp := code_pos age
  have HN := Lib.hid (num_row age h1 h2 (w.alloc (.cells #[.int .u8 76, .int .u8 71] 5)))
  clear ht
  go_enter Tryd.func29, Tryd.ntmps29
  go_wp2_with (first
    | (go_at_call 52; refine HN.out.mono ?_; rintro e w1 ⟨g1, cap1, rfl, hR, hb⟩; have HR1 := Lib.hid hR; have HB1 := Lib.hid (Below.step hb HB0.out HB0.out.size); have HC := Lib.hid (concat_pair w1 w1.heap.size rfl ⟨w.heap.size, 0, none⟩ 2 2 [76, 71] ⟨g1, 0, none⟩ _ cap1 _ (HM0.out.below hb) hR (by decide) hp (by omega)); clear hR hb)
    | (go_at_call 48; refine HC.out.mono ?_; rintro e w2 ⟨g, cap2, rfl, hR, hg, hb⟩; have HR2 := Lib.hid hR; have HB2 := Lib.hid (Below.step hb HB1.out HB1.out.size); clear hR hb)
    | (go_at_call 51; refine (close_row ⟨g, 0, none⟩ _ cap2 _ _ HR2.out (by omega) (Cr.Tab.below HT.out HB2.out)).mono ?_; rintro e w3 ⟨g3, cap3, rfl, hR, hb⟩; have HR3 := Lib.hid hR; have HB3 := Lib.hid (Below.step hb HB2.out HB2.out.size); clear hR hb)
    | (go_at_call 47; refine (sector_any ⟨g3, 0, none⟩ _ cap3 _ _ HR3.out (by omega) (by omega)).mono ?_; rintro e w4 ⟨rfl, hR, hb⟩; have HR4 := Lib.hid hR; have HB4 := Lib.hid (Below.step hb HB3.out HB3.out.size); clear hR hb))
  go_ret
  exact ⟨w3.heap.size, rfl, HR4.out, HB3.out.size, HB4.out⟩
end Go.Proofs.YtcmnfbpmkndfkaaDoor
namespace Go.Proofs.YtcmnfbpmkndfkaaDoor
open Go.ChangeShapes Go.WideShapes Go.ChangeAt Go.RowKit
set_option linter.unusedVariables false
set_option maxRecDepth 100000

theorem four_all {P : Nat → Prop} (h0 : P 0) (h1 : P 1) (h2 : P 2) (h3 : P 3) : ∀ i, i < 4 → P i
  | 0, _ => h0
  | 1, _ => h1
  | 2, _ => h2
  | 3, _ => h3
def pick4 {α : Type} (a b c d : α) : Nat → α
  | 0 => a
  | 1 => b
  | 2 => c
  | _ => d
theorem concat_quad (W : World) (b : Nat) (hb : b = W.heap.size) (a0 : Addr) (n0 c0 : Nat) (l0 : List Nat) (a1 : Addr) (n1 c1 : Nat) (l1 : List Nat) (a2 : Addr) (n2 c2 : Nat) (l2 : List Nat) (a3 : Addr) (n3 c3 : Nat) (l3 : List Nat)
    (r0 : ByteRow W (some a0) n0 l0) (r1 : ByteRow W (some a1) n1 l1) (r2 : ByteRow W (some a2) n2 l2) (r3 : ByteRow W (some a3) n3 l3) (p0 : 0 < n0) (p1 : 0 < n1) (p2 : 0 < n2) (p3 : 0 < n3) (hm : n0 + n1 + n2 + n3 ≤ 7000) :
    Calls Tryd.prog 48 #[.slice (some ⟨b, 0, none⟩) 4 4] (W.alloc (.cells #[.slice (some a0) n0 c0, .slice (some a1) n1 c1, .slice (some a2) n2 c2, .slice (some a3) n3 c3] 34)) fun e w' => ∃ g cap, e = .returned (.slice (some ⟨g, 0, none⟩) (n0 + n1 + n2 + n3) cap) ∧ ByteRow w' (some ⟨g, 0, none⟩) (n0 + n1 + n2 + n3) (l0 ++ l1 ++ l2 ++ l3) ∧ Below W.heap.size W w' := by
  have hB : Below W.heap.size W (W.alloc (.cells #[.slice (some a0) n0 c0, .slice (some a1) n1 c1, .slice (some a2) n2 c2, .slice (some a3) n3 c3] 34)) := (Below.refl _ _).alloc (Nat.le_refl _) _
  have hl : (l0 ++ l1 ++ l2 ++ l3).length = n0 + n1 + n2 + n3 := by simp only [List.length_append]; rw [r0.1, r1.1, r2.1, r3.1]
  have e : Cr.cat (pick4 l0 l1 l2 l3) 4 = l0 ++ l1 ++ l2 ++ l3 := by show ((([] ++ l0) ++ l1) ++ l2) ++ l3 = _; rw [List.nil_append]
  have h := concat_any b 4 4 (pick4 (some a0) (some a1) (some a2) (some a3)) (pick4 n0 n1 n2 n3) (pick4 c0 c1 c2 c3) (pick4 l0 l1 l2 l3) _ (by decide)
    (four_all (Cr.cell_new W _ _ _ b 0 _ hb rfl) (Cr.cell_new W _ _ _ b 1 _ hb rfl) (Cr.cell_new W _ _ _ b 2 _ hb rfl) (Cr.cell_new W _ _ _ b 3 _ hb rfl))
    (four_all (r0.below hB) (r1.below hB) (r2.below hB) (r3.below hB)) (four_all p0 p1 p2 p3) (by rw [e, hl]; omega) (by rw [e, hl]; exact hm)
  rw [e] at h
  refine h.mono ?_
  rintro e w' ⟨v, rfl, ho, hv, hb'⟩
  obtain ⟨g, cap, rfl, hR, hg⟩ := row_own ho hv rfl (fun c hc => by
    simp only [List.mem_append] at hc
    rcases hc with ((hc | hc) | hc) | hc
    · exact r0.2.2.1 c hc
    · exact r1.2.2.1 c hc
    · exact r2.2.2.1 c hc
    · exact r3.2.2.1 c hc) (by omega)
  rw [hl]
  exact ⟨g, cap, rfl, by rw [← hl]; exact hR.out, Below.step hb' hB hB.size⟩
/-- the sector that a record begins with -/
def recL (age number : Int) (l : List Nat) : List Nat := Wr.code age ++ Wr.code number ++ Wr.code (l.length : Int) ++ Wr.code ((Cr.sum l : Nat) : Int)
def startL (age number : Int) (l : List Nat) : List Nat := padL (72 :: closedL (recL age number l))
theorem recL_len (age number : Int) (l : List Nat) : (recL age number l).length ≤ 40 := by
  unfold recL
  simp only [List.length_append]
  have h1 := Wr.code_len age
  have h2 := Wr.code_len number
  have h3 := Wr.code_len (l.length : Int)
  have h4 := Wr.code_len ((Cr.sum l : Nat) : Int)
  omega
set_option maxHeartbeats 1000000 in
theorem startSector_any (age number : Int) (a1 : -9223372036854775808 ≤ age) (a2 : age ≤ 9223372036854775807) (b1 : -9223372036854775808 ≤ number) (b2 : number ≤ 9223372036854775807) (a : Option Addr) (n cap : Nat) (l : List Nat) (w : World) (hr : ByteRow w a n l) (hn : n ≤ 70368744177664) (ht : Cr.Tab w) :
    Calls Tryd.prog 27 #[.int .i64 age, .int .i64 number, .slice a n cap] w fun e w' => ∃ g, e = .returned (.slice (some ⟨g, 0, none⟩) 512 512) ∧ ByteRow w' (some ⟨g, 0, none⟩) 512 (startL age number l) ∧ w.heap.size ≤ g ∧ Below w.heap.size w w' := by
  have hs : Cr.sum l < 4294967296 := Cr.more_lt _ _ (by decide) hr.2.2.1
  have HL := Lib.hid hr.1
  have HE : Hid (recL age number l = Wr.code age ++ Wr.code number ++ Wr.code (n : Int) ++ Wr.code ((Cr.sum l : Nat) : Int)) := Lib.hid (by unfold recL; rw [hr.1])
  obtain ⟨S, hS⟩ : ∃ S, S = Cr.sum l := ⟨_, rfl⟩
  have HB0 : Hid (Below w.heap.size w (w.alloc (.cells #[.slice a n cap] 34))) := Lib.hid ((Below.refl _ _).alloc (Nat.le_refl _) _)
  have HSum := Lib.hid (Cr.sum_one w.heap.size 1 a n cap l (w.alloc (.cells #[.slice a n cap] 34)) (Cr.cell_new w _ _ _ _ 0 _ rfl rfl) (hr.below HB0.out) (Cr.Tab.below ht HB0.out))
  rw [← hS] at HSum HE hs
  have HT := Lib.hid ht
  have HR := Lib.hid hr
  have ha := Wr.code_len age
  have hpa := code_pos age
  have hb := Wr.code_len number
  have hpb := code_pos number
  have hc := Wr.code_len (n : Int)
  have hpc := code_pos (n : Int)
  have hd := Wr.code_len (S : Int)
  have hpd := code_pos (S : Int)
  have HSS := Lib.hid hS
  clear hS ht hr
  go_enter Tryd.func27, Tryd.ntmps27
  go_wp2_with (first
    | (go_at_call 50; refine HSum.out.mono ?_; rintro e w1 ⟨rfl, rfl⟩)
    | (go_at_call_of 52 age; refine (num_row age a1 a2 _).mono ?_; rintro e w1 ⟨g1, cap1, rfl, hR, hb⟩; have HR1 := Lib.hid hR; have HB1 := Lib.hid (Below.step hb HB0.out HB0.out.size); clear hR hb)
    | (go_at_call_of 52 number; refine (num_row number b1 b2 _).mono ?_; rintro e w2 ⟨g2, cap2, rfl, hR, hb⟩; have HR2 := Lib.hid hR; have HB2 := Lib.hid hb; clear hR hb)
    | (go_at_call_of 52 n; refine (num_row (n : Int) (by omega) (by omega) _).mono ?_; rintro e w3 ⟨g3, cap3, rfl, hR, hb⟩; have HR3 := Lib.hid hR; have HB3 := Lib.hid hb; clear hR hb)
    | (go_at_call_of 52 S; refine (num_row (S : Int) (by omega) (by omega) _).mono ?_; rintro e w4 ⟨g4, cap4, rfl, hR, hb⟩; have HR4 := Lib.hid hR; have HB4 := Lib.hid hb; clear hR hb; have HQ := Lib.hid (concat_quad w4 w4.heap.size rfl ⟨g1, 0, none⟩ _ cap1 _ ⟨g2, 0, none⟩ _ cap2 _ ⟨g3, 0, none⟩ _ cap3 _ ⟨g4, 0, none⟩ _ cap4 _ (((HR1.out.below HB2.out).below HB3.out).below HB4.out) ((HR2.out.below HB3.out).below HB4.out) (HR3.out.below HB4.out) HR4.out hpa hpb hpc hpd (by omega)); have HBQ := Lib.hid (Below.step HB4.out (Below.step HB3.out (Below.step HB2.out HB1.out HB1.out.size) (Nat.le_trans HB1.out.size HB2.out.size)) (Nat.le_trans (Nat.le_trans HB1.out.size HB2.out.size) HB3.out.size)); rw [← HE.out] at HQ)
    | (go_at_call_of 48 w4; refine HQ.out.mono ?_; rintro e w5 ⟨g5, cap5, rfl, hR, hb⟩; have HR5 := Lib.hid hR; have HB5 := Lib.hid (Below.step hb HBQ.out HBQ.out.size); clear hR hb)
    | (go_at_call 51; refine (close_row ⟨g5, 0, none⟩ _ cap5 _ _ HR5.out (by omega) (Cr.Tab.below HT.out HB5.out)).mono ?_; rintro e w6 ⟨g6, cap6, rfl, hR, hb⟩; have HB6 := Lib.hid (Below.step hb HB5.out HB5.out.size); have HM6 := Lib.hid (mark_row w6 72 (by decide) (0, 0)); have HBm : Hid (Below w6.heap.size w6 (w6.alloc (.cells #[.int .u8 72] 5))) := Lib.hid ((Below.refl _ _).alloc (Nat.le_refl _) _); have HP := Lib.hid (concat_pair (w6.alloc (.cells #[.int .u8 72] 5)) (w6.heap.size + 1) (size_alloc' _ _).symm ⟨w6.heap.size, 0, none⟩ 1 1 [72] ⟨g6, 0, none⟩ _ cap6 _ HM6.out (hR.below HBm.out) (by decide) (by omega) (by omega)); clear hR hb)
    | (go_at_call_of 48 w6; refine HP.out.mono ?_; rintro e w7 ⟨g7, cap7, rfl, hR, hg, hb⟩; have HR7 := Lib.hid hR; have HB7 := Lib.hid (Below.step (Below.step hb HBm.out HBm.out.size) HB6.out HB6.out.size); clear hR hb)
    | (go_at_call 47; refine (sector_any ⟨g7, 0, none⟩ _ cap7 _ _ HR7.out (by omega) (by omega)).mono ?_; rintro e w8 ⟨rfl, hR, hb⟩; have HR8 := Lib.hid hR; have HB8 := Lib.hid (Below.step hb HB7.out HB7.out.size); clear hR hb))
  go_ret
  exact ⟨w7.heap.size, rfl, HR8.out, HB7.out.size, HB8.out⟩
end Go.Proofs.YtcmnfbpmkndfkaaDoor
namespace Go.Proofs.YtcmnfbpmkndfkaaDoor
open Go.ChangeShapes Go.WideShapes Go.ChangeAt Go.RowKit
set_option linter.unusedVariables false
set_option maxRecDepth 100000

/-- a disk that nobody armed: what its sectors hold now; at most m changes so far -/
def Qd (w : World) (F : Nat → Prop) (p : Nat) (N : List ByteArray) (m : Nat) : Prop :=
  ∃ s, DiskAt w F p s ∧ s.N = N ∧ s.off = false ∧ s.armed = false ∧ s.left = 0 ∧ Good s N.length ∧ App s ∧ 0 ≤ s.steps ∧ s.steps ≤ m ∧ s.W.length ≤ m
theorem chg_un {s : DSt} (h : s.armed = false) : chg s = { s with steps := s.steps + 1 } ∧ chgE s = 0 := by
  have hn : ¬ (s.armed = true ∧ s.left = 0) := fun e => Bool.noConfusion (h.symm.trans e.1)
  unfold chg chgE
  rw [if_neg hn, if_neg hn]
  exact ⟨by simp [h], rfl⟩
theorem Qd.keep {w w' : World} {F G : Nat → Prop} {p m : Nat} {N : List ByteArray} (h : Qd w F p N m) (ho : Only G w w') (hd : ∀ k, F k → ¬ G k) : Qd w' F p N m := by
  obtain ⟨s, hs, r⟩ := h
  exact ⟨s, hs.keep ho hd, r⟩
theorem Qd.below {w w' : World} {F : Nat → Prop} {p m : Nat} {N : List ByteArray} (h : Qd w F p N m) (hb : Below w.heap.size w w') : Qd w' F p N m := by
  obtain ⟨s, hs, r⟩ := h
  exact ⟨s, hs.below hb, r⟩
theorem Qd.lts {w : World} {F : Nat → Prop} {p m : Nat} {N : List ByteArray} (h : Qd w F p N m) : ∀ k, F k → k < w.heap.size := by
  obtain ⟨s, hs, r⟩ := h
  exact hs.lts
theorem qwrite (w : World) (F : Nat → Prop) (p m n : Nat) (N : List ByteArray) (a : Option Addr) (cap : Nat) (l : List Nat) (h : Qd w F p N m) (hm : m < 900000) (hn : n < N.length) (hb : ByteRow w a 512 l) (ha : ∀ x, a = some x → ¬ F x.block) :
    Calls Tryd.prog 46 #[.pointer (some ⟨p, 0, none⟩), .int .i64 (n : Int), .slice a 512 cap] w fun e w' => e = .returned (.int .i64 0) ∧ Qd w' (Gr F w w') p (N.set n (bstr l)) (m + 1) ∧ Only F w w' := by
  obtain ⟨s, hs, rfl, ho, hu, hl, hg, hap, h1, h2, h3⟩ := h
  obtain ⟨c1, c2⟩ := chg_un hu
  have hz : (bstr l).size = 512 := by rw [size_bstr]; exact hb.1
  refine (write_ok w F p s n a cap l hs ho (by rw [hg.1]; exact hn) hb ha ⟨h1, by omega⟩ ⟨by omega, by omega⟩ (by omega) c2).mono ?_
  rintro e w' ⟨rfl, hd, hon⟩
  refine ⟨rfl, ⟨_, hd, rfl, ?_, ?_, ?_, ?_, app_wr hap n _, ?_, ?_, ?_⟩, hon⟩
  · show (chg s).off = false; rw [c1]; exact ho
  · show (chg s).armed = false; rw [c1]; exact hu
  · show (chg s).left = 0; rw [c1]; exact hl
  · rw [List.length_set]; exact good_wr hg n hn _ hz
  · show 0 ≤ (chg s).steps; rw [c1]; show 0 ≤ s.steps + 1; omega
  · show (chg s).steps ≤ _; rw [c1]; show s.steps + 1 ≤ _; omega
  · show (s.W ++ [(n, bstr l)]).length ≤ _; rw [List.length_append]; show s.W.length + 1 ≤ _; omega
theorem qbarrier (w : World) (F : Nat → Prop) (p m : Nat) (N : List ByteArray) (h : Qd w F p N m) (hm : m < 900000) :
    Calls Tryd.prog 49 #[.pointer (some ⟨p, 0, none⟩)] w fun e w' => e = .returned (.int .i64 0) ∧ Qd w' F p N (m + 1) ∧ Only F w w' := by
  obtain ⟨s, hs, rfl, ho, hu, hl, hg, hap, h1, h2, h3⟩ := h
  obtain ⟨c1, c2⟩ := chg_un hu
  refine (barrier_ok w F p s hs ho ⟨h1, by omega⟩ ⟨by omega, by omega⟩ c2).mono ?_
  rintro e w' ⟨rfl, hd, hon⟩
  rw [app_barrier hap] at hd
  refine ⟨rfl, ⟨_, hd, rfl, ?_, ?_, ?_, ?_, rfl, ?_, ?_, Nat.zero_le _⟩, hon⟩
  · show (chg s).off = false; rw [c1]; exact ho
  · show (chg s).armed = false; rw [c1]; exact hu
  · show (chg s).left = 0; rw [c1]; exact hl
  · exact ⟨rfl, rfl, hg.2.2.2.1, hg.2.2.2.1, fun x hx => by cases hx⟩
  · show 0 ≤ (chg s).steps; rw [c1]; show 0 ≤ s.steps + 1; omega
  · show (chg s).steps ≤ _; rw [c1]; show s.steps + 1 ≤ _; omega
/-- Read once more: there is room for what was read -/
theorem read_ok2 (w : World) (F : Nat → Prop) (p : Nat) (s : DSt) (n : Nat) (h : DiskAt w F p s) (ho : s.off = false) (hn : n < s.L.length) (hz : (s.N.getD n ⟨#[]⟩).size ≤ maxLen) :
    Calls Tryd.prog 74 #[.pointer (some ⟨p, 0, none⟩), .int .i64 n] w fun e w' => ∃ g c, e = .returned (.tuple #[.slice (some ⟨g, 0, none⟩) (s.N.getD n ⟨#[]⟩).size c, .int .i64 0]) ∧ ByteRow w' (some ⟨g, 0, none⟩) (s.N.getD n ⟨#[]⟩).size (bytesOf (s.N.getD n ⟨#[]⟩)) ∧ w.heap.size ≤ g ∧ Below w.heap.size w w' ∧ ((s.N.getD n ⟨#[]⟩).size ≤ c ∧ c ≤ maxLen) := by
  have hready := ready_any w F p s h
  have hhas := has_any w F p s n h
  rw [ho, if_neg (by decide)] at hready
  rw [decide_eq_true (by omega)] at hhas
  obtain ⟨lb, nb, lc, nc, wv, c0, c1, c2, cl, cn, hl, hcap, hmx, _⟩ := h.rows
  have hcell := cn n hn
  have hm : s.L.length ≤ 9223372036854775807 := by unfold maxLen at hmx; omega
  generalize s.N.getD n ⟨#[]⟩ = t at *
  generalize s.L.length = m at *
  have HR := Lib.hid hready
  have HH := Lib.hid hhas
  have hconv := fun W => run_bytes_of_string (P := Tryd.prog) W 9 34 5 t Tryd.underlying9 Tryd.underlying34 Tryd.underlying5
  clear hready hhas h ho cl cn c0 c2 hl hcap hmx
  go_enter Tryd.func74, Tryd.ntmps74
  go_wp2_with (first
    | (go_at_call 65; refine HR.out.mono ?_; rintro e1 w1 ⟨rfl, rfl⟩)
    | (go_at_call 66; refine HH.out.mono ?_; rintro e1 w1 ⟨rfl, rfl⟩))
  go_ret2
  exact ⟨_, _, rfl, row_of_string w t hz _ _, Nat.le_refl _, ((Below.refl _ _).drew.alloc (Nat.le_refl _) _), ⟨grownCap_ge _ _ _ _, grownCap_le_maxLen _ _ _ _ hz⟩⟩
theorem qread (w : World) (F : Nat → Prop) (p m n : Nat) (N : List ByteArray) (h : Qd w F p N m) (hn : n < N.length) :
    Calls Tryd.prog 74 #[.pointer (some ⟨p, 0, none⟩), .int .i64 (n : Int)] w fun e w' => ∃ g c, e = .returned (.tuple #[.slice (some ⟨g, 0, none⟩) 512 c, .int .i64 0]) ∧ ByteRow w' (some ⟨g, 0, none⟩) 512 (bytesOf (N.getD n ⟨#[]⟩)) ∧ w.heap.size ≤ g ∧ Below w.heap.size w w' ∧ (512 ≤ c ∧ c ≤ maxLen) := by
  obtain ⟨s, hs, rfl, ho, hu, hl, hg, hap, h1, h2, h3⟩ := h
  have hz := good_at hg n hn
  have hr := read_ok2 w F p s n hs ho (by rw [hg.1]; exact hn) (by rw [hz]; decide)
  rw [hz] at hr
  exact hr

/-- a device (or a log, whose first two cells are one) at block v, without an error, over the disk at p -/
def DevAt (w : World) (v p : Nat) : Prop := ∃ cs t, w.heap[v]? = some (.cells cs t) ∧ cs[0]? = some (.pointer (some ⟨p, 0, none⟩)) ∧ cs[1]? = some (.int .i64 0)
theorem DevAt.lt {w : World} {v p : Nat} (h : DevAt w v p) : v < w.heap.size := by
  obtain ⟨cs, t, h, _⟩ := h
  exact (Array.getElem?_eq_some_iff.1 h).1
theorem DevAt.keep {w w' : World} {F : Nat → Prop} {v p : Nat} (h : DevAt w v p) (ho : Only F w w') (hv : ¬ F v) : DevAt w' v p := by
  have hl := h.lt
  obtain ⟨cs, t, h, r⟩ := h
  exact ⟨cs, t, by rw [ho.block v hl hv]; exact h, r⟩
theorem DevAt.below {w w' : World} {v p : Nat} (h : DevAt w v p) (hb : Below w.heap.size w w') : DevAt w' v p := h.keep (Only.of_below (F := fun _ => False) hb) (fun g => g)
theorem DevAt.cells {w : World} {v p : Nat} (h : DevAt w v p) : w.cell? ⟨v, 0, none⟩ = some (.pointer (some ⟨p, 0, none⟩)) ∧ w.cell? ⟨v, 1, none⟩ = some (.int .i64 0) ∧ ∀ i, w.frozen? ⟨v, i, none⟩ = false := by
  obtain ⟨cs, t, h, h0, h1⟩ := h
  refine ⟨?_, ?_, fun i => ?_⟩
  · simp only [World.cell?, h]; exact h0
  · simp only [World.cell?, h]; exact h1
  · simp [World.frozen?, h]
/-- the error's cell is written: it is as it was -/
theorem DevAt.put {a w : World} {F : Nat → Prop} {v p : Nat} (h : DevAt w v p) (ho : Only F a w) : Only F a (w.setCell ⟨v, 1, none⟩ (.int .i64 0)) := by
  obtain ⟨cs, t, h, h0, h1⟩ := h
  refine ⟨ho.os, ho.tape, ho.output, by simp only [World.setCell, Array.size_modify]; exact ho.size, fun k hk hF => ?_⟩
  by_cases e : k = v
  · subst e
    have hs := set_put w k 1 (.int .i64 0) h
    have hc : cs.setIfInBounds 1 (.int .i64 0) = cs := by
      apply Array.ext_getElem?
      intro i
      rw [Array.getElem?_setIfInBounds]
      split
      · rename_i e
        subst e
        rw [h1]
        have := (Array.getElem?_eq_some_iff.1 h1).1
        simp [this]
      · rfl
    rw [hc] at hs
    rw [hs, ← h]
    exact ho.block k hk hF
  · exact (Below.heap_setCell w _ _ k e).trans (ho.block k hk hF)
theorem gr_set (F : Nat → Prop) (w w1 : World) (a : Addr) (u : Value) : Gr F w (w1.setCell a u) = Gr F w w1 := by
  funext k
  unfold Gr
  rw [show (w1.setCell a u).heap.size = w1.heap.size by simp only [World.setCell, Array.size_modify]]
theorem row_block {w : World} {g n : Nat} {l : List Nat} (h : ByteRow w (some ⟨g, 0, none⟩) n l) (h0 : 0 < n) : g < w.heap.size := by
  obtain ⟨b, o, e, hc⟩ := h.2.2.2 h0
  injection e with e
  injection e with e
  subst e
  exact cell_lt (hc 0 h0)
/-- what the written cell holds -/
theorem set_cell1 {w : World} {v p : Nat} (h : DevAt w v p) : (w.setCell ⟨v, 1, none⟩ (.int .i64 0)).cell? ⟨v, 1, none⟩ = some (.int .i64 0) := World.cell?_setCell_same _ _ _ h.cells.2.1
theorem dwrite (w : World) (F : Nat → Prop) (p m n v : Nat) (N : List ByteArray) (a : Option Addr) (cap : Nat) (l : List Nat) (h : Qd w F p N m) (hd : DevAt w v p) (hv : ¬ F v) (hm : m < 900000) (hn : n < N.length) (hb : ByteRow w a 512 l) (ha : ∀ x, a = some x → ¬ F x.block) :
    Calls Tryd.prog 24 #[.pointer (some ⟨v, 0, none⟩), .int .i64 (n : Int), .slice a 512 cap] w fun e w' => e = .returned (.tuple #[]) ∧ Qd w' (Gr F w w') p (N.set n (bstr l)) (m + 1) ∧ Only F w w' := by
  have H := Lib.hid (qwrite w F p m n N a cap l h hm hn hb ha)
  have HD := Lib.hid hd
  obtain ⟨c0, c1, _⟩ := hd.cells
  have hlt := hd.lt
  clear h hb ha hd
  go_enter Tryd.func24, Tryd.ntmps24
  go_wp2_with (go_at_call 46; refine H.out.mono ?_; rintro e w1 ⟨rfl, hq, hon⟩; have HQ := Lib.hid hq; have HO := Lib.hid hon; have HD1 := Lib.hid (HD.out.keep hon hv); obtain ⟨d0, d1, df⟩ := HD1.out.cells; clear hq hon)
  go_end0
  have HP := HD1.out.put (Only.refl (fun _ => False) w1)
  exact ⟨rfl, by rw [gr_set]; exact HQ.out.keep HP (fun _ _ g => g), HD1.out.put HO.out⟩
theorem dbarrier (w : World) (F : Nat → Prop) (p m v : Nat) (N : List ByteArray) (h : Qd w F p N m) (hd : DevAt w v p) (hv : ¬ F v) (hm : m < 900000) :
    Calls Tryd.prog 26 #[.pointer (some ⟨v, 0, none⟩)] w fun e w' => e = .returned (.tuple #[]) ∧ Qd w' F p N (m + 1) ∧ Only F w w' := by
  have H := Lib.hid (qbarrier w F p m N h hm)
  have HD := Lib.hid hd
  obtain ⟨c0, c1, _⟩ := hd.cells
  have hlt := hd.lt
  clear h hd
  go_enter Tryd.func26, Tryd.ntmps26
  go_wp2_with (go_at_call 49; refine H.out.mono ?_; rintro e w1 ⟨rfl, hq, hon⟩; have HQ := Lib.hid hq; have HO := Lib.hid hon; have HD1 := Lib.hid (HD.out.keep hon hv); obtain ⟨d0, d1, df⟩ := HD1.out.cells; clear hq hon)
  go_end0
  have HP := HD1.out.put (Only.refl (fun _ => False) w1)
  exact ⟨rfl, HQ.out.keep HP (fun _ _ g => g), HD1.out.put HO.out⟩
theorem dread (w : World) (F : Nat → Prop) (p m n v : Nat) (N : List ByteArray) (h : Qd w F p N m) (hd : DevAt w v p) (hn : n < N.length) :
    Calls Tryd.prog 58 #[.pointer (some ⟨v, 0, none⟩), .int .i64 (n : Int)] w fun e w' => ∃ g c, e = .returned (.slice (some ⟨g, 0, none⟩) 512 c) ∧ ByteRow w' (some ⟨g, 0, none⟩) 512 (bytesOf (N.getD n ⟨#[]⟩)) ∧ w.heap.size ≤ g ∧ Below w.heap.size w w' ∧ (512 ≤ c ∧ c ≤ maxLen) := by
  have H := Lib.hid (qread w F p m n N h hn)
  have HD := Lib.hid hd
  obtain ⟨c0, c1, _⟩ := hd.cells
  have hlt := hd.lt
  clear h hd
  go_enter Tryd.func58, Tryd.ntmps58
  go_wp2_with (go_at_call 74; refine H.out.mono ?_; rintro e w1 ⟨g, c, rfl, hr, hg, hb, hcap⟩; have HR := Lib.hid hr; have HO := Lib.hid (Only.of_below (F := fun _ => False) hb); have HD1 := Lib.hid (HD.out.below hb); obtain ⟨d0, d1, df⟩ := HD1.out.cells; have ds := set_cell1 HD1.out; have hB := Lib.hid hb; clear hr hb)
  go_ret
  have HP := HD1.out.put (Only.refl (fun _ => False) w1)
  have HB := HP.below (Nat.le_refl _) (fun _ h => h.elim)
  exact ⟨g, c, rfl, HR.out.below HB, hg, hB.out.trans (HB.mono hB.out.size), hcap⟩
end Go.Proofs.YtcmnfbpmkndfkaaDoor
namespace Go.Proofs.YtcmnfbpmkndfkaaDoor
open Go.ChangeShapes Go.WideShapes Go.ChangeAt Go.RowKit
set_option linter.unusedVariables false
set_option maxRecDepth 100000

theorem gr_gr {F : Nat → Prop} {a b c : World} (h1 : a.heap.size ≤ b.heap.size) (h2 : b.heap.size ≤ c.heap.size) : ∀ k, Gr (Gr F a b) b c k → Gr F a c k := by
  intro k h
  rcases h with (h | ⟨h3, h4⟩) | ⟨h3, h4⟩
  · exact .inl h
  · exact .inr ⟨h3, by omega⟩
  · exact .inr ⟨by omega, h4⟩
theorem only_gr {F G : Nat → Prop} {a b c : World} (h : Only F a b) (k : Only G b c) (hG : ∀ j, G j → Gr F a b j) : Only F a c :=
  ⟨k.os.trans h.os, k.tape.trans h.tape, k.output.trans h.output, Nat.le_trans h.size k.size, fun j hj hF => (k.block j (Nat.lt_of_lt_of_le hj h.size) (fun g => by
    rcases hG j g with g | g
    · exact hF g
    · omega)).trans (h.block j hj hF)⟩
theorem gr_self (F : Nat → Prop) (w : World) : Gr F w w = F := by
  funext k
  refine propext ⟨fun h => ?_, .inl⟩
  rcases h with h | h
  · exact h
  · omega
theorem Qd.wider {w : World} {F G : Nat → Prop} {p m : Nat} {N : List ByteArray} (h : Qd w F p N m) (hF : ∀ k, F k → G k) (hG : ∀ k, G k → k < w.heap.size) : Qd w G p N m := by
  obtain ⟨s, hs, r⟩ := h
  exact ⟨s, hs.wider hF hG, r⟩
theorem gr_lt {F : Nat → Prop} {a b : World} (hF : ∀ k, F k → k < a.heap.size) (hs : a.heap.size ≤ b.heap.size) : ∀ k, Gr F a b k → k < b.heap.size := fun k h => by
  rcases h with h | h
  · have := hF k h; omega
  · exact h.2
/-- behind a step that made the sector, and one that wrote it -/
theorem gr_step {F : Nat → Prop} {a b c d : World} (h1 : a.heap.size ≤ b.heap.size) (h2 : b.heap.size ≤ c.heap.size) (h3 : c.heap.size ≤ d.heap.size) : ∀ k, Gr (Gr F a b) c d k → Gr F a d k := by
  intro k h
  rcases h with (h | ⟨h4, h5⟩) | ⟨h4, h5⟩
  · exact .inl h
  · exact .inr ⟨h4, by omega⟩
  · exact .inr ⟨by omega, h5⟩
theorem gr_new {F : Nat → Prop} {a b : World} {v : Nat} (hF : ¬ F v) (hv : v < a.heap.size) : ¬ Gr F a b v := fun h => by
  rcases h with h | h
  · exact hF h
  · omega
theorem gr_mono {F : Nat → Prop} {a b c : World} (h : b.heap.size ≤ c.heap.size) : ∀ k, Gr F a b k → Gr F a c k := fun k g => by
  rcases g with g | g
  · exact .inl g
  · exact .inr ⟨g.1, by omega⟩
theorem Qd.more {w : World} {F : Nat → Prop} {p m m' : Nat} {N : List ByteArray} (h : Qd w F p N m) (hm : m ≤ m') : Qd w F p N m' := by
  obtain ⟨s, a1, a2, a3, a4, a5, a6, a7, a8, a9, a10⟩ := h
  exact ⟨s, a1, a2, a3, a4, a5, a6, a7, a8, by omega, by omega⟩
theorem gr_gr' {F : Nat → Prop} {a b c d e : World} (h1 : a.heap.size ≤ b.heap.size) (h2 : b.heap.size ≤ c.heap.size) (h3 : c.heap.size ≤ d.heap.size) (h4 : d.heap.size ≤ e.heap.size) : ∀ k, Gr (Gr F a b) d e k → Gr F a e k := by
  intro k h
  rcases h with (h | ⟨h5, h6⟩) | ⟨h5, h6⟩
  · exact .inl h
  · exact .inr ⟨h5, by omega⟩
  · exact .inr ⟨by omega, h6⟩
theorem tab_only {w w' : World} {F : Nat → Prop} (h : Cr.Tab w) (ho : Only F w w') (hF : ¬ F 0) : Cr.Tab w' := fun i hi => by
  have hc := h i hi
  rw [World.cell?_of_block (w := w) (ho.block _ (cell_lt hc) hF)]
  exact hc
theorem count_any (w : World) (F : Nat → Prop) (p m : Nat) (N : List ByteArray) (h : Qd w F p N m) :
    Calls Tryd.prog 56 #[.pointer (some ⟨p, 0, none⟩)] w fun e w' => e = .returned (.int .i64 (N.length : Int)) ∧ w = w' := by
  obtain ⟨s, hs, rfl, _, _, _, hg, _⟩ := h
  have hl : s.L.length = s.N.length := hg.1
  obtain ⟨lb, nb, lc, nc, wv, hh, _⟩ := hs
  have c0 : w.cell? ⟨p, 0, none⟩ = some (.slice (some ⟨lb, 0, none⟩) s.L.length lc) := by simp only [World.cell?, hh]; rfl
  rw [hl] at c0
  clear hh hg hl
  generalize s.N.length = n at *
  go_enter Tryd.func56, Tryd.ntmps56
  go_wp2_with fail
  go_ret
  exact ⟨rfl, rfl⟩
theorem fits_any (w : World) (F : Nat → Prop) (p m f c : Nat) (N : List ByteArray) (h : Qd w F p N m) (h3 : 3 ≤ c) (hl : f + c ≤ N.length) (hN : N.length ≤ 65536) :
    Calls Tryd.prog 33 #[.pointer (some ⟨p, 0, none⟩), .int .i64 (f : Int), .int .i64 (c : Int)] w fun e w' => e = .returned (.bool true) ∧ w = w' := by
  have H := Lib.hid (fun W (hW : w = W) => by subst hW; exact count_any w F p m N h)
  have h1 : (0 : Int) ≤ (f : Int) := by omega
  have h2 : (2 : Int) < (c : Int) := by omega
  have h4 : (f : Int) ≤ (N.length : Int) - (c : Int) := by omega
  have hN2 : (N.length : Int) ≤ 65536 := by omega
  clear h
  generalize N.length = n at *
  go_enter Tryd.func33, Tryd.ntmps33
  go_wp2_with (go_at_call 56; refine (H.out _ rfl).mono ?_; rintro e w1 ⟨rfl, rfl⟩)
  go_ret
  exact ⟨rfl, rfl⟩

/-- what Format makes of a disk: k sectors behind the first are noughts -/
def noughtK (N : List ByteArray) (f : Nat) : Nat → List ByteArray
  | 0 => N
  | k + 1 => (noughtK N f k).set (f + 1 + k) blank
theorem noughtK_length (N : List ByteArray) (f k : Nat) : (noughtK N f k).length = N.length := by
  induction k with
  | zero => rfl
  | succ k ih => show ((noughtK N f k).set _ _).length = _; rw [List.length_set, ih]
def fmtN (N : List ByteArray) (f c : Nat) : List ByteArray := (noughtK N f (c - 1)).set f (bstr (headL 1))
set_option maxHeartbeats 1000000 in
theorem format_any (w : World) (F : Nat → Prop) (p m f c : Nat) (N : List ByteArray) (h : Qd w F p N m) (h3 : 3 ≤ c) (hl : f + c ≤ N.length) (hN : N.length ≤ 65536) (hm : m + c + 5 < 900000) (ht : Cr.Tab w) (hF : ¬ F 0) :
    Calls Tryd.prog 32 #[.pointer (some ⟨p, 0, none⟩), .int .i64 (f : Int), .int .i64 (c : Int)] w fun e w' => e = .returned (.int .i64 0) ∧ (∃ F', Qd w' F' p (fmtN N f c) (m + c + 3) ∧ ∀ k, F' k → Gr F w w' k) ∧ Only F w w' := by
  have HQ := Lib.hid h
  have HFI := Lib.hid (fun W (hW : w = W) => by subst hW; exact fits_any w F p m f c N h h3 hl hN)
  have HT := Lib.hid ht
  clear h ht
  go_enter Tryd.func32, Tryd.ntmps32
  go_wp2_with (go_at_call 33; refine (HFI.out _ rfl).mono ?_; rintro e w1 ⟨rfl, rfl⟩)
  obtain ⟨w1, hw1⟩ : ∃ w1, w1 = w.alloc (.cells #[.pointer (some ⟨p, 0, none⟩), .int .i64 0] 61) := ⟨_, rfl⟩
  have HB1 : Hid (Below w.heap.size w w1) := Lib.hid (by rw [hw1]; exact (Below.refl _ _).alloc (Nat.le_refl _) _)
  have HD1 : Hid (DevAt w1 w.heap.size p) := Lib.hid (by
    rw [hw1]
    refine ⟨#[.pointer (some ⟨p, 0, none⟩), .int .i64 0], 61, ?_, rfl, rfl⟩
    show (w.heap.push _)[w.heap.size]? = _
    simp)
  rw [← hw1]
  have HV : Hid (¬ F w.heap.size) := Lib.hid (fun g => by have := HQ.out.lts _ g; omega)
  have HVl : Hid (w.heap.size < w1.heap.size) := Lib.hid HD1.out.lt
  have HQ1 := Lib.hid (HQ.out.below HB1.out)
  have HT1 := Lib.hid (Cr.Tab.below HT.out HB1.out)
  have HO1 : Hid (Only F w w1) := Lib.hid (Only.of_below HB1.out)
  have HS1 : Hid (w.heap.size ≤ w1.heap.size) := Lib.hid HB1.out.size
  have HFl : Hid (∀ k, F k → k < w1.heap.size) := Lib.hid HQ1.out.lts
  clear hw1 HB1 HFI HQ HT
  obtain ⟨v, hv⟩ : ∃ v, v = w.heap.size := ⟨_, rfl⟩
  rw [← hv] at HV HVl HD1 ⊢
  clear hv
  go_loopw [8] (fun i wr => ∃ k : Nat, i = .int .i64 ((f : Int) + 1 + (k : Int)) ∧ k + 1 ≤ c ∧ Qd wr (Gr F w1 wr) p (noughtK N f k) (m + k) ∧ Only F w1 wr) (fun i _ => f + c - (intOf i).toNat)
  case atStart => exact ⟨0, by simp, by omega, by rw [gr_self]; exact HQ1.out, Only.refl _ _⟩
  case round =>
    obtain ⟨k, rfl, hk, hq, ho⟩ := hrel
    have HQr := Lib.hid hq
    have HOr := Lib.hid ho
    have HDr := Lib.hid (HD1.out.keep ho HV.out)
    clear hq ho HQ1
    by_cases g : k + 1 < c
    · have hW : Hid (∀ W, Below wr.heap.size wr W → ByteRow W (some ⟨wr.heap.size, 0, none⟩) 512 (List.replicate 512 0) → Calls Tryd.prog 24 #[.pointer (some ⟨v, 0, none⟩), .int .i64 ((f : Int) + 1 + (k : Int)), .slice (some ⟨wr.heap.size, 0, none⟩) 512 512] W fun e w' => e = .returned (.tuple #[]) ∧ Qd w' (Gr (Gr F w1 wr) W w') p (noughtK N f (k + 1)) (m + k + 1) ∧ Only (Gr F w1 wr) W w') := Lib.hid (fun W hb hr => by
        have h := dwrite W (Gr F w1 wr) p (m + k) (f + 1 + k) v (noughtK N f k) (some ⟨wr.heap.size, 0, none⟩) 512 (List.replicate 512 0) (HQr.out.below hb) (HDr.out.below hb) (gr_new HV.out HVl.out) (by omega) (by rw [noughtK_length]; omega) hr (fun x hx => by
          obtain rfl := Option.some.inj hx
          intro g
          have := HQr.out.lts _ g
          exact absurd this (Nat.lt_irrefl _))
        rw [show ((f + 1 + k : Nat) : Int) = (f : Int) + 1 + (k : Int) by omega] at h
        exact h)
      go_wp2_with (first
        | (go_at_call 47; refine (sector_nil _).mono ?_; rintro e w2 ⟨rfl, hR, hb⟩; have HR2 := Lib.hid hR; have HB2 := Lib.hid hb; clear hR hb)
        | (go_at_call 24; refine (hW.out _ HB2.out HR2.out).mono ?_; rintro e w3 ⟨rfl, hq, ho⟩; have HQ3 := Lib.hid hq; have HO3 := Lib.hid ho; clear hq ho))
      go_roundw
      case rel => exact ⟨k + 1, by go_num, by omega, HQ3.out.wider (gr_step HOr.out.size HB2.out.size HO3.out.size) (gr_lt HFl.out (Nat.le_trans HOr.out.size (Nat.le_trans HB2.out.size HO3.out.size))), only_gr (HOr.out.trans (Only.of_below HB2.out)) HO3.out (gr_mono HB2.out.size)⟩
      case measure => simp [intOf]; omega
    · obtain rfl : c = k + 1 := by omega
      have hBa := Lib.hid (dbarrier wr (Gr F w1 wr) p (m + k) v (noughtK N f k) HQr.out HDr.out (gr_new HV.out HVl.out) (by omega))
      have hG1 : Hid (¬ Gr F w1 wr v) := Lib.hid (gr_new HV.out HVl.out)
      have hTr := Lib.hid (tab_only HT1.out HOr.out hF)
      have hGq : Hid (¬ Gr F w1 wr 0) := Lib.hid (gr_new hF (cell_lt (HT1.out 0 (by decide))))
      go_wp2_with (first
        | (go_at_call 26; refine hBa.out.mono ?_; rintro e w2 ⟨rfl, hq, ho⟩; have HQ2 := Lib.hid hq; have HO2 := Lib.hid ho; have HD2 := Lib.hid (HDr.out.keep ho hG1.out); have HT2 := Lib.hid (tab_only hTr.out ho hGq.out); clear hq ho))
      clear hBa
      go_wp2_with (first
        | (go_at_call 29; refine (headSector_any 1 (by decide) (by decide) w2 HT2.out).mono ?_; rintro e w3 ⟨gh, rfl, hR, hg, hb⟩; have HQ3 := Lib.hid (HQ2.out.below hb); have HD3 := Lib.hid (HD2.out.below hb); have HB3 := Lib.hid hb; have HW := Lib.hid (dwrite w3 (Gr F w1 wr) p (m + k + 1) f v (noughtK N f k) (some ⟨gh, 0, none⟩) 512 (headL 1) HQ3.out HD3.out hG1.out (by omega) (by rw [noughtK_length]; omega) hR (fun x hx => by
            obtain rfl := Option.some.inj hx
            intro g
            have g1 := HQr.out.lts _ g
            have g2 := HO2.out.size
            dsimp only at g1
            omega)); clear hR hb hg)
        | (go_at_call 24; refine HW.out.mono ?_; rintro e w4 ⟨rfl, hq, ho⟩; have HQ4 := Lib.hid hq; have HO4 := Lib.hid ho; have HD4 := Lib.hid (HD3.out.keep ho hG1.out); have HBa := Lib.hid (dbarrier w4 (Gr (Gr F w1 wr) w3 w4) p (m + k + 2) v _ HQ4.out HD4.out (gr_new hG1.out (Nat.lt_of_lt_of_le HVl.out (Nat.le_trans HOr.out.size (Nat.le_trans HO2.out.size HB3.out.size)))) (by omega)); clear hq ho)
        | (go_at_call 26; refine HBa.out.mono ?_; rintro e w5 ⟨rfl, hq, ho⟩; have HQ5 := Lib.hid hq; have HO5 := Lib.hid ho; have HD5 := Lib.hid (HD4.out.keep ho (gr_new hG1.out (Nat.lt_of_lt_of_le HVl.out (Nat.le_trans HOr.out.size (Nat.le_trans HO2.out.size HB3.out.size))))); obtain ⟨d0, d1, df⟩ := HD5.out.cells; clear hq ho))
      go_ret
      have s1 := HOr.out.size
      have s2 := HO2.out.size
      have s3 := HB3.out.size
      have s4 := HO4.out.size
      have s5 := HO5.out.size
      refine ⟨rfl, ⟨_, (show Qd w5 (Gr (Gr F w1 wr) w3 w4) p (fmtN N f (k + 1)) (m + k + 3) from HQ5.out).more (by omega), fun j hj => ?_⟩, ?_⟩
      · rcases hj with (hj | ⟨h4, h5⟩) | ⟨h4, h5⟩
        · exact .inl hj
        · exact .inr ⟨by have := HS1.out; omega, by omega⟩
        · exact .inr ⟨by have := HS1.out; omega, by omega⟩
      · have o1 := only_gr HOr.out HO2.out (fun j hj => hj)
        have o2 := only_gr (o1.trans (Only.of_below HB3.out)) HO4.out (gr_mono (by omega))
        have o3 := only_gr o2 HO5.out (gr_gr' s1 s2 s3 s4)
        exact HO1.out.trans o3
end Go.Proofs.YtcmnfbpmkndfkaaDoor
namespace Go.Proofs.YtcmnfbpmkndfkaaDoor
open Go.ChangeShapes Go.WideShapes Go.ChangeAt Go.RowKit
set_option linter.unusedVariables false
set_option maxRecDepth 100000

structure LSt where
  f : Nat
  c : Nat
  head : Nat
  age : Nat
  number : Nat
  used : Nat
def LSt.cells (p : Nat) (s : LSt) : Array Value := #[.pointer (some ⟨p, 0, none⟩), .int .i64 0, .int .i64 (s.f : Int), .int .i64 (s.c : Int), .int .i64 (s.head : Int), .int .i64 (s.age : Int), .int .i64 (s.number : Int), .int .i64 (s.used : Int)]
def LogAt (w : World) (g p : Nat) (s : LSt) : Prop := w.heap[g]? = some (.cells (s.cells p) 63)
theorem LogAt.lt {w : World} {g p : Nat} {s : LSt} (h : LogAt w g p s) : g < w.heap.size := (Array.getElem?_eq_some_iff.1 h).1
theorem LogAt.dev {w : World} {g p : Nat} {s : LSt} (h : LogAt w g p s) : DevAt w g p := ⟨_, _, h, rfl, rfl⟩
theorem LogAt.keep {w w' : World} {F : Nat → Prop} {g p : Nat} {s : LSt} (h : LogAt w g p s) (ho : Only F w w') (hg : ¬ F g) : LogAt w' g p s := by
  unfold LogAt
  rw [ho.block g h.lt hg]
  exact h
theorem LogAt.below {w w' : World} {g p : Nat} {s : LSt} (h : LogAt w g p s) (hb : Below w.heap.size w w') : LogAt w' g p s := h.keep (Only.of_below (F := fun _ => False) hb) (fun x => x)
theorem LogAt.at_ {w : World} {g p : Nat} {s : LSt} (h : LogAt w g p s) : w.cell? ⟨g, 2, none⟩ = some (.int .i64 (s.f : Int)) ∧ w.cell? ⟨g, 3, none⟩ = some (.int .i64 (s.c : Int)) ∧ w.cell? ⟨g, 4, none⟩ = some (.int .i64 (s.head : Int)) ∧ w.cell? ⟨g, 5, none⟩ = some (.int .i64 (s.age : Int)) ∧ w.cell? ⟨g, 6, none⟩ = some (.int .i64 (s.number : Int)) ∧ w.cell? ⟨g, 7, none⟩ = some (.int .i64 (s.used : Int)) ∧ ∀ i, w.frozen? ⟨g, i, none⟩ = false := by
  unfold LogAt at h
  refine ⟨?_, ?_, ?_, ?_, ?_, ?_, fun i => ?_⟩
  all_goals first | (simp only [World.cell?, h]; rfl) | simp [World.frozen?, h]
theorem below_dN (w : World) (n : Nat) : Below w.heap.size w (w.drewN n) := ⟨rfl, rfl, rfl, Nat.le_refl _, fun _ _ => rfl⟩
theorem left_any (w : World) (g p : Nat) (s : LSt) (h : LogAt w g p s) (hu : s.used ≤ s.c) (hc : s.c ≤ 65536) :
    Calls Tryd.prog 30 #[.pointer (some ⟨g, 0, none⟩)] w fun e w' => e = .returned (.int .i64 ((s.c - s.used : Nat) : Int)) ∧ ∃ n, w' = w.drewN n := by
  obtain ⟨c2, c3, c4, c5, c6, c7, cf⟩ := h.at_
  have hsub : ((s.c - s.used : Nat) : Int) = (s.c : Int) - (s.used : Int) := by omega
  rw [hsub]
  clear c2 c4 c5 c6 cf h
  clear hsub
  go_enter Tryd.func30, Tryd.ntmps30
  go_wp2_with fail
  go_quiet (fail)
  go_wp2_with fail
  go_ret
  exact ⟨rfl, _, rfl⟩
theorem age_any (w : World) (g p : Nat) (s : LSt) (h : LogAt w g p s) :
    Calls Tryd.prog 10 #[.pointer (some ⟨g, 0, none⟩)] w fun e w' => e = .returned (.int .i64 (s.age : Int)) ∧ w = w' := by
  obtain ⟨c2, c3, c4, c5, c6, c7, cf⟩ := h.at_
  clear c2 c3 c4 c6 c7 cf h
  go_enter Tryd.func10, Tryd.ntmps10
  go_wp2_with fail
  go_ret
  exact ⟨rfl, rfl⟩
/-- how many bytes the next record may have -/
def roomL (s : LSt) : Int := if s.c - s.used = 0 then -1 else (((s.c - s.used - 1) * 511 : Nat) : Int)
theorem room_any (w : World) (g p : Nat) (s : LSt) (h : LogAt w g p s) (hu : s.used ≤ s.c) (hc : s.c ≤ 30000) :
    Calls Tryd.prog 11 #[.pointer (some ⟨g, 0, none⟩)] w fun e w' => e = .returned (.int .i64 (roomL s)) ∧ ∃ n, w' = w.drewN n := by
  have HL : Hid (∀ W, (∃ n, W = w.drewN n) → Calls Tryd.prog 30 #[.pointer (some ⟨g, 0, none⟩)] W fun e w' => e = .returned (.int .i64 ((s.c - s.used : Nat) : Int)) ∧ ∃ n, w' = w.drewN n) := Lib.hid (fun W hW => by
    obtain ⟨n, rfl⟩ := hW
    refine (left_any (w.drewN n) g p s (h.below (below_dN w n)) hu (by omega)).mono ?_
    rintro e w' ⟨rfl, m, rfl⟩
    exact ⟨rfl, n + m, by simp [World.drewN, Nat.add_assoc]⟩)
  have hk : s.c - s.used ≤ 30000 := by omega
  unfold roomL
  clear h
  generalize s.c - s.used = k at *
  by_cases h0 : k = 0
  · subst h0
    rw [if_pos rfl]
    go_enter Tryd.func11, Tryd.ntmps11
    go_wp2_with (go_at_call 30; refine (HL.out _ ⟨0, rfl⟩).mono ?_; rintro e w1 ⟨rfl, n1, rfl⟩)
    go_ret
    exact ⟨rfl, _, rfl⟩
  · rw [if_neg h0]
    have h0i : ((k : Int) == 0) = false := by simp; omega
    have h1 : (((k - 1) * 511 : Nat) : Int) = ((k : Int) - 1) * 511 := by omega
    have h2 : min (((k : Int) - 1) * 511) 16777216 = ((k : Int) - 1) * 511 := by omega
    rw [h1]
    go_enter Tryd.func11, Tryd.ntmps11
    go_wp2_with (first
      | (go_at_call_of 30 g; first | (refine (HL.out _ ⟨0, rfl⟩).mono ?_; rintro e w1 ⟨rfl, n1, rfl⟩) | (refine (HL.out _ ⟨_, rfl⟩).mono ?_; rintro e w1 ⟨rfl, n2, rfl⟩)))
    go_ret
    exact ⟨by first | rfl | exact ret_int (by go_num), _, rfl⟩
def sectorsN (n : Nat) : Nat := (n + 510) / 511
theorem sectorsOf_any (n : Nat) (hn : n ≤ 70368744177664) (w : World) :
    Calls Tryd.prog 53 #[.int .i64 (n : Int)] w fun e w' => e = .returned (.int .i64 (sectorsN n : Nat)) ∧ w = w' := by
  have h1 : ((sectorsN n : Nat) : Int) = ((n : Int) + 511 - 1) / 511 := by unfold sectorsN; omega
  have h2 : (0 : Int) ≤ (n : Int) + 511 - 1 := by omega
  rw [h1]
  go_enter Tryd.func53, Tryd.ntmps53
  go_wp2_with fail
  go_ret
  exact ⟨by first | rfl | exact ret_int (by go_num), rfl⟩
def LSt.passed (s : LSt) (n : Nat) : LSt := { s with number := s.number + 1, used := s.used + (1 + sectorsN n) }
theorem pass_val (n : Nat) (hn : n ≤ 70368744177664) (u : Nat) (hu : u ≤ 65536) : IntKind.i64.wrap ((u : Int) + IntKind.i64.wrap (1 + ((sectorsN n : Nat) : Int))) = ((u + (1 + sectorsN n) : Nat) : Int) := by
  have hs : sectorsN n ≤ 70368744177664 := by unfold sectorsN; omega
  generalize sectorsN n = q at *
  rw [IntKind.wrap_i64, IntKind.wrap_i64]
  omega
theorem pass_end {w : World} {g p n : Nat} {s : LSt} (h : LogAt w g p s) (hn : n ≤ 70368744177664) (hu : s.used ≤ 65536) : LogAt ((w.setCell ⟨g, 6, none⟩ (.int .i64 ((s.number : Int) + 1))).setCell ⟨g, 7, none⟩ (.int .i64 (IntKind.i64.wrap ((s.used : Int) + IntKind.i64.wrap (1 + ((sectorsN n : Nat) : Int)))))).drew g p (s.passed n) := by
  rw [pass_val n hn s.used hu]
  have h1 := set_put w g 6 (.int .i64 ((s.number : Int) + 1)) h
  have h2 := set_put _ g 7 (.int .i64 ((s.used + (1 + sectorsN n) : Nat) : Int)) h1
  exact h2
theorem pass_only {w : World} {g : Nat} {u v : Value} : Only (fun k => k = g) w ((w.setCell ⟨g, 6, none⟩ u).setCell ⟨g, 7, none⟩ v).drew := (((Only.refl (fun k => k = g) w).setCell (p := ⟨g, 6, none⟩) rfl u).setCell (p := ⟨g, 7, none⟩) rfl v).drew
theorem pass_any (w : World) (g p n : Nat) (s : LSt) (h : LogAt w g p s) (hn : n ≤ 70368744177664) (hu : s.used ≤ 65536) (hk : s.number ≤ 65536) :
    Calls Tryd.prog 28 #[.pointer (some ⟨g, 0, none⟩), .int .i64 (n : Int)] w fun e w' => e = .returned (.tuple #[]) ∧ LogAt w' g p (s.passed n) ∧ Only (fun k => k = g) w w' := by
  obtain ⟨c2, c3, c4, c5, c6, c7, cf⟩ := h.at_
  have HS := Lib.hid (sectorsOf_any n hn)
  have hlt := h.lt
  have HH := Lib.hid h
  clear h
  go_enter Tryd.func28, Tryd.ntmps28
  go_wp2_with fail
  go_region_with (go_at_call 53; refine (HS.out _).mono ?_; rintro e w1 ⟨rfl, rfl⟩)
  all_goals (go_end0; exact ⟨rfl, pass_end HH.out hn hu, pass_only⟩)
end Go.Proofs.YtcmnfbpmkndfkaaDoor
namespace Go.Proofs.YtcmnfbpmkndfkaaDoor
open Go.ChangeShapes Go.WideShapes Go.ChangeAt Go.RowKit
set_option linter.unusedVariables false
set_option maxRecDepth 100000

/-- a sector of the walk's own: new since B -/
def SecV (B : Nat) (L : List Nat) (v : Value) (W : World) : Prop := ∃ gh, v = Value.slice (some ⟨gh, 0, none⟩) 512 512 ∧ ByteRow W (some ⟨gh, 0, none⟩) 512 L ∧ B ≤ gh
theorem secV_stable (B : Nat) (L : List Nat) : Stable (SecV B L) := fun v W W' hg h => by
  obtain ⟨gh, h1, h2, h3⟩ := h
  exact ⟨gh, h1, h2.below hg, h3⟩
def LSt.cut (s : LSt) : LSt := { s with head := 1 - s.head, age := s.age + 1, number := 0, used := 2 }
theorem cut_end {w : World} {g p : Nat} {s : LSt} (h : LogAt w g p s) (hh : s.head ≤ 1) : LogAt ((((w.setCell ⟨g, 4, none⟩ (.int .i64 (1 - (s.head : Int)))).setCell ⟨g, 5, none⟩ (.int .i64 ((s.age : Int) + 1))).setCell ⟨g, 6, none⟩ (.int .i64 0)).setCell ⟨g, 7, none⟩ (.int .i64 2)) g p s.cut := by
  rw [show (1 - (s.head : Int)) = ((1 - s.head : Nat) : Int) by omega]
  have h1 := set_put w g 4 (.int .i64 ((1 - s.head : Nat) : Int)) h
  have h2 := set_put _ g 5 (.int .i64 ((s.age : Int) + 1)) h1
  have h3 := set_put _ g 6 (.int .i64 0) h2
  have h4 := set_put _ g 7 (.int .i64 2) h3
  exact h4
set_option maxHeartbeats 1000000 in
theorem truncate_any (w : World) (F : Nat → Prop) (g p m : Nat) (s : LSt) (N : List ByteArray) (h : Qd w F p N m) (hl : LogAt w g p s) (hg : ¬ F g) (hh : s.head ≤ 1) (hf : s.f + 2 ≤ N.length) (hN : N.length ≤ 65536) (ha : s.age < 4611686018427387904) (hm : m + 5 < 900000) (ht : Cr.Tab w) (hF : ¬ F 0) :
    Calls Tryd.prog 9 #[.pointer (some ⟨g, 0, none⟩)] w fun e w' => e = .returned (.int .i64 0) ∧ LogAt w' g p s.cut ∧ (∃ F', Qd w' F' p (N.set (s.f + (1 - s.head)) (bstr (headL ((s.age + 1 : Nat) : Int)))) (m + 2) ∧ ∀ k, F' k → Gr F w w' k ∧ k ≠ g) ∧ Only (fun k => F k ∨ k = g) w w' := by
  obtain ⟨c2, c3, c4, c5, c6, c7, cf⟩ := hl.at_
  have HD := Lib.hid hl.dev
  have HL := Lib.hid hl
  have HQ := Lib.hid h
  have hlt := hl.lt
  have hne : ((s.age : Int) == 9223372036854775807) = false := by simp; omega
  have HHd := Lib.hid (fun W hb => headSector_any ((s.age + 1 : Nat) : Int) (by omega) (by omega) W (Cr.Tab.below ht hb))
  have e1 : ((s.age + 1 : Nat) : Int) = (s.age : Int) + 1 := by omega
  have HT := Lib.hid ht
  clear h hl ht
  go_enter Tryd.func9, Tryd.ntmps9
  go_wp2_with fail
  rw [e1] at HHd
  have hidx : ((s.f + (1 - s.head) : Nat) : Int) = (s.f : Int) + (1 - (s.head : Int)) := by omega
  have HC2 : Hid (∀ W, Gl w.drew W → W.cell? ⟨g, 2, none⟩ = some (.int .i64 (s.f : Int)) ∧ W.cell? ⟨g, 5, none⟩ = some (.int .i64 (s.age : Int))) := Lib.hid (fun W hW => by
    have h := (HL.out.below hW.undrew).at_
    exact ⟨h.1, h.2.2.2.1⟩)
  have hw1 : IntKind.i64.wrap ((s.f : Int) + (1 - (s.head : Int))) = (s.f : Int) + (1 - (s.head : Int)) := by rw [IntKind.wrap_i64]; omega
  have hw2 : wrap64 ((s.f : Int) + (1 - (s.head : Int))) = (s.f : Int) + (1 - (s.head : Int)) := by unfold wrap64; omega
  have hw3 : IntKind.i64.wrap ((s.age : Int) + 1) = (s.age : Int) + 1 := by rw [IntKind.wrap_i64]; omega
  have hw4 : wrap64 ((s.age : Int) + 1) = (s.age : Int) + 1 := by unfold wrap64; omega
  refine wp_region_last_lit [.is (.pointer (some ⟨g, 0, none⟩)), .is (.pointer (some ⟨g, 0, none⟩)), .is (.pointer (some ⟨g, 0, none⟩)),
    .is (.pointer (some ⟨g, 0, none⟩)), .is (.pointer (some ⟨g, 0, none⟩)), .is (.pointer (some ⟨g, 2, none⟩)), .is (.int .i64 (s.f : Int)), .is (.int .i64 (1 - (s.head : Int))), .is (.int .i64 ((s.f : Int) + (1 - (s.head : Int)))),
    .is (.pointer (some ⟨g, 0, none⟩)), .is (.pointer (some ⟨g, 0, none⟩)), .is (.pointer (some ⟨g, 5, none⟩)), .is (.int .i64 (s.age : Int)), .is (.int .i64 ((s.age : Int) + 1)),
    .has (SecV w.heap.size (headL ((s.age : Int) + 1)))] (by kernel_rfl) (by kernel_rfl) (by kernel_rfl) (by kernel_rfl) ?_
  repeat1' (refine wpInvL_is ?_ ?_; (focus (intro W hW hF K hK; clear hF; obtain ⟨d2, d5⟩ := HC2.out W hW; go_simp; exact hK _ _ (Gl.refl _) rfl)); simp only [Act.put, List.setIfInBounds_toArray, List.set_cons_zero, List.set_cons_succ])
  refine wpInvL_has _ (secV_stable _ _) ?_ ?_
  · intro W hW hF K hK
    clear hF
    go_simp
    refine (HHd.out W hW.undrew).mono ?_
    rintro e w1 ⟨gh, rfl, hR, hgh, hb⟩
    exact ⟨_, rfl, hK _ _ hb ⟨gh, rfl, hR, Nat.le_trans hW.undrew.size hgh⟩⟩
  intro v14
  simp only [Act.put, List.setIfInBounds_toArray, List.set_cons_zero, List.set_cons_succ]
  refine wpInvL_last ?_
  intro W hW hF
  obtain ⟨gh, rfl, hR, hgh⟩ := hF _ (List.mem_cons_self ..)
  clear hF
  have HB := Lib.hid hW.undrew
  have HWr := dwrite W F p m (s.f + (1 - s.head)) g N (some ⟨gh, 0, none⟩) 512 (headL ((s.age : Int) + 1)) (HQ.out.below HB.out) (HD.out.below HB.out) hg (by omega) (by omega) hR (fun x hx => by
    obtain rfl := Option.some.inj hx
    intro gg
    have := HQ.out.lts _ gg
    dsimp only at this
    omega)
  rw [hidx] at HWr
  have HWR := Lib.hid HWr
  clear HWr hR hW
  go_simp
  refine HWR.out.mono ?_
  rintro e w1 ⟨rfl, hq, ho⟩
  refine ⟨_, rfl, ?_⟩
  have HO1 := Lib.hid ho
  have HD1 := Lib.hid ((HD.out.below HB.out).keep ho hg)
  have HL1 := Lib.hid ((HL.out.below HB.out).keep ho hg)
  have hg1 : Hid (¬ Gr F W w1 g) := Lib.hid (gr_new hg (Nat.lt_of_lt_of_le hlt HB.out.size))
  have HBa := Lib.hid (dbarrier w1 (Gr F W w1) p (m + 1) g _ hq HD1.out hg1.out (by omega))
  clear hq ho HWR HHd HC2 c2 c3 c4 c5 c6 c7 cf
  go_wp2_with (go_at_call 26; refine HBa.out.mono ?_; rintro e w2 ⟨rfl, hq, ho⟩; have HQ2 := Lib.hid hq; have HO2 := Lib.hid ho; have HL2 := Lib.hid (HL1.out.keep ho hg1.out); obtain ⟨c2, c3, c4, c5, c6, c7, cf⟩ := HL2.out.at_; obtain ⟨d0, d1, _⟩ := HL2.out.dev.cells; have hlt2 := HL2.out.lt; clear hq ho)
  go_ret
  have s1 := HB.out.size
  have s2 := HO1.out.size
  have s3 := HO2.out.size
  have hcut := cut_end HL2.out hh
  have hon : Only (fun k => k = g) w2 ((((w2.setCell ⟨g, 4, none⟩ (.int .i64 (1 - (s.head : Int)))).setCell ⟨g, 5, none⟩ (.int .i64 ((s.age : Int) + 1))).setCell ⟨g, 6, none⟩ (.int .i64 0)).setCell ⟨g, 7, none⟩ (.int .i64 2)) :=
    ((((Only.refl (fun k => k = g) w2).setCell (p := ⟨g, 4, none⟩) rfl _).setCell (p := ⟨g, 5, none⟩) rfl _).setCell (p := ⟨g, 6, none⟩) rfl _).setCell (p := ⟨g, 7, none⟩) rfl _
  have s4 := hon.size
  refine ⟨rfl, hcut, ⟨Gr F W w1, ?_, fun k hk => ⟨?_, fun e => hg1.out (e ▸ hk)⟩⟩, ?_⟩
  · rw [e1]
    exact HQ2.out.keep hon (fun k hk e => hg1.out (e ▸ hk))
  · rcases hk with hk | ⟨h4, h5⟩
    · exact .inl hk
    · exact .inr ⟨by omega, by omega⟩
  · have o1 : Only F w w1 := (Only.of_below HB.out).trans HO1.out
    have o2 : Only F w w2 := only_gr o1 HO2.out (fun k hk => by
      rcases hk with hk | ⟨h4, h5⟩
      · exact .inl hk
      · exact .inr ⟨by omega, h5⟩)
    exact (o2.mono (fun k hk => .inl hk)).trans (hon.mono (fun k hk => .inr hk))
end Go.Proofs.YtcmnfbpmkndfkaaDoor
namespace Go.Proofs.YtcmnfbpmkndfkaaDoor
open Go.ChangeShapes Go.WideShapes Go.ChangeAt Go.RowKit
set_option linter.unusedVariables false
set_option maxRecDepth 100000

theorem texts_dec {l m : List Nat} (hl : ∀ c ∈ l, c < 256) (hm : ∀ c ∈ m, c < 256) : ((bstr l).toList == (bstr m).toList) = decide (l = m) := by
  by_cases h : l = m
  · subst h
    rw [beq_self_eq_true]
    simp
  · rw [decide_eq_false h, beq_eq_false_iff_ne, ByteArray.toList_eq, ByteArray.toList_eq]
    intro e
    exact h (by rw [← bytesOf_bstr l hl, ← bytesOf_bstr m hm, ByteArray.ext (Array.toList_inj.1 e)])
theorem equal_any (a b : Option Addr) (n m c d : Nat) (l k : List Nat) (w : World) (h1 : ByteRow w a n l) (h2 : ByteRow w b m k) :
    Calls Tryd.prog 63 #[.slice a n c, .slice b m d] w fun e w' => e = .returned (.bool (decide (l = k))) ∧ w = w' := by
  have e1 := conv_row c h1
  have e2 := conv_row d h2
  have h := texts_dec h1.2.2.1 h2.2.2.1
  rw [← h]
  clear h h1 h2
  go_enter Tryd.func63, Tryd.ntmps63
  go_wp2_with fail
  go_ret
  exact ⟨rfl, rfl⟩
/-- a sector that was read -/
def SecR (L : List Nat) (v : Value) (W : World) : Prop := ∃ gh c, v = Value.slice (some ⟨gh, 0, none⟩) 512 c ∧ ByteRow W (some ⟨gh, 0, none⟩) 512 L ∧ (512 ≤ c ∧ c ≤ maxLen)
theorem secR_stable (L : List Nat) : Stable (SecR L) := fun v W W' hg h => by
  obtain ⟨gh, c, h1, h2, h3⟩ := h
  exact ⟨gh, c, h1, h2.below hg, h3⟩
theorem row_drop {W : World} {gh : Nat} {l : List Nat} (h : ByteRow W (some ⟨gh, 0, none⟩) 512 l) : ByteRow W (some ⟨gh, 2, none⟩) 510 (l.drop 2) := by
  obtain ⟨h1, h2, h3, h4⟩ := h
  refine ⟨by rw [List.length_drop, h1], by omega, fun c hc => h3 c (List.mem_of_mem_drop hc), fun _ => ⟨gh, 2, rfl, fun i hi => ?_⟩⟩
  obtain ⟨b, o, e, hc⟩ := h4 (by decide)
  injection e with e
  injection e with e1 e2
  subst e1 e2
  have := hc (2 + i) (by omega)
  rw [Nat.zero_add] at this
  rw [this]
  simp [List.getD, List.getElem?_drop]
theorem readNum_in (l : List Nat) : -9223372036854775808 ≤ (Wr.readNum 1 9223372036854775807 l 0).1 ∧ (Wr.readNum 1 9223372036854775807 l 0).1 ≤ 9223372036854775807 := by
  unfold Wr.readNum
  repeat' split
  all_goals first | omega | (dsimp only; omega)
/-- the age of a head -/
def hageL (l : List Nat) : Int := if l = headL (Wr.readNum 1 9223372036854775807 (l.drop 2) 0).1 then (Wr.readNum 1 9223372036854775807 (l.drop 2) 0).1 else 0
theorem headAge_any (w : World) (F : Nat → Prop) (g p m k : Nat) (s : LSt) (N : List ByteArray) (h : Qd w F p N m) (hl : LogAt w g p s) (hk : k ≤ 1) (hf : s.f + 2 ≤ N.length) (hN : N.length ≤ 65536) (ht : Cr.Tab w) :
    Calls Tryd.prog 57 #[.pointer (some ⟨g, 0, none⟩), .int .i64 (k : Int)] w fun e w' => e = .returned (.int .i64 (hageL (bytesOf (N.getD (s.f + k) ⟨#[]⟩)))) ∧ Below w.heap.size w w' := by
  have HC2 : Hid (∀ W, Gl w.drew W → W.cell? ⟨g, 2, none⟩ = some (.int .i64 (s.f : Int))) := Lib.hid (fun W hW => (hl.below hW.undrew).at_.1)
  have HR : Hid (∀ W, Gl w.drew W → Calls Tryd.prog 58 #[.pointer (some ⟨g, 0, none⟩), .int .i64 ((s.f : Int) + (k : Int))] W fun e w' => ∃ gh c, e = .returned (.slice (some ⟨gh, 0, none⟩) 512 c) ∧ ByteRow w' (some ⟨gh, 0, none⟩) 512 (bytesOf (N.getD (s.f + k) ⟨#[]⟩)) ∧ W.heap.size ≤ gh ∧ Below W.heap.size W w' ∧ (512 ≤ c ∧ c ≤ maxLen)) := Lib.hid (fun W hW => by
    have h := dread W F p m (s.f + k) g N (h.below hW.undrew) (hl.below hW.undrew).dev (by omega)
    rw [show ((s.f + k : Nat) : Int) = (s.f : Int) + (k : Int) by omega] at h
    exact h)
  have HT : Hid (∀ W, Below w.heap.size w W → Cr.Tab W) := Lib.hid (fun W hb => Cr.Tab.below ht hb)
  have hw1 : IntKind.i64.wrap ((s.f : Int) + (k : Int)) = (s.f : Int) + (k : Int) := by rw [IntKind.wrap_i64]; omega
  have hw2 : wrap64 ((s.f : Int) + (k : Int)) = (s.f : Int) + (k : Int) := by unfold wrap64; omega
  have hlt := hl.lt
  clear h hl ht
  generalize bytesOf (N.getD (s.f + k) ⟨#[]⟩) = l at *
  obtain ⟨n, hn⟩ : ∃ n, n = (Wr.readNum 1 9223372036854775807 (l.drop 2) 0).1 := ⟨_, rfl⟩
  have HN := Lib.hid hn
  have hn1 : -9223372036854775808 ≤ n ∧ n ≤ 9223372036854775807 := by rw [hn]; exact readNum_in _
  unfold hageL
  rw [← hn]
  clear hn
  cases hdec : decide (l = headL n)
  all_goals have HDec := Lib.hid hdec
  · rw [if_neg (of_decide_eq_false hdec)]
    clear hdec
    go_enter Tryd.func57, Tryd.ntmps57
    go_wp2_with fail
    refine wp_region_inv_lit [.is (.pointer (some ⟨g, 0, none⟩)), .is (.pointer (some ⟨g, 0, none⟩)), .is (.pointer (some ⟨g, 0, none⟩)),
      .is (.pointer (some ⟨g, 0, none⟩)), .is (.pointer (some ⟨g, 0, none⟩)), .is (.pointer (some ⟨g, 2, none⟩)), .is (.int .i64 (s.f : Int)), .is (.int .i64 (k : Int)), .is (.int .i64 ((s.f : Int) + (k : Int))),
      .has (SecR l), .has (SecR l)] (by kernel_rfl) (by kernel_rfl) ?_
    repeat1' (refine wpInv_is ?_ ?_; (focus (intro W hW hF K hK; clear hF; have d2 := HC2.out W hW; go_simp; exact hK _ _ (Gl.refl _) rfl)); simp only [Act.put, List.setIfInBounds_toArray, List.set_cons_zero, List.set_cons_succ])
    refine wpInv_has _ (secR_stable _) ?_ ?_
    · intro W hW hF K hK
      clear hF
      go_simp
      refine (HR.out W hW).mono ?_
      rintro e w1 ⟨gh, c, rfl, hR, _, hb, hc⟩
      exact ⟨_, rfl, hK _ _ hb ⟨gh, c, rfl, hR, hc⟩⟩
    intro v9
    simp only [Act.put, List.setIfInBounds_toArray, List.set_cons_zero, List.set_cons_succ]
    refine wpInv_has _ (secR_stable _) ?_ ?_
    · intro W hW hF K hK
      obtain ⟨gh, c, rfl, hR, hc⟩ := hF _ (List.mem_cons_self ..) (by kernel_rfl)
      have HRR := Lib.hid hR
      clear hF hR
      go_simp
      exact hK _ _ (Gl.refl _) ⟨gh, c, rfl, HRR.out, hc⟩
    intro v10
    simp only [Act.put, List.setIfInBounds_toArray, List.set_cons_zero, List.set_cons_succ]
    refine wpInv_end ?_
    intro W hW hF
    obtain ⟨gh, c, rfl, hR, hc⟩ := hF _ (List.mem_cons_self ..)
    obtain ⟨gh9, c9, rfl, _, _⟩ := hF _ (List.mem_cons_of_mem _ (List.mem_cons_self ..))
    have HB := Lib.hid hW.undrew
    have HRow := Lib.hid hR
    clear hF hR hW
    obtain ⟨hc1, hc2⟩ := hc
    have hsl : ∀ W, (Instr.slice 34 (.slice (some ⟨gh, 0, none⟩) 512 c) (some (.int .i64 2)) none none).run Tryd.prog W = .ok (.slice (some ⟨gh, 2, none⟩) 510 (c - 2)) W := fun W => by
      have h := Wr.slice_from (some ⟨gh, 0, none⟩) 512 c 2 (by decide) W
      have e : Wr.fromA (some ⟨gh, 0, none⟩) c 2 = some ⟨gh, 2, none⟩ := by
        unfold Wr.fromA
        rw [if_neg (by omega)]
        show some ((⟨gh, 0, none⟩ : Addr).add 2) = _
        rw [Cr.addr_add]
      rw [e] at h
      exact h
    have hlen := HRow.out.1
    have hdrop : ByteRow W (some ⟨gh, 2, none⟩) 510 (l.drop 2) := row_drop HRow.out
    have HO := Lib.hid (Wr.open_any (some ⟨gh, 2, none⟩) 510 (c - 2) (l.drop 2) W ⟨hdrop, by omega, by omega, fun e => by cases e⟩ (by omega))
    clear hdrop
    go_wp2_with (first
      | (go_at_call 59; refine HO.out.mono ?_; rintro e w2 ⟨q, rfl, hi, hq, hb⟩; have HI2 := Lib.hid hi; have HP2 := Lib.hid hq; have HB2 := Lib.hid hb; clear hi hq hb)
      | (go_at_call 60; refine (Wr.inNum_any q 1 9223372036854775807 (l.drop 2) 0 _ HI2.out).mono ?_; rintro e w3 ⟨rfl, _, hb⟩; rw [← HN.out]; have HB3 := Lib.hid (Below.trans HB2.out (hb _ HP2.out)); clear hb)
      | (go_at_call 29; refine (headSector_any n hn1.1 hn1.2 _ (HT.out _ (Below.step HB3.out HB.out HB.out.size))).mono ?_; rintro e w4 ⟨gn, rfl, hR, _, hb⟩; have HB4 := Lib.hid (Below.step hb HB3.out HB3.out.size); have HE := Lib.hid (equal_any (some ⟨gh, 0, none⟩) (some ⟨gn, 0, none⟩) 512 512 c 512 l (headL n) w4 (HRow.out.below HB4.out) hR); rw [HDec.out] at HE; clear hR hb)
      | (go_at_call 63; refine HE.out.mono ?_; rintro e w5 ⟨rfl, rfl⟩))
    go_ret
    exact ⟨rfl, Below.step HB4.out HB.out HB.out.size⟩
  · rw [if_pos (of_decide_eq_true hdec)]
    clear hdec
    go_enter Tryd.func57, Tryd.ntmps57
    go_wp2_with fail
    refine wp_region_inv_lit [.is (.pointer (some ⟨g, 0, none⟩)), .is (.pointer (some ⟨g, 0, none⟩)), .is (.pointer (some ⟨g, 0, none⟩)),
      .is (.pointer (some ⟨g, 0, none⟩)), .is (.pointer (some ⟨g, 0, none⟩)), .is (.pointer (some ⟨g, 2, none⟩)), .is (.int .i64 (s.f : Int)), .is (.int .i64 (k : Int)), .is (.int .i64 ((s.f : Int) + (k : Int))),
      .has (SecR l), .has (SecR l)] (by kernel_rfl) (by kernel_rfl) ?_
    repeat1' (refine wpInv_is ?_ ?_; (focus (intro W hW hF K hK; clear hF; have d2 := HC2.out W hW; go_simp; exact hK _ _ (Gl.refl _) rfl)); simp only [Act.put, List.setIfInBounds_toArray, List.set_cons_zero, List.set_cons_succ])
    refine wpInv_has _ (secR_stable _) ?_ ?_
    · intro W hW hF K hK
      clear hF
      go_simp
      refine (HR.out W hW).mono ?_
      rintro e w1 ⟨gh, c, rfl, hR, _, hb, hc⟩
      exact ⟨_, rfl, hK _ _ hb ⟨gh, c, rfl, hR, hc⟩⟩
    intro v9
    simp only [Act.put, List.setIfInBounds_toArray, List.set_cons_zero, List.set_cons_succ]
    refine wpInv_has _ (secR_stable _) ?_ ?_
    · intro W hW hF K hK
      obtain ⟨gh, c, rfl, hR, hc⟩ := hF _ (List.mem_cons_self ..) (by kernel_rfl)
      have HRR := Lib.hid hR
      clear hF hR
      go_simp
      exact hK _ _ (Gl.refl _) ⟨gh, c, rfl, HRR.out, hc⟩
    intro v10
    simp only [Act.put, List.setIfInBounds_toArray, List.set_cons_zero, List.set_cons_succ]
    refine wpInv_end ?_
    intro W hW hF
    obtain ⟨gh, c, rfl, hR, hc⟩ := hF _ (List.mem_cons_self ..)
    obtain ⟨gh9, c9, rfl, _, _⟩ := hF _ (List.mem_cons_of_mem _ (List.mem_cons_self ..))
    have HB := Lib.hid hW.undrew
    have HRow := Lib.hid hR
    clear hF hR hW
    obtain ⟨hc1, hc2⟩ := hc
    have hsl : ∀ W, (Instr.slice 34 (.slice (some ⟨gh, 0, none⟩) 512 c) (some (.int .i64 2)) none none).run Tryd.prog W = .ok (.slice (some ⟨gh, 2, none⟩) 510 (c - 2)) W := fun W => by
      have h := Wr.slice_from (some ⟨gh, 0, none⟩) 512 c 2 (by decide) W
      have e : Wr.fromA (some ⟨gh, 0, none⟩) c 2 = some ⟨gh, 2, none⟩ := by
        unfold Wr.fromA
        rw [if_neg (by omega)]
        show some ((⟨gh, 0, none⟩ : Addr).add 2) = _
        rw [Cr.addr_add]
      rw [e] at h
      exact h
    have hlen := HRow.out.1
    have hdrop : ByteRow W (some ⟨gh, 2, none⟩) 510 (l.drop 2) := row_drop HRow.out
    have HO := Lib.hid (Wr.open_any (some ⟨gh, 2, none⟩) 510 (c - 2) (l.drop 2) W ⟨hdrop, by omega, by omega, fun e => by cases e⟩ (by omega))
    clear hdrop
    go_wp2_with (first
      | (go_at_call 59; refine HO.out.mono ?_; rintro e w2 ⟨q, rfl, hi, hq, hb⟩; have HI2 := Lib.hid hi; have HP2 := Lib.hid hq; have HB2 := Lib.hid hb; clear hi hq hb)
      | (go_at_call 60; refine (Wr.inNum_any q 1 9223372036854775807 (l.drop 2) 0 _ HI2.out).mono ?_; rintro e w3 ⟨rfl, _, hb⟩; rw [← HN.out]; have HB3 := Lib.hid (Below.trans HB2.out (hb _ HP2.out)); clear hb)
      | (go_at_call 29; refine (headSector_any n hn1.1 hn1.2 _ (HT.out _ (Below.step HB3.out HB.out HB.out.size))).mono ?_; rintro e w4 ⟨gn, rfl, hR, _, hb⟩; have HB4 := Lib.hid (Below.step hb HB3.out HB3.out.size); have HE := Lib.hid (equal_any (some ⟨gh, 0, none⟩) (some ⟨gn, 0, none⟩) 512 512 c 512 l (headL n) w4 (HRow.out.below HB4.out) hR); rw [HDec.out] at HE; clear hR hb)
      | (go_at_call 63; refine HE.out.mono ?_; rintro e w5 ⟨rfl, rfl⟩))
    go_ret
    exact ⟨rfl, Below.step HB4.out HB.out HB.out.size⟩
end Go.Proofs.YtcmnfbpmkndfkaaDoor
namespace Go.Proofs.YtcmnfbpmkndfkaaDoor
open Go.ChangeShapes Go.WideShapes Go.ChangeAt Go.RowKit
set_option linter.unusedVariables false
set_option maxRecDepth 100000

theorem hage_nn (l : List Nat) : 0 ≤ hageL l ∧ hageL l ≤ 9223372036854775807 := by
  have h : 0 ≤ (Wr.readNum 1 9223372036854775807 (l.drop 2) 0).1 := by
    unfold Wr.readNum
    repeat' split
    all_goals first | omega | (dsimp only; omega)
  have h2 := (readNum_in (l.drop 2)).2
  unfold hageL
  split <;> omega
def LSt.try_ (s : LSt) (k : Nat) (a : Int) : LSt := if (s.age : Int) < a then { s with head := k, age := a.toNat } else s
def foundL (N : List ByteArray) (s : LSt) : Nat → LSt
  | 0 => s
  | k + 1 => (foundL N s k).try_ k (hageL (bytesOf (N.getD (s.f + k) ⟨#[]⟩)))
theorem try_f (s : LSt) (k : Nat) (a : Int) : (s.try_ k a).f = s.f := by unfold LSt.try_; split <;> rfl
theorem found_f (N : List ByteArray) (s : LSt) (k : Nat) : (foundL N s k).f = s.f := by
  induction k with
  | zero => rfl
  | succ k ih => show (LSt.try_ _ _ _).f = _; rw [try_f, ih]
theorem put_head {w : World} {g p k : Nat} {s : LSt} {a : Int} (h : LogAt w g p s) (ha : 0 ≤ a) (hg : (s.age : Int) < a) : LogAt ((w.setCell ⟨g, 4, none⟩ (.int .i64 (k : Int))).setCell ⟨g, 5, none⟩ (.int .i64 a)) g p (s.try_ k a) := by
  obtain ⟨n, rfl⟩ : ∃ n : Nat, a = n := ⟨a.toNat, by omega⟩
  unfold LSt.try_
  rw [if_pos hg]
  have h1 := set_put w g 4 (.int .i64 (k : Int)) h
  have h2 := set_put _ g 5 (.int .i64 (n : Int)) h1
  exact h2
theorem findHead_any (w : World) (F : Nat → Prop) (g p m : Nat) (s : LSt) (N : List ByteArray) (h : Qd w F p N m) (hl : LogAt w g p s) (hg : ¬ F g) (hf : s.f + 2 ≤ N.length) (hN : N.length ≤ 65536) (ht : Cr.Tab w) (hq : g ≠ 0) :
    Calls Tryd.prog 34 #[.pointer (some ⟨g, 0, none⟩)] w fun e w' => e = .returned (.tuple #[]) ∧ LogAt w' g p (foundL N s 2) ∧ Only (fun k => k = g) w w' := by
  have HQ := Lib.hid h
  have HL := Lib.hid hl
  have HT := Lib.hid ht
  clear h hl ht
  go_enter Tryd.func34, Tryd.ntmps34
  go_wp2_with fail
  go_loopw [4] (fun i wr => ∃ k : Nat, i = .int .i64 (k : Int) ∧ k ≤ 2 ∧ LogAt wr g p (foundL N s k) ∧ Only (fun j => j = g) w wr) (fun i _ => 2 - (intOf i).toNat)
  case atStart => exact ⟨0, rfl, by omega, HL.out, Only.refl _ _⟩
  case round =>
    obtain ⟨k, rfl, hk, hlog, ho⟩ := hrel
    have HLr := Lib.hid hlog
    have HOr := Lib.hid ho
    clear hlog ho
    by_cases hlt : k < 2
    · have HA := Lib.hid (headAge_any wr F g p m k (foundL N s k) N (HQ.out.keep HOr.out (fun j hj e => hg (e ▸ hj))) HLr.out (by omega) (by rw [found_f]; exact hf) hN (tab_only HT.out HOr.out (fun e => hq e.symm)))
      rw [found_f] at HA
      have HE : Hid (foundL N s (k + 1) = (foundL N s k).try_ k (hageL (bytesOf (N.getD (s.f + k) ⟨#[]⟩)))) := Lib.hid rfl
      obtain ⟨n1, n2⟩ := hage_nn (bytesOf (N.getD (s.f + k) ⟨#[]⟩))
      generalize hageL (bytesOf (N.getD (s.f + k) ⟨#[]⟩)) = a at *
      generalize foundL N s k = S at *
      by_cases hgt : (S.age : Int) < a
      · have hgt2 : a > (S.age : Int) := hgt
        go_wp2_with (go_at_call 57; refine HA.out.mono ?_; rintro e w2 ⟨rfl, hb⟩; have HB2 := Lib.hid hb; have HL2 := Lib.hid (HLr.out.below hb); obtain ⟨c2, c3, c4, c5, c6, c7, cf⟩ := HL2.out.at_; have hlt2 := HL2.out.lt; clear hb)
        go_roundw
        case rel => exact ⟨k + 1, by go_num, by omega, by rw [HE.out]; exact put_head HL2.out n1 hgt, ((HOr.out.trans (Only.of_below HB2.out)).setCell (p := ⟨g, 4, none⟩) rfl _).setCell (p := ⟨g, 5, none⟩) rfl _⟩
        case measure => simp [intOf]; omega
      · have hgt2 : ¬ a > (S.age : Int) := hgt
        go_wp2_with (go_at_call 57; refine HA.out.mono ?_; rintro e w2 ⟨rfl, hb⟩; have HB2 := Lib.hid hb; have HL2 := Lib.hid (HLr.out.below hb); obtain ⟨c2, c3, c4, c5, c6, c7, cf⟩ := HL2.out.at_; have hlt2 := HL2.out.lt; clear hb)
        go_roundw
        case rel => exact ⟨k + 1, by go_num, by omega, by rw [HE.out]; unfold LSt.try_; rw [if_neg (by omega)]; exact HL2.out, HOr.out.trans (Only.of_below HB2.out)⟩
        case measure => simp [intOf]; omega
    · obtain rfl : k = 2 := by omega
      go_wp2_with fail
      go_end0
      exact ⟨rfl, HLr.out, HOr.out⟩
end Go.Proofs.YtcmnfbpmkndfkaaDoor
namespace Go.Proofs.YtcmnfbpmkndfkaaDoor
open Go.ChangeShapes Go.WideShapes Go.ChangeAt Go.RowKit
set_option linter.unusedVariables false
set_option maxRecDepth 100000

/-- the sectors from at_ on hold these bytes, 511 in each -/
def Parts (N : List ByteArray) (at_ : Nat) (B : List Nat) : Prop := ∀ j, 511 * j < B.length → at_ + j < N.length ∧ bytesOf (N.getD (at_ + j) ⟨#[]⟩) = bytesL ((B.drop (511 * j)).take 511)
theorem make_cap (n : Nat) (hn : n ≤ 70368744177664) (u : World) : (Instr.makeSlice 34 (.int .i64 0) (.int .i64 (n : Int))).run Tryd.prog u = .ok (.slice (some ⟨u.heap.size, 0, none⟩) 0 n) (u.alloc (.cells (madeCells #[.int .u8 0] n) 5)) := by
  obtain ⟨i0, hi, hz0, hz1, hz2⟩ := info_parts Cr.info5
  have h := run_make (P := Tryd.prog) u 34 5 i0 (.int .u8 0) Tryd.underlying34 hi hz0 .i64 .i64 0 (n : Int) (by omega) (by omega) (by rw [hz2]; omega) (by omega)
  have e : ((n : Int)).toNat = n := by omega
  rw [e] at h
  simpa [hz1, Value.cells] using h
theorem bytesL_part (B : List Nat) (k : Nat) (hk : k ≤ 511) (h : B.length = k) : (bytesL B).drop 1 = B ++ List.replicate (511 - k) 0 := by
  unfold bytesL padL
  show ((68 :: B) ++ List.replicate (512 - (68 :: B).length) 0).drop 1 = _
  rw [List.cons_append, List.drop_succ_cons, List.drop_zero, List.length_cons, h]
  congr 2
  omega
/-- the part of a sector that was read -/
theorem row_part {W : World} {gh k : Nat} {B : List Nat} (h : ByteRow W (some ⟨gh, 0, none⟩) 512 (bytesL B)) (hB : B.length = k) (hk : k ≤ 511) (h0 : 0 < k) : ByteRow W (some ⟨gh, 1, none⟩) k B := by
  obtain ⟨h1, h2, h3, h4⟩ := h
  have hd := bytesL_part B k hk hB
  refine ⟨hB, by unfold maxLen; omega, fun c hc => h3 c (List.mem_of_mem_drop (i := 1) (by rw [hd]; exact List.mem_append_left _ hc)), fun _ => ⟨gh, 1, rfl, fun i hi => ?_⟩⟩
  obtain ⟨b, o, e, hc⟩ := h4 (by decide)
  injection e with e
  injection e with e1 e2
  subst e1 e2
  have := hc (1 + i) (by omega)
  rw [Nat.zero_add] at this
  rw [this]
  have e : (bytesL B).getD (1 + i) 0 = B.getD i 0 := by
    have h9 : (bytesL B).getD (1 + i) 0 = ((bytesL B).drop 1).getD i 0 := by rw [List.getD_eq_getElem?_getD, List.getD_eq_getElem?_getD, List.getElem?_drop]
    rw [h9, hd]
    simp [List.getD, List.getElem?_append_left, hB, hi]
  rw [e]
theorem drop_take (B : List Nat) (k : Nat) : B.take k ++ (B.drop k).take 511 = B.take (k + 511) := by
  rw [List.take_add]
theorem own_below {w w' : World} {base : Nat} {e : TypeId} {size : Nat} {v : Value} {n : Nat} {xs : List Value} (h : w.ownsRow base e size v n xs) (hb : Below w.heap.size w w') : w'.ownsRow base e size v n xs := by
  have hl := h.lt
  obtain ⟨h1, h2⟩ := h
  refine ⟨h1, ?_⟩
  rcases h2 with h2 | ⟨g, cap, cur, rfl, hbs, hh, r⟩
  · exact .inl h2
  · exact .inr ⟨g, cap, cur, rfl, hbs, by rw [hb.block g (hl g rfl).2]; exact hh, r⟩
set_option maxHeartbeats 1000000 in
theorem readBytes_ok (w : World) (F : Nat → Prop) (g p m at_ n : Nat) (N : List ByteArray) (B : List Nat) (hn : n = B.length) (h : Qd w F p N m) (hd : DevAt w g p) (hB : n ≤ 30000000) (h256 : ∀ c ∈ B, c < 256) (hP : Parts N at_ B) (hN : N.length ≤ 65536) (ha : at_ ≤ 65536) :
    Calls Tryd.prog 62 #[.pointer (some ⟨g, 0, none⟩), .int .i64 (at_ : Int), .int .i64 (n : Int)] w fun e w' => ∃ v, e = .returned (.tuple #[v, .bool true]) ∧ w'.ownsRow w.heap.size 5 1 v n (vals B) ∧ v ≠ .slice none 0 0 ∧ Below w.heap.size w w' := by
  obtain ⟨i0, hi, hz0, hz1, hz2⟩ := info_parts Cr.info5
  have hmk := fun u => make_cap n (by omega) u
  have HQ := Lib.hid h
  have HD := Lib.hid hd
  have HP := Lib.hid hP
  have H256 := Lib.hid h256
  have HM : Hid ((w.alloc (.cells (madeCells #[.int .u8 0] n) 5)).ownsRow w.heap.size 5 1 (.slice (some ⟨w.heap.size, 0, none⟩) 0 n) 0 (vals [])) := Lib.hid (Cr.owns_made w w.heap.size w.heap.size n (by unfold maxLen; omega) (Nat.le_refl _) rfl)
  have HB0 : Hid (Below w.heap.size w (w.alloc (.cells (madeCells #[.int .u8 0] n) 5))) := Lib.hid ((Below.refl _ _).alloc (Nat.le_refl _) _)
  have HL := Lib.hid hn
  have hlt := hd.lt
  clear h hd hP h256 hn
  go_enter Tryd.func62, Tryd.ntmps62
  go_wp2_with fail
  go_loopw [1, 8] (fun i b wr => ∃ j k : Nat, i = .int .i64 ((at_ + j : Nat) : Int) ∧ k = min (511 * j) n ∧ 511 * j ≤ n + 510 ∧ (∃ gb cb, b = .slice (some ⟨gb, 0, none⟩) k cb) ∧ wr.ownsRow w.heap.size 5 1 b k (vals (B.take k)) ∧ Below w.heap.size w wr) (fun i _ _ => at_ + n + 1 - (intOf i).toNat)
  case atStart => exact ⟨0, 0, rfl, by omega, by omega, ⟨_, _, rfl⟩, HM.out, HB0.out⟩
  case round =>
    obtain ⟨j, k, rfl, hk, hj, ⟨gb, cb, rfl⟩, hown, hbel⟩ := hrel
    have HO := Lib.hid hown
    have HB := Lib.hid hbel
    clear hown hbel HM HB0
    by_cases hlt2 : k < n
    · obtain ⟨hp1, hp2⟩ := HP.out j (by rw [← HL.out]; omega)
      have hk2 : k = 511 * j := by omega
      obtain ⟨C, hC⟩ : ∃ C, C = (B.drop (511 * j)).take 511 := ⟨_, rfl⟩
      obtain ⟨q, hq⟩ : ∃ q, q = min (n - k) 511 := ⟨_, rfl⟩
      have hCl : C.length = q := by rw [hC, List.length_take, List.length_drop, ← HL.out]; omega
      rw [← hC] at hp2
      have HR : Hid (Calls Tryd.prog 58 #[.pointer (some ⟨g, 0, none⟩), .int .i64 ((at_ + j : Nat) : Int)] wr fun e w' => ∃ gh c, e = .returned (.slice (some ⟨gh, 0, none⟩) 512 c) ∧ ByteRow w' (some ⟨gh, 0, none⟩) 512 (bytesL C) ∧ wr.heap.size ≤ gh ∧ Below wr.heap.size wr w' ∧ (512 ≤ c ∧ c ≤ maxLen)) := Lib.hid (by
        have h := dread wr F p m (at_ + j) g N (HQ.out.below HB.out) (HD.out.below HB.out) hp1
        rw [hp2] at h
        exact h)
      have HT : Hid (B.take (k + q) = B.take k ++ C) := Lib.hid (by
        rw [hC, ← hk2, drop_take]
        by_cases g5 : k + 511 ≤ n
        · rw [show k + q = k + 511 by omega]
        · rw [List.take_of_length_le (by rw [← HL.out]; omega), List.take_of_length_le (by rw [← HL.out]; omega)])
      have HK := Lib.hid hk2
      have HQ5 := Lib.hid hq
      have htn : (1 + (q : Int)).toNat - 1 = q := by omega
      have hmin : min ((n : Int) - (k : Int)) 511 = (q : Int) := by omega
      have hq0 : 0 < q := by omega
      have hq511 : q ≤ 511 := by omega
      have hlti : (k : Int) < (n : Int) := by omega
      clear hC hp2 hp1 hk hk2 hq
      go_wp2_with (first
        | (go_at_call 58; refine HR.out.mono ?_; rintro e w2 ⟨gh, c, rfl, hR, hgh, hb, hc1, hc2⟩; have HR2 := Lib.hid hR; have HB2 := Lib.hid hb; have HS := Lib.hid (row_part hR hCl hq511 hq0); clear hR hb)
        | (go_at_call 25; refine (bytesSector_any ⟨gh, 1, none⟩ q (c - 1) C _ HS.out hq0 hq511).mono ?_; rintro e w3 ⟨gs, rfl, hR, _, hb⟩; have HB3 := Lib.hid (Below.step hb HB2.out HB2.out.size); have HS3 := Lib.hid (HS.out.below hb); have HE := Lib.hid (equal_any (some ⟨gh, 0, none⟩) (some ⟨gs, 0, none⟩) 512 512 c 512 (bytesL C) (bytesL C) w3 (HR2.out.below hb) hR); rw [decide_eq_true rfl] at HE; clear hR hb)
        | (go_at_call 63; refine HE.out.mono ?_; rintro e w4 ⟨rfl, rfl⟩)
        | (at_builtin; refine wpList_append_own _ rfl (.tmp 35) (.tmp 36) 34 rfl w.heap.size 5 i0 (.int .u8 0) 1 1 Tryd.underlying34 hi hz0 hz1 hz2 rfl (by decide) _ k (vals (B.take k)) rfl (own_below HO.out HB3.out) ⟨gh, 1, none⟩ q (c - 1) (vals C) rfl ?c1 ?c2 ?c3 ?c4 ?c5 ?c6 ?_))
      case c1 => rw [Cr.vals_length, HS3.out.1, Nat.mul_one]
      case c2 => exact src_cells HS3.out hq0
      case c3 => exact Cr.vals_one _
      case c4 => unfold maxLen; have := HQ5.out; omega
      case c5 => have := HQ5.out; omega
      case c6 => exact Nat.le_trans HB.out.size HB3.out.size
      intro v' w5 hown hgrow hnil
      have bel : Below w.heap.size w w5 := (Below.step HB3.out HB.out HB.out.size).grown hgrow (Nat.le_trans HB.out.size HB3.out.size) (fun k hk => own_base HO.out hk)
      have hown2 : w5.ownsRow w.heap.size 5 1 v' (k + q) (vals (B.take (k + q))) := by
        rw [HT.out]
        show World.ownsRow _ _ _ _ _ _ (Cr.vals _)
        rw [Cr.vals_append]
        exact hown
      have hne : v' ≠ .slice none 0 0 := by first | exact hnil | exact fun h => absurd (hnil.1 h).1 (by simp)
      obtain ⟨gv, cv, hv, _⟩ := Cr.Mine.of hown2 hne (fun c hc => H256.out c (List.mem_of_mem_take hc))
      subst hv
      have HO5 := Lib.hid hown2
      have HB5 := Lib.hid bel
      clear hown hown2 hgrow hnil bel hne
      go_wp2_with fail
      go_roundw
      case rel => exact ⟨j + 1, k + q, by go_num, by have := HK.out; have := HQ5.out; omega, by have := HK.out; have := HQ5.out; omega, ⟨_, _, rfl⟩, HO5.out, HB5.out⟩
      case measure => simp [intOf]; have := HK.out; omega
    · have hkn : k = n := by omega
      subst hkn
      clear hk
      go_wp2_with fail
      go_ret2
      refine ⟨_, rfl, ?_, by simp, HB.out⟩
      have h := HO.out
      rw [List.take_of_length_le (by rw [← HL.out]; exact Nat.le_refl _)] at h
      exact h
end Go.Proofs.YtcmnfbpmkndfkaaDoor
namespace Go.Proofs.YtcmnfbpmkndfkaaDoor
open Go.ChangeShapes Go.WideShapes Go.ChangeAt Go.RowKit
set_option linter.unusedVariables false
set_option maxRecDepth 100000

theorem slice1 (gh cp : Nat) (hc : 512 ≤ cp) (W : World) : (Instr.slice 34 (.slice (some ⟨gh, 0, none⟩) 512 cp) (some (.int .i64 1)) none none).run Tryd.prog W = .ok (.slice (some ⟨gh, 1, none⟩) 511 (cp - 1)) W := by
  have h := Wr.slice_from (some ⟨gh, 0, none⟩) 512 cp 1 (by decide) W
  have e : Wr.fromA (some ⟨gh, 0, none⟩) cp 1 = some ⟨gh, 1, none⟩ := by
    unfold Wr.fromA
    rw [if_neg (by omega)]
    show some ((⟨gh, 0, none⟩ : Addr).add 1) = _
    rw [Cr.addr_add]
  rw [e] at h
  exact h
theorem row_drop1 {W : World} {gh : Nat} {l : List Nat} (h : ByteRow W (some ⟨gh, 0, none⟩) 512 l) : ByteRow W (some ⟨gh, 1, none⟩) 511 (l.drop 1) := by
  obtain ⟨h1, h2, h3, h4⟩ := h
  refine ⟨by rw [List.length_drop, h1], by omega, fun c hc => h3 c (List.mem_of_mem_drop hc), fun _ => ⟨gh, 1, rfl, fun i hi => ?_⟩⟩
  obtain ⟨b, o, e, hc⟩ := h4 (by decide)
  injection e with e
  injection e with e1 e2
  subst e1 e2
  have := hc (1 + i) (by omega)
  rw [Nat.zero_add] at this
  rw [this, List.getD_eq_getElem?_getD, List.getD_eq_getElem?_getD, List.getElem?_drop]
set_option maxHeartbeats 2000000 in
theorem next_none (w : World) (F : Nat → Prop) (g p m : Nat) (s : LSt) (N : List ByteArray) (L0 : List Nat) (h : Qd w F p N m) (hl : LogAt w g p s) (hu : s.used < s.c) (hc : s.c ≤ 30000) (hf : s.f + s.c ≤ N.length) (hN : N.length ≤ 65536) (ht : Cr.Tab w) (hL0 : L0 = bytesOf (N.getD (s.f + s.used) ⟨#[]⟩))
    (l1 l2 l3 : List Nat) (e1 e2 e3 n1 n2 n3 : Int) (hr1 : Wr.readNum (s.age : Int) (s.age : Int) (L0.drop 1) 0 = (n1, l1, e1)) (hr2 : Wr.readNum (s.number : Int) (s.number : Int) l1 e1 = (n2, l2, e2)) (hr3 : Wr.readNum 0 (((s.c - s.used - 1) * 511 : Nat) : Int) l2 e2 = (n3, l3, e3)) (he : (e3 != 0) = true) :
    Calls Tryd.prog 35 #[.pointer (some ⟨g, 0, none⟩)] w fun e w' => e = .returned (.tuple #[.slice none 0 0, .bool false]) ∧ Below w.heap.size w w' := by
  have HLW : Hid (∀ W, Below w.heap.size w W → LogAt W g p s) := Lib.hid (fun W hb => hl.below hb)
  have HQW : Hid (∀ W, Below w.heap.size w W → Qd W F p N m) := Lib.hid (fun W hb => h.below hb)
  have HTW : Hid (∀ W, Below w.heap.size w W → Cr.Tab W) := Lib.hid (fun W hb => Cr.Tab.below ht hb)
  have hlt := hl.lt
  have hleft : ((s.c - s.used : Nat) : Int) = (s.c : Int) - (s.used : Int) := by omega
  have h0i : (((s.c - s.used : Nat) : Int) == 0) = false := by simp; omega
  have hw1 : IntKind.i64.wrap ((s.f : Int) + (s.used : Int)) = (s.f : Int) + (s.used : Int) := by rw [IntKind.wrap_i64]; omega
  have hw2 : wrap64 ((s.f : Int) + (s.used : Int)) = (s.f : Int) + (s.used : Int) := by unfold wrap64; omega
  have HLeft : Hid (∀ W, Below w.heap.size w W → Calls Tryd.prog 30 #[.pointer (some ⟨g, 0, none⟩)] W fun e w' => e = .returned (.int .i64 ((s.c - s.used : Nat) : Int)) ∧ Below W.heap.size W w') := Lib.hid (fun W hb => by
    refine (left_any W g p s (hl.below hb) (Nat.le_of_lt hu) (by omega)).mono ?_
    rintro e w' ⟨rfl, n, rfl⟩
    exact ⟨rfl, below_dN W n⟩)
  have HRead : Hid (∀ W, Below w.heap.size w W → Calls Tryd.prog 58 #[.pointer (some ⟨g, 0, none⟩), .int .i64 ((s.f : Int) + (s.used : Int))] W fun e w' => ∃ gh c, e = .returned (.slice (some ⟨gh, 0, none⟩) 512 c) ∧ ByteRow w' (some ⟨gh, 0, none⟩) 512 L0 ∧ W.heap.size ≤ gh ∧ Below W.heap.size W w' ∧ (512 ≤ c ∧ c ≤ maxLen)) := Lib.hid (fun W hb => by
    have hr := dread W F p m (s.f + s.used) g N (h.below hb) (hl.below hb).dev (by omega)
    rw [show ((s.f + s.used : Nat) : Int) = (s.f : Int) + (s.used : Int) by omega, ← hL0] at hr
    exact hr)
  have hmul : (((s.c - s.used - 1) * 511 : Nat) : Int) = (((s.c - s.used : Nat) : Int) - 1) * 511 := by omega
  have hkb : s.c - s.used ≤ 30000 := by omega
  have hk1 : 0 < s.c - s.used := by omega
  rw [hmul] at hr3
  clear h hl ht hL0 hleft hmul
  generalize hK : s.c - s.used = K at *
  have HKK := Lib.hid hK
  clear hK
  have hw3 : wrap64 (((K : Int) - 1) * 511) = ((K : Int) - 1) * 511 := by unfold wrap64; omega
  have HR1 := Lib.hid hr1
  have HR2 := Lib.hid hr2
  have HR3 := Lib.hid hr3
  clear hr1 hr2 hr3
  go_enter Tryd.func35, Tryd.ntmps35
  go_wp2_with (go_at_call 30; refine (HLeft.out _ (Below.refl _ _)).mono ?_; rintro e w1 ⟨rfl, hb⟩; have HB1 := Lib.hid hb; clear hb)
  have HC1 : Hid (∀ W, Gl w1.drew W → W.cell? ⟨g, 2, none⟩ = some (.int .i64 (s.f : Int)) ∧ W.cell? ⟨g, 7, none⟩ = some (.int .i64 (s.used : Int))) := Lib.hid (fun W hW => by
    have h := (HLW.out W (Below.step hW.undrew HB1.out HB1.out.size)).at_
    exact ⟨h.1, h.2.2.2.2.2.1⟩)
  refine wp_region_inv_lit [.is (.pointer (some ⟨g, 0, none⟩)), .is (.pointer (some ⟨g, 0, none⟩)), .is (.pointer (some ⟨g, 2, none⟩)), .is (.int .i64 (s.f : Int)),
    .is (.pointer (some ⟨g, 0, none⟩)), .is (.pointer (some ⟨g, 0, none⟩)), .is (.pointer (some ⟨g, 7, none⟩)), .is (.int .i64 (s.used : Int)), .is (.int .i64 ((s.f : Int) + (s.used : Int))), .is (.int .i64 ((s.f : Int) + (s.used : Int)))] (by kernel_rfl) (by kernel_rfl) ?_
  repeat1' (refine wpInv_is ?_ ?_; (focus (intro W hW hF K hK; clear hF; obtain ⟨d2, d7⟩ := HC1.out W hW; go_simp; exact hK _ _ (Gl.refl _) rfl)); simp only [Act.put, List.setIfInBounds_toArray, List.set_cons_zero, List.set_cons_succ])
  refine wpInv_end ?_
  intro w2 hW hF
  have HB2 := Lib.hid (Below.step hW.undrew HB1.out HB1.out.size)
  clear hW hF HC1
  go_wp2_with (first
    | (go_at_call 58; refine (HRead.out _ HB2.out).mono ?_; rintro e w3 ⟨gh, cp, rfl, hR, _, hb, hc1, hc2⟩; have HRow := Lib.hid hR; have HB3 := Lib.hid (Below.step hb HB2.out HB2.out.size); have hsl := fun W => slice1 gh cp hc1 W; have HO := Lib.hid (Wr.open_any (some ⟨gh, 1, none⟩) 511 (cp - 1) (L0.drop 1) w3 ⟨row_drop1 hR, by omega, by omega, fun e => by cases e⟩ (by omega)); clear hR hb)
    | (go_at_call 59; refine HO.out.mono ?_; rintro e w4 ⟨q, rfl, hi, hq, hb⟩; have HI4 := Lib.hid hi; have HP := Lib.hid hq; have HV4 := Lib.hid hb; clear hi hq hb))
  have HC4 : Hid (∀ W, Gl w4.drew W → W.cell? ⟨g, 5, none⟩ = some (.int .i64 (s.age : Int))) := Lib.hid (fun W hW => by
    have h := (HLW.out W (Below.step (Below.step hW.undrew HV4.out HV4.out.size) HB3.out HB3.out.size)).at_
    exact h.2.2.2.1)
  refine wp_region_last_lit [.is (.pointer (some ⟨q, 0, none⟩)), .is (.pointer (some ⟨g, 0, none⟩)), .is (.pointer (some ⟨g, 0, none⟩)), .is (.pointer (some ⟨g, 5, none⟩)), .is (.int .i64 (s.age : Int)),
    .is (.pointer (some ⟨g, 0, none⟩)), .is (.pointer (some ⟨g, 0, none⟩)), .is (.pointer (some ⟨g, 5, none⟩)), .is (.int .i64 (s.age : Int))] (by kernel_rfl) (by kernel_rfl) (by kernel_rfl) (by kernel_rfl) ?_
  repeat1' (refine wpInvL_is ?_ ?_; (focus (intro W hW hF K hK; clear hF; have d := HC4.out W hW; go_simp; exact hK _ _ (Gl.refl _) rfl)); simp only [Act.put, List.setIfInBounds_toArray, List.set_cons_zero, List.set_cons_succ])
  refine wpInvL_last ?_
  intro W hW hF
  have HVW := Lib.hid (Below.step hW.undrew HV4.out HV4.out.size)
  have HIW := Lib.hid (Wr.InAt.below HI4.out hW.undrew)
  clear hW hF HC4
  go_simp
  refine (Wr.inNum_any q (s.age : Int) (s.age : Int) (L0.drop 1) 0 W HIW.out).mono ?_
  rintro e w5 ⟨rfl, hi, hb⟩
  refine ⟨_, rfl, ?_⟩
  rw [HR1.out] at hi ⊢
  have HI5 := Lib.hid hi
  have HV5 := Lib.hid (Below.trans HVW.out (hb _ HP.out))
  clear hi hb HVW HIW
  go_wp2_with fail
  have HC5 : Hid (∀ W, Gl w5.drew W → W.cell? ⟨g, 6, none⟩ = some (.int .i64 (s.number : Int))) := Lib.hid (fun W hW => by
    have h := (HLW.out W (Below.step (Below.step hW.undrew HV5.out HV5.out.size) HB3.out HB3.out.size)).at_
    exact h.2.2.2.2.1)
  refine wp_region_last_lit [.is (.pointer (some ⟨q, 0, none⟩)), .is (.pointer (some ⟨g, 0, none⟩)), .is (.pointer (some ⟨g, 0, none⟩)), .is (.pointer (some ⟨g, 6, none⟩)), .is (.int .i64 (s.number : Int)),
    .is (.pointer (some ⟨g, 0, none⟩)), .is (.pointer (some ⟨g, 0, none⟩)), .is (.pointer (some ⟨g, 6, none⟩)), .is (.int .i64 (s.number : Int))] (by kernel_rfl) (by kernel_rfl) (by kernel_rfl) (by kernel_rfl) ?_
  repeat1' (refine wpInvL_is ?_ ?_; (focus (intro W hW hF K hK; clear hF; have d := HC5.out W hW; go_simp; exact hK _ _ (Gl.refl _) rfl)); simp only [Act.put, List.setIfInBounds_toArray, List.set_cons_zero, List.set_cons_succ])
  refine wpInvL_last ?_
  intro W hW hF
  have HVW := Lib.hid (Below.step hW.undrew HV5.out HV5.out.size)
  have HIW := Lib.hid (Wr.InAt.below HI5.out hW.undrew)
  clear hW hF HC5
  go_simp
  refine (Wr.inNum_any q (s.number : Int) (s.number : Int) l1 e1 W HIW.out).mono ?_
  rintro e w6 ⟨rfl, hi, hb⟩
  refine ⟨_, rfl, ?_⟩
  rw [HR2.out] at hi ⊢
  have HI6 := Lib.hid hi
  have HV6 := Lib.hid (Below.trans HVW.out (hb _ HP.out))
  clear hi hb HVW HIW
  go_wp2_with (first
    | (go_at_call 30; refine (HLeft.out _ (Below.step HV6.out HB3.out HB3.out.size)).mono ?_; rintro e w7 ⟨rfl, hb⟩; have HV7 := Lib.hid (Below.step hb HV6.out HV6.out.size); have HI7 := Lib.hid (Wr.InAt.below HI6.out hb); clear hb)
    | (go_at_call 60; refine (Wr.inNum_any q 0 (((K : Int) - 1) * 511) l2 e2 _ HI7.out).mono ?_; rintro e w8 ⟨rfl, hi, hb⟩; rw [HR3.out] at hi ⊢; have HI8 := Lib.hid hi; have HV8 := Lib.hid (Below.trans HV7.out (hb _ HP.out)); clear hi hb)
    | (go_at_call 61; refine (Wr.err_any q l3 e3 _ HI8.out).mono ?_; rintro e w9 ⟨rfl, rfl⟩))
  go_ret2
  exact ⟨rfl, Below.step HV8.out HB3.out HB3.out.size⟩
end Go.Proofs.YtcmnfbpmkndfkaaDoor
