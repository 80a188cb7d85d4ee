/-
  The disk's settle, Barrier, Crash.
-/
import Derived.Test.YtnbmmlepbifciaaDiskE
import Derived.Deep.LoopGhost
import Derived.Outline
namespace Go.Proofs.Ytnbmmlepbifciaa
open Go.ChangeShapes Go.WideShapes Go.ChangeAt Go.RowKit
set_option linter.unusedVariables false

/-- what lasts behind the first k of the writes that wait, of those that are picked -/
def lastsK (pk : Nat → Bool) (L : List ByteArray) (W : List (Nat × ByteArray)) : Nat → List ByteArray
  | 0 => L
  | k + 1 => match W[k]? with
    | some x => if pk k = true then (lastsK pk L W k).set x.1 x.2 else lastsK pk L W k
    | none => lastsK pk L W k
/-- what is read then -/
def nowK (L : List ByteArray) (N : List ByteArray) (W : List (Nat × ByteArray)) : Nat → List ByteArray
  | 0 => N
  | k + 1 => match W[k]? with
    | some x => (nowK L N W k).set x.1 (L.getD x.1 ⟨#[]⟩)
    | none => nowK L N W k
def settleS (pk : Nat → Bool) (s : DSt) : DSt := { s with L := lastsK pk s.L s.W s.W.length, N := nowK (lastsK pk s.L s.W s.W.length) s.N s.W s.W.length, W := [] }
theorem lastsK_len (pk : Nat → Bool) (L : List ByteArray) (W : List (Nat × ByteArray)) (k : Nat) : (lastsK pk L W k).length = L.length := by
  induction k with
  | zero => rfl
  | succ k ih =>
    unfold lastsK
    split
    · split
      · rw [List.length_set, ih]
      · exact ih
    · exact ih
theorem nowK_len (L N : List ByteArray) (W : List (Nat × ByteArray)) (k : Nat) : (nowK L N W k).length = N.length := by
  induction k with
  | zero => rfl
  | succ k ih =>
    unfold nowK
    split
    · rw [List.length_set, ih]
    · exact ih
theorem wcells_two (W : List (Nat × ByteArray)) (k : Nat) (h : k < W.length) : (wcells W)[k * 2]? = some (.int .i64 ((W[k]).1 : Int)) ∧ (wcells W)[k * 2 + 1]? = some (.string (W[k]).2) := by
  induction W generalizing k with
  | nil => simp at h
  | cons x W ih =>
    have e : wcells (x :: W) = .int .i64 (x.1 : Int) :: .string x.2 :: wcells W := by unfold wcells; simp
    rw [e]
    cases k with
    | zero => exact ⟨rfl, rfl⟩
    | succ k =>
      have h' := ih k (by simpa using h)
      rw [show (k + 1) * 2 = k * 2 + 1 + 1 by omega]
      simpa using h'
/-- the writes that wait, as a slice -/
theorem waits_shape {w : World} {F : Nat → Prop} {p : Nat} {s : DSt} {lb nb lc nc : Nat} {wv : Value} (h : DiskR w F p s lb nb lc nc wv) : ∃ A c, wv = .slice A s.W.length c ∧ s.W.length ≤ maxLen ∧ (0 < s.W.length → ∃ g, A = some ⟨g, 0, none⟩ ∧ g ≠ lb ∧ g ≠ nb ∧ g ≠ p ∧ F g) := by
  obtain ⟨_, _, _, _, _, _, _, _, _, _, g1, g2, g3, g4⟩ := h.facts
  have ho := h.2.2.2.2.2.2.2.2.1
  rcases h.2.2.2.1.2 with ⟨e, e2⟩ | ⟨g, cap, cur, rfl, _, hh, a1, a2, _⟩
  · rw [e2]
    exact ⟨none, 0, e, Nat.zero_le _, fun h => by omega⟩
  · exact ⟨_, _, rfl, by omega, fun _ => ⟨g, rfl, (g3 g rfl).2.1, (g3 g rfl).2.2, (g3 g rfl).1, ho g rfl⟩⟩
theorem waits_cells {w : World} {F : Nat → Prop} {p : Nat} {s : DSt} {lb nb lc nc : Nat} {g c : Nat} (h : DiskR w F p s lb nb lc nc (.slice (some ⟨g, 0, none⟩) s.W.length c)) (k : Nat) (hk : k < s.W.length) :
    w.cell? ⟨g, k * 2, none⟩ = some (.int .i64 ((s.W[k]).1 : Int)) ∧ w.cell? ⟨g, k * 2 + 1, none⟩ = some (.string (s.W[k]).2) := by
  obtain ⟨e1, e2⟩ := wcells_two s.W k hk
  have h4 := h.2.2.2.1
  exact ⟨by rw [World.ownsRow.cellAt h4 (k * 2) (by omega), e1], by rw [World.ownsRow.cellAt h4 (k * 2 + 1) (by omega), e2]⟩
theorem idx_waits (g n c k : Nat) (hk : k < n) (W : World) : (Instr.indexAt 55 (.slice (some ⟨g, 0, none⟩) n c) (.int .i64 (k : Int))).run Try.prog W = .ok (.pointer (some ⟨g, k * 2, none⟩)) W := by
  have h1 : (0 : Int) ≤ (k : Int) := by omega
  have h2 : (k : Int) < (n : Int) := by omega
  go_simp
theorem lastsK_at (pk : Nat → Bool) (L : List ByteArray) (W : List (Nat × ByteArray)) (k : Nat) (h : k < W.length) : lastsK pk L W (k + 1) = if pk k = true then (lastsK pk L W k).set (W[k]).1 (W[k]).2 else lastsK pk L W k := by
  conv => lhs; unfold lastsK
  rw [List.getElem?_eq_getElem h]
theorem nowK_at (L N : List ByteArray) (W : List (Nat × ByteArray)) (k : Nat) (h : k < W.length) : nowK L N W (k + 1) = (nowK L N W k).set (W[k]).1 (L.getD (W[k]).1 ⟨#[]⟩) := by
  conv => lhs; unfold nowK
  rw [List.getElem?_eq_getElem h]
theorem DiskR.wait_lt {w : World} {F : Nat → Prop} {p : Nat} {s : DSt} {lb nb lc nc : Nat} {wv : Value} (h : DiskR w F p s lb nb lc nc wv) (k : Nat) (hk : k < s.W.length) : (s.W[k]).1 < s.L.length := h.2.2.2.2.2.2.2.2.2.1 _ (List.getElem_mem hk)
theorem DiskR.own {w : World} {F : Nat → Prop} {p : Nat} {s : DSt} {lb nb lc nc : Nat} {wv : Value} (h : DiskR w F p s lb nb lc nc wv) : F p ∧ F lb ∧ F nb ∧ ∀ k, F k → k < w.heap.size := ⟨h.2.2.2.2.2.1, h.2.2.2.2.2.2.1, h.2.2.2.2.2.2.2.1, h.2.2.2.2.2.2.2.2.2.2⟩
theorem DiskR.drew {w : World} {F : Nat → Prop} {p : Nat} {s : DSt} {lb nb lc nc : Nat} {wv : Value} (h : DiskR w F p s lb nb lc nc wv) : DiskR w.drew F p s lb nb lc nc wv := h
theorem DiskR.alloc {w : World} {F : Nat → Prop} {p : Nat} {s : DSt} {lb nb lc nc : Nat} {wv : Value} (h : DiskR w F p s lb nb lc nc wv) (o : Obj) : DiskR (w.alloc o) F p s lb nb lc nc wv := h.keep (Only.alloc (Only.refl (fun _ => False) w) o) (fun _ _ h => h)
/-- nothing waits -/
theorem DiskR.none_ {w : World} {F : Nat → Prop} {p : Nat} {s : DSt} {lb nb lc nc : Nat} {wv : Value} (h : DiskR w F p s lb nb lc nc wv) : DiskAt (w.setCell ⟨p, 2, none⟩ (.slice none 0 0)) F p { s with W := [] } := by
  obtain ⟨_, _, _, _, _, _, _, _, _, _, g1, g2, g3, g4⟩ := h.facts
  obtain ⟨h1, h2, h3, h4, h5, h6, h7, h8, h9, h10, h11⟩ := h
  refine ⟨lb, nb, lc, nc, .slice none 0 0, ?_, h2.keep (fun g hg => by cases hg; exact Below.heap_setCell w _ _ _ g1), h3.keep (fun g hg => by cases hg; exact Below.heap_setCell w _ _ _ g2), World.ownsRow_nil _ _ _ _, h5, h6, h7, h8, (fun g hg => by cases hg), (fun x hx => by cases hx), fun k hk => by simp only [World.setCell, Array.size_modify]; exact h11 k hk⟩
  rw [set_put w p 2 _ h1]
  rfl

/-- the barrier's own pick: all -/
theorem all_any (k : Int) (w : World) : Calls Try.prog 25 #[.int .i64 k] w fun e w' => e = .returned (.bool true) ∧ w = w' := by
  go_enter Try.func25, Try.ntmps25
  go_wp2
  go_ret
  exact ⟨rfl, rfl⟩
/-- a slice of integers that came in -/
def IntRow (w : World) (a : Option Addr) (n : Nat) (zs : List Int) : Prop :=
  zs.length = n ∧ n ≤ maxLen ∧ (∀ z ∈ zs, -9223372036854775808 ≤ z ∧ z ≤ 9223372036854775807) ∧ (0 < n → ∃ b o, a = some ⟨b, o, none⟩ ∧ ∀ i, i < n → w.cell? ⟨b, o + i, none⟩ = some (.int .i64 (zs.getD i 0)))
theorem IntRow.at_ {w : World} {a : Option Addr} {n : Nat} {zs : List Int} (h : IntRow w a n zs) {k : Nat} (hk : k < n) :
    ∃ p : Addr, p.block < w.heap.size ∧ w.cell? p = some (.int .i64 (zs.getD k 0)) ∧ ∀ (cap : Nat) (W : World), (Instr.indexAt 23 (.slice a n cap) (.int .i64 (k : Int))).run Try.prog W = .ok (.pointer (some p)) W := by
  obtain ⟨_, _, _, h4⟩ := h
  obtain ⟨b, o, rfl, hc⟩ := h4 (by omega)
  refine ⟨⟨b, o + k, none⟩, cell_lt (hc k hk), hc k hk, fun cap W => ?_⟩
  have h1 : (0 : Int) ≤ (k : Int) := by omega
  have h2 : (k : Int) < (n : Int) := by omega
  clear hc h4
  go_simp
theorem IntRow.only {w w' : World} {F : Nat → Prop} {a : Option Addr} {n : Nat} {l : List Int} (h : IntRow w a n l) (ho : Only F w w') (ha : ∀ x, a = some x → ¬ F x.block) : IntRow w' a n l := by
  refine ⟨h.1, h.2.1, h.2.2.1, fun h0 => ?_⟩
  obtain ⟨b, o, rfl, hc⟩ := h.2.2.2 h0
  exact ⟨b, o, rfl, fun i hi => (World.cell?_of_block (ho.block b (cell_lt (hc i hi)) (ha _ rfl))).trans (hc i hi)⟩
/-- a crash's pick -/
def pkOf (zs : List Int) (n : Nat) (k : Nat) : Bool := decide (k < n) && (bits .and .i64 (zs.getD k 0) 1 == 1)
theorem pick_any (cb : Nat) (a : Option Addr) (n cap : Nat) (zs : List Int) (k : Nat) (w : World) (hc : w.cell? ⟨cb, 0, none⟩ = some (.slice a n cap)) (hz : IntRow w a n zs) :
    Calls Try.prog 26 #[.int .i64 (k : Int), .pointer (some ⟨cb, 0, none⟩)] w fun e w' => e = .returned (.bool (pkOf zs n k)) ∧ w = w' := by
  by_cases g : k < n
  · obtain ⟨q, hq, hcell, hix⟩ := hz.at_ g
    have hix1 := hix cap
    have e : pkOf zs n k = (bits .and .i64 (zs.getD k 0) 1 == 1) := by unfold pkOf; rw [decide_eq_true g]; rfl
    rw [e]
    clear e hix hz
    generalize zs.getD k 0 = z at *
    go_enter Try.func26, Try.ntmps26
    go_wp2
    go_ret
    exact ⟨rfl, rfl⟩
  · have e : pkOf zs n k = false := by unfold pkOf; rw [decide_eq_false g]; rfl
    rw [e]
    clear e hz
    go_enter Try.func26, Try.ntmps26
    go_wp2
    go_ret
    exact ⟨rfl, rfl⟩


theorem picks_at (w : World) (F : Nat → Prop) (a : Option Addr) (n cap : Nat) (zs : List Int) (hz : IntRow w a n zs) (ha : ∀ x, a = some x → ¬ F x.block) (hF : ∀ k, F k → k < w.heap.size) : ∀ W, Only F (w.alloc (.cells #[.slice a n cap] 23)) W → W.cell? ⟨w.heap.size, 0, none⟩ = some (.slice a n cap) ∧ IntRow W a n zs := by
  intro W h
  refine ⟨?_, IntRow.only (IntRow.only hz (Only.alloc (Only.refl F w) _) ha) h ha⟩
  have e1 : (w.alloc (.cells #[.slice a n cap] 23)).heap[w.heap.size]? = some (.cells #[.slice a n cap] 23) := by
    show (w.heap.push _)[w.heap.size]? = _
    simp
  have e2 : (w.alloc (.cells #[.slice a n cap] 23)).heap.size = w.heap.size + 1 := by
    show (w.heap.push _).size = _
    simp
  have e3 := (h.block w.heap.size (by omega) (fun g => by have := hF _ g; omega)).trans e1
  simp [World.cell?, e3]

set_option maxRecDepth 100000 in
set_option maxHeartbeats 2000000 in
theorem settle_all (w : World) (F : Nat → Prop) (p : Nat) (s : DSt) (pk : Nat → Bool) (h : DiskAt w F p s)
    (hpk : ∀ (k : Nat) (W : World), k < s.W.length → Only F w W → Calls Try.prog 25 #[.int .i64 (k : Int)] W fun e w' => e = .returned (.bool (pk k)) ∧ W = w') :
    Calls Try.prog 24 #[.pointer (some ⟨p, 0, none⟩), .func (.func 25) #[] #[]] w fun e w' => e = .returned (.tuple #[]) ∧ DiskAt w' F p (settleS pk s) ∧ Only F w w' := by
  obtain ⟨lb, nb, lc, nc, wv, hR⟩ := h
  obtain ⟨A, c, rfl, hm, hA⟩ := waits_shape hR
  have HPK := Lib.hid hpk
  have HA := Lib.hid hA
  have HR := Lib.hid (show DiskR w F p s lb nb lc nc (.slice A s.W.length c) from hR)
  obtain ⟨c0, c1, c2, cl, cn, hln, hmm, fl, fn, fp, g1, g2, g3, g4⟩ := HR.out.facts
  clear hpk hA hR c0 c1 cl cn fl fn fp hln hmm
  unfold maxLen at hm
  have HS := Lib.hid (rfl : settleS pk s = settleS pk s)
  generalize hZ : s.W.length = Z at *
  have HZ := Lib.hid hZ
  clear hZ g1 g2 g3 g4
  go_enter Try.func24, Try.ntmps24
  go_wp2
  clear c2
  go_loopw [13] (fun i wr => ∃ k : Nat, i = .int .i64 k ∧ k ≤ Z ∧ DiskR wr F p { s with L := lastsK pk s.L s.W k } lb nb lc nc (.slice A Z c) ∧ Only F w wr) (fun i _ => Z - (intOf i).toNat)
  case atStart => exact ⟨0, rfl, Nat.zero_le _, by have h := HR.out; exact h, Only.refl F w⟩
  case round =>
    obtain ⟨k, rfl, hk, hr, ho⟩ := hrel
    have HR1 := Lib.hid hr
    have HO1 := Lib.hid ho
    clear hr ho
    by_cases g : k < Z
    · have hkW : k < s.W.length := by rw [HZ.out]; exact g
      obtain ⟨gb, hgA, gne1, gne2, gne3, gF⟩ := HA.out (by omega)
      have hcc := waits_cells (s := { s with L := lastsK pk s.L s.W k }) (g := gb) (c := c) (by rw [← hgA]; dsimp only; rw [HZ.out]; exact HR1.out) k hkW
      obtain ⟨hd0, hd1⟩ := hcc
      have hix : ∀ W, (Instr.indexAt 55 (.slice A Z c) (.int .i64 (k : Int))).run Try.prog W = .ok (.pointer (some ⟨gb, k * 2, none⟩)) W := fun W => by rw [hgA]; exact idx_waits gb Z c k g W
      have HAT := Lib.hid (lastsK_at pk s.L s.W k hkW)
      have HWL := Lib.hid (HR1.out.wait_lt k hkW)
      have HPK1 : Hid (∀ W, Only F w W → Calls Try.prog 25 #[.int .i64 (k : Int)] W fun e w' => e = .returned (.bool (pk k)) ∧ W = w') := Lib.hid (fun W h => HPK.out k W g h)
      clear hgA gne1 gne2 gne3 gF
      dsimp only at hd0 hd1 HWL
      generalize (s.W[k]).1 = n at *
      generalize (s.W[k]).2 = x at *
      clear hkW
      have HT := Lib.hid (wrote wr n x)
      have HR2 := Lib.hid (HR1.out.alloc (.cells #[.int .i64 (n : Int), .string x] 54))
      have HO2 := Lib.hid (Only.alloc HO1.out (.cells #[.int .i64 (n : Int), .string x] 54))
      have HB := Lib.hid HR1.out.own
      generalize pk k = b at HAT HPK1
      cases b with
      | false =>
        go_wp2_with (go_at_call 25; refine (HPK1.out _ HO2.out).mono ?_; rintro e' w' ⟨rfl, rfl⟩)
        go_roundw
        case rel => exact ⟨k + 1, by go_num, by omega, by rw [HAT.out]; exact HR2.out, HO2.out⟩
        case measure => simp [intOf]; omega
      | true =>
        go_wp2_with (go_at_call 25; refine (HPK1.out _ HO2.out).mono ?_; rintro e' w' ⟨rfl, rfl⟩)
        obtain ⟨d0, d1, d2, dl, dn, dln, dm, el, en, ep, q1, q2, q3, q4⟩ := HR2.out.facts
        have hcell := dl n (by dsimp only; rw [lastsK_len]; rw [lastsK_len] at HWL; exact HWL.out)
        have hfl := el n
        have hT0 := HT.out.two.1
        have hT1 := HT.out.two.2
        have hnL := HWL.out
        have hlbT : lb ≠ wr.heap.size := by have := HB.out.2.2.2 lb HB.out.2.1; omega
        clear d1 d2 dl dn dln el en ep q2 q3 q4 hd0 hd1 hix
        dsimp only at d0 dm hcell hnL
        rw [lastsK_len] at d0 dm hnL
        generalize wr.alloc (.cells #[.int .i64 (n : Int), .string x] 54) = wt at *
        generalize wr.heap.size = B at *
        generalize s.L.length = m at *
        have hS : wt.cell? ⟨p, 0, none⟩ = some (.slice (some ⟨lb, 0, none⟩) m lc) ∧ wt.cell? ⟨B, 0, none⟩ = some (.int .i64 (n : Int)) ∧ wt.cell? ⟨B, 1, none⟩ = some (.string x) := ⟨d0, hT0, hT1⟩
        have hS' : (wt.setCell ⟨lb, n, none⟩ (.string x)).cell? ⟨p, 0, none⟩ = some (.slice (some ⟨lb, 0, none⟩) m lc) ∧ (wt.setCell ⟨lb, n, none⟩ (.string x)).cell? ⟨B, 0, none⟩ = some (.int .i64 (n : Int)) ∧ (wt.setCell ⟨lb, n, none⟩ (.string x)).cell? ⟨B, 1, none⟩ = some (.string x) :=
          ⟨(World.cell?_of_block (Below.heap_setCell wt _ _ p q1.symm)).trans d0, (World.cell?_of_block (Below.heap_setCell wt _ _ B hlbT.symm)).trans hT0, (World.cell?_of_block (Below.heap_setCell wt _ _ B hlbT.symm)).trans hT1⟩
        go_region_held3 (fun w' => w'.cell? ⟨p, 0, none⟩ = some (.slice (some ⟨lb, 0, none⟩) m lc) ∧ w'.cell? ⟨B, 0, none⟩ = some (.int .i64 (n : Int)) ∧ w'.cell? ⟨B, 1, none⟩ = some (.string x)) (first | exact hS | exact hS') (fail)
        go_wp2_with fail
        go_roundw
        case rel => exact ⟨k + 1, by go_num, by omega, by rw [HAT.out]; exact HR2.out.setL n x, (HO2.out.setCell (p := ⟨lb, n, none⟩) HB.out.2.1 _).drew⟩
        case measure => simp [intOf]; omega
    · obtain rfl : k = Z := by omega
      obtain ⟨d0, d1, d2, dl, dn, dln, dm, el, en, ep, q1, q2, q3, q4⟩ := HR1.out.facts
      have hc2 := d2
      clear d0 d1 dl dn dln dm el en ep q1 q2 q3 q4
      go_wp2_with fail
      clear hc2 d2
      obtain ⟨wo, rfl⟩ : ∃ wo : World, wo = wr := ⟨_, rfl⟩
      go_loopw [36] (fun i wr => ∃ j : Nat, i = .int .i64 j ∧ j ≤ k ∧ DiskR wr F p { s with L := lastsK pk s.L s.W k, N := nowK (lastsK pk s.L s.W k) s.N s.W j } lb nb lc nc (.slice A k c) ∧ Only F w wr) (fun i _ => k - (intOf i).toNat)
      case atStart => exact ⟨0, rfl, Nat.zero_le _, HR1.out, HO1.out⟩
      case round =>
        obtain ⟨j, rfl, hj, hr, ho⟩ := hrel
        have HR3 := Lib.hid hr
        have HO3 := Lib.hid ho
        clear hr ho HR1 HO1 g hk
        by_cases g : j < k
        · have hkW : j < s.W.length := by rw [HZ.out]; exact g
          obtain ⟨gb, hgA, gne1, gne2, gne3, gF⟩ := HA.out (by omega)
          have hcc := waits_cells (s := { s with L := lastsK pk s.L s.W k, N := nowK (lastsK pk s.L s.W k) s.N s.W j }) (g := gb) (c := c) (by rw [← hgA]; dsimp only; rw [HZ.out]; exact HR3.out) j hkW
          obtain ⟨hd0, hd1⟩ := hcc
          have hix : ∀ W, (Instr.indexAt 55 (.slice A k c) (.int .i64 (j : Int))).run Try.prog W = .ok (.pointer (some ⟨gb, j * 2, none⟩)) W := fun W => by rw [hgA]; exact idx_waits gb k c j g W
          have HAT := Lib.hid (nowK_at (lastsK pk s.L s.W k) s.N s.W j hkW)
          have HWL := Lib.hid (HR3.out.wait_lt j hkW)
          clear hgA gne1 gne2 gne3 gF
          dsimp only at hd0 hd1 HWL
          generalize (s.W[j]).1 = n at *
          generalize (s.W[j]).2 = x at *
          clear hkW
          have HT := Lib.hid (wrote wr n x)
          have HR4 := Lib.hid (HR3.out.alloc (.cells #[.int .i64 (n : Int), .string x] 54))
          have HO4 := Lib.hid (Only.alloc HO3.out (.cells #[.int .i64 (n : Int), .string x] 54))
          have HB := Lib.hid HR3.out.own
          go_wp2_with fail
          obtain ⟨d0, d1, d2, dl, dn, dln, dm, el, en, ep, q1, q2, q3, q4⟩ := HR4.out.facts
          have hcl := dl n HWL.out
          have hcn := dn n HWL.out
          have hfn := en n
          have hT0 := HT.out.two.1
          have hnL := HWL.out
          have hnbT : nb ≠ wr.heap.size := by have := HB.out.2.2.2 nb HB.out.2.2.1; omega
          have hlbnb : lb ≠ nb := HR3.out.2.2.2.2.1
          clear d2 dl dn dln el en ep q3 q4 hd0 hd1 hix
          dsimp only at d0 d1 dm hcl hcn hnL
          rw [lastsK_len] at d0 d1 dm hnL
          generalize (lastsK pk s.L s.W k).getD n ⟨#[]⟩ = y at *
          generalize wr.alloc (.cells #[.int .i64 (n : Int), .string x] 54) = wt at *
          generalize wr.heap.size = B at *
          generalize s.L.length = m at *
          have hS : wt.cell? ⟨p, 0, none⟩ = some (.slice (some ⟨lb, 0, none⟩) m lc) ∧ wt.cell? ⟨p, 1, none⟩ = some (.slice (some ⟨nb, 0, none⟩) m nc) ∧ wt.cell? ⟨B, 0, none⟩ = some (.int .i64 (n : Int)) ∧ wt.cell? ⟨lb, n, none⟩ = some (.string y) := ⟨d0, d1, hT0, hcl⟩
          have hS' : (wt.setCell ⟨nb, n, none⟩ (.string y)).cell? ⟨p, 0, none⟩ = some (.slice (some ⟨lb, 0, none⟩) m lc) ∧ (wt.setCell ⟨nb, n, none⟩ (.string y)).cell? ⟨p, 1, none⟩ = some (.slice (some ⟨nb, 0, none⟩) m nc) ∧ (wt.setCell ⟨nb, n, none⟩ (.string y)).cell? ⟨B, 0, none⟩ = some (.int .i64 (n : Int)) ∧ (wt.setCell ⟨nb, n, none⟩ (.string y)).cell? ⟨lb, n, none⟩ = some (.string y) :=
            ⟨(World.cell?_of_block (Below.heap_setCell wt _ _ p q2.symm)).trans d0, (World.cell?_of_block (Below.heap_setCell wt _ _ p q2.symm)).trans d1, (World.cell?_of_block (Below.heap_setCell wt _ _ B hnbT.symm)).trans hT0, (World.cell?_of_block (Below.heap_setCell wt _ _ lb hlbnb)).trans hcl⟩
          go_region_held3 (fun w' => w'.cell? ⟨p, 0, none⟩ = some (.slice (some ⟨lb, 0, none⟩) m lc) ∧ w'.cell? ⟨p, 1, none⟩ = some (.slice (some ⟨nb, 0, none⟩) m nc) ∧ w'.cell? ⟨B, 0, none⟩ = some (.int .i64 (n : Int)) ∧ w'.cell? ⟨lb, n, none⟩ = some (.string y)) (first | exact hS | exact hS') (fail)
          go_wp2_with fail
          go_roundw
          case rel => exact ⟨j + 1, by go_num, by omega, by rw [HAT.out]; exact HR4.out.setN n y, (HO4.out.setCell (p := ⟨nb, n, none⟩) HB.out.2.2.1 _).drew⟩
          case measure => simp [intOf]; omega
        · obtain rfl : j = k := by omega
          obtain ⟨d0, d1, d2, dl, dn, dln, dm, el, en, ep, q1, q2, q3, q4⟩ := HR3.out.facts
          have hc2 := d2
          have hf2 := ep 2
          clear d0 d1 dl dn dln dm el en ep q1 q2 q3 q4
          go_wp2_with fail
          go_end0
          have d := HR3.out.none_
          have e : settleS pk s = { s with L := lastsK pk s.L s.W j, N := nowK (lastsK pk s.L s.W j) s.N s.W j, W := [] } := by unfold settleS; rw [HZ.out]
          rw [e]
          exact ⟨rfl, d, HO3.out.setCell (p := ⟨p, 2, none⟩) HR3.out.own.1 _⟩

set_option maxRecDepth 100000 in
set_option maxHeartbeats 2000000 in
theorem settle_some (w : World) (F : Nat → Prop) (p : Nat) (s : DSt) (pk : Nat → Bool) (cb : Nat) (h : DiskAt w F p s)
    (hpk : ∀ (k : Nat) (W : World), k < s.W.length → Only F w W → Calls Try.prog 26 #[.int .i64 (k : Int), .pointer (some ⟨cb, 0, none⟩)] W fun e w' => e = .returned (.bool (pk k)) ∧ W = w') :
    Calls Try.prog 24 #[.pointer (some ⟨p, 0, none⟩), .func (.func 26) #[] #[.pointer (some ⟨cb, 0, none⟩)]] w fun e w' => e = .returned (.tuple #[]) ∧ DiskAt w' F p (settleS pk s) ∧ Only F w w' := by
  obtain ⟨lb, nb, lc, nc, wv, hR⟩ := h
  obtain ⟨A, c, rfl, hm, hA⟩ := waits_shape hR
  have HPK := Lib.hid hpk
  have HA := Lib.hid hA
  have HR := Lib.hid (show DiskR w F p s lb nb lc nc (.slice A s.W.length c) from hR)
  obtain ⟨c0, c1, c2, cl, cn, hln, hmm, fl, fn, fp, g1, g2, g3, g4⟩ := HR.out.facts
  clear hpk hA hR c0 c1 cl cn fl fn fp hln hmm
  unfold maxLen at hm
  have HS := Lib.hid (rfl : settleS pk s = settleS pk s)
  generalize hZ : s.W.length = Z at *
  have HZ := Lib.hid hZ
  clear hZ g1 g2 g3 g4
  go_enter Try.func24, Try.ntmps24
  go_wp2
  clear c2
  go_loopw [13] (fun i wr => ∃ k : Nat, i = .int .i64 k ∧ k ≤ Z ∧ DiskR wr F p { s with L := lastsK pk s.L s.W k } lb nb lc nc (.slice A Z c) ∧ Only F w wr) (fun i _ => Z - (intOf i).toNat)
  case atStart => exact ⟨0, rfl, Nat.zero_le _, by have h := HR.out; exact h, Only.refl F w⟩
  case round =>
    obtain ⟨k, rfl, hk, hr, ho⟩ := hrel
    have HR1 := Lib.hid hr
    have HO1 := Lib.hid ho
    clear hr ho
    by_cases g : k < Z
    · have hkW : k < s.W.length := by rw [HZ.out]; exact g
      obtain ⟨gb, hgA, gne1, gne2, gne3, gF⟩ := HA.out (by omega)
      have hcc := waits_cells (s := { s with L := lastsK pk s.L s.W k }) (g := gb) (c := c) (by rw [← hgA]; dsimp only; rw [HZ.out]; exact HR1.out) k hkW
      obtain ⟨hd0, hd1⟩ := hcc
      have hix : ∀ W, (Instr.indexAt 55 (.slice A Z c) (.int .i64 (k : Int))).run Try.prog W = .ok (.pointer (some ⟨gb, k * 2, none⟩)) W := fun W => by rw [hgA]; exact idx_waits gb Z c k g W
      have HAT := Lib.hid (lastsK_at pk s.L s.W k hkW)
      have HWL := Lib.hid (HR1.out.wait_lt k hkW)
      have HPK1 : Hid (∀ W, Only F w W → Calls Try.prog 26 #[.int .i64 (k : Int), .pointer (some ⟨cb, 0, none⟩)] W fun e w' => e = .returned (.bool (pk k)) ∧ W = w') := Lib.hid (fun W h => HPK.out k W g h)
      clear hgA gne1 gne2 gne3 gF
      dsimp only at hd0 hd1 HWL
      generalize (s.W[k]).1 = n at *
      generalize (s.W[k]).2 = x at *
      clear hkW
      have HT := Lib.hid (wrote wr n x)
      have HR2 := Lib.hid (HR1.out.alloc (.cells #[.int .i64 (n : Int), .string x] 54))
      have HO2 := Lib.hid (Only.alloc HO1.out (.cells #[.int .i64 (n : Int), .string x] 54))
      have HB := Lib.hid HR1.out.own
      generalize pk k = b at HAT HPK1
      cases b with
      | false =>
        go_wp2_with (go_at_call 26; refine (HPK1.out _ HO2.out).mono ?_; rintro e' w' ⟨rfl, rfl⟩)
        go_roundw
        case rel => exact ⟨k + 1, by go_num, by omega, by rw [HAT.out]; exact HR2.out, HO2.out⟩
        case measure => simp [intOf]; omega
      | true =>
        go_wp2_with (go_at_call 26; refine (HPK1.out _ HO2.out).mono ?_; rintro e' w' ⟨rfl, rfl⟩)
        obtain ⟨d0, d1, d2, dl, dn, dln, dm, el, en, ep, q1, q2, q3, q4⟩ := HR2.out.facts
        have hcell := dl n (by dsimp only; rw [lastsK_len]; rw [lastsK_len] at HWL; exact HWL.out)
        have hfl := el n
        have hT0 := HT.out.two.1
        have hT1 := HT.out.two.2
        have hnL := HWL.out
        have hlbT : lb ≠ wr.heap.size := by have := HB.out.2.2.2 lb HB.out.2.1; omega
        clear d1 d2 dl dn dln el en ep q2 q3 q4 hd0 hd1 hix
        dsimp only at d0 dm hcell hnL
        rw [lastsK_len] at d0 dm hnL
        generalize wr.alloc (.cells #[.int .i64 (n : Int), .string x] 54) = wt at *
        generalize wr.heap.size = B at *
        generalize s.L.length = m at *
        have hS : wt.cell? ⟨p, 0, none⟩ = some (.slice (some ⟨lb, 0, none⟩) m lc) ∧ wt.cell? ⟨B, 0, none⟩ = some (.int .i64 (n : Int)) ∧ wt.cell? ⟨B, 1, none⟩ = some (.string x) := ⟨d0, hT0, hT1⟩
        have hS' : (wt.setCell ⟨lb, n, none⟩ (.string x)).cell? ⟨p, 0, none⟩ = some (.slice (some ⟨lb, 0, none⟩) m lc) ∧ (wt.setCell ⟨lb, n, none⟩ (.string x)).cell? ⟨B, 0, none⟩ = some (.int .i64 (n : Int)) ∧ (wt.setCell ⟨lb, n, none⟩ (.string x)).cell? ⟨B, 1, none⟩ = some (.string x) :=
          ⟨(World.cell?_of_block (Below.heap_setCell wt _ _ p q1.symm)).trans d0, (World.cell?_of_block (Below.heap_setCell wt _ _ B hlbT.symm)).trans hT0, (World.cell?_of_block (Below.heap_setCell wt _ _ B hlbT.symm)).trans hT1⟩
        go_region_held3 (fun w' => w'.cell? ⟨p, 0, none⟩ = some (.slice (some ⟨lb, 0, none⟩) m lc) ∧ w'.cell? ⟨B, 0, none⟩ = some (.int .i64 (n : Int)) ∧ w'.cell? ⟨B, 1, none⟩ = some (.string x)) (first | exact hS | exact hS') (fail)
        go_wp2_with fail
        go_roundw
        case rel => exact ⟨k + 1, by go_num, by omega, by rw [HAT.out]; exact HR2.out.setL n x, (HO2.out.setCell (p := ⟨lb, n, none⟩) HB.out.2.1 _).drew⟩
        case measure => simp [intOf]; omega
    · obtain rfl : k = Z := by omega
      obtain ⟨d0, d1, d2, dl, dn, dln, dm, el, en, ep, q1, q2, q3, q4⟩ := HR1.out.facts
      have hc2 := d2
      clear d0 d1 dl dn dln dm el en ep q1 q2 q3 q4
      go_wp2_with fail
      clear hc2 d2
      obtain ⟨wo, rfl⟩ : ∃ wo : World, wo = wr := ⟨_, rfl⟩
      go_loopw [36] (fun i wr => ∃ j : Nat, i = .int .i64 j ∧ j ≤ k ∧ DiskR wr F p { s with L := lastsK pk s.L s.W k, N := nowK (lastsK pk s.L s.W k) s.N s.W j } lb nb lc nc (.slice A k c) ∧ Only F w wr) (fun i _ => k - (intOf i).toNat)
      case atStart => exact ⟨0, rfl, Nat.zero_le _, HR1.out, HO1.out⟩
      case round =>
        obtain ⟨j, rfl, hj, hr, ho⟩ := hrel
        have HR3 := Lib.hid hr
        have HO3 := Lib.hid ho
        clear hr ho HR1 HO1 g hk
        by_cases g : j < k
        · have hkW : j < s.W.length := by rw [HZ.out]; exact g
          obtain ⟨gb, hgA, gne1, gne2, gne3, gF⟩ := HA.out (by omega)
          have hcc := waits_cells (s := { s with L := lastsK pk s.L s.W k, N := nowK (lastsK pk s.L s.W k) s.N s.W j }) (g := gb) (c := c) (by rw [← hgA]; dsimp only; rw [HZ.out]; exact HR3.out) j hkW
          obtain ⟨hd0, hd1⟩ := hcc
          have hix : ∀ W, (Instr.indexAt 55 (.slice A k c) (.int .i64 (j : Int))).run Try.prog W = .ok (.pointer (some ⟨gb, j * 2, none⟩)) W := fun W => by rw [hgA]; exact idx_waits gb k c j g W
          have HAT := Lib.hid (nowK_at (lastsK pk s.L s.W k) s.N s.W j hkW)
          have HWL := Lib.hid (HR3.out.wait_lt j hkW)
          clear hgA gne1 gne2 gne3 gF
          dsimp only at hd0 hd1 HWL
          generalize (s.W[j]).1 = n at *
          generalize (s.W[j]).2 = x at *
          clear hkW
          have HT := Lib.hid (wrote wr n x)
          have HR4 := Lib.hid (HR3.out.alloc (.cells #[.int .i64 (n : Int), .string x] 54))
          have HO4 := Lib.hid (Only.alloc HO3.out (.cells #[.int .i64 (n : Int), .string x] 54))
          have HB := Lib.hid HR3.out.own
          go_wp2_with fail
          obtain ⟨d0, d1, d2, dl, dn, dln, dm, el, en, ep, q1, q2, q3, q4⟩ := HR4.out.facts
          have hcl := dl n HWL.out
          have hcn := dn n HWL.out
          have hfn := en n
          have hT0 := HT.out.two.1
          have hnL := HWL.out
          have hnbT : nb ≠ wr.heap.size := by have := HB.out.2.2.2 nb HB.out.2.2.1; omega
          have hlbnb : lb ≠ nb := HR3.out.2.2.2.2.1
          clear d2 dl dn dln el en ep q3 q4 hd0 hd1 hix
          dsimp only at d0 d1 dm hcl hcn hnL
          rw [lastsK_len] at d0 d1 dm hnL
          generalize (lastsK pk s.L s.W k).getD n ⟨#[]⟩ = y at *
          generalize wr.alloc (.cells #[.int .i64 (n : Int), .string x] 54) = wt at *
          generalize wr.heap.size = B at *
          generalize s.L.length = m at *
          have hS : wt.cell? ⟨p, 0, none⟩ = some (.slice (some ⟨lb, 0, none⟩) m lc) ∧ wt.cell? ⟨p, 1, none⟩ = some (.slice (some ⟨nb, 0, none⟩) m nc) ∧ wt.cell? ⟨B, 0, none⟩ = some (.int .i64 (n : Int)) ∧ wt.cell? ⟨lb, n, none⟩ = some (.string y) := ⟨d0, d1, hT0, hcl⟩
          have hS' : (wt.setCell ⟨nb, n, none⟩ (.string y)).cell? ⟨p, 0, none⟩ = some (.slice (some ⟨lb, 0, none⟩) m lc) ∧ (wt.setCell ⟨nb, n, none⟩ (.string y)).cell? ⟨p, 1, none⟩ = some (.slice (some ⟨nb, 0, none⟩) m nc) ∧ (wt.setCell ⟨nb, n, none⟩ (.string y)).cell? ⟨B, 0, none⟩ = some (.int .i64 (n : Int)) ∧ (wt.setCell ⟨nb, n, none⟩ (.string y)).cell? ⟨lb, n, none⟩ = some (.string y) :=
            ⟨(World.cell?_of_block (Below.heap_setCell wt _ _ p q2.symm)).trans d0, (World.cell?_of_block (Below.heap_setCell wt _ _ p q2.symm)).trans d1, (World.cell?_of_block (Below.heap_setCell wt _ _ B hnbT.symm)).trans hT0, (World.cell?_of_block (Below.heap_setCell wt _ _ lb hlbnb)).trans hcl⟩
          go_region_held3 (fun w' => w'.cell? ⟨p, 0, none⟩ = some (.slice (some ⟨lb, 0, none⟩) m lc) ∧ w'.cell? ⟨p, 1, none⟩ = some (.slice (some ⟨nb, 0, none⟩) m nc) ∧ w'.cell? ⟨B, 0, none⟩ = some (.int .i64 (n : Int)) ∧ w'.cell? ⟨lb, n, none⟩ = some (.string y)) (first | exact hS | exact hS') (fail)
          go_wp2_with fail
          go_roundw
          case rel => exact ⟨j + 1, by go_num, by omega, by rw [HAT.out]; exact HR4.out.setN n y, (HO4.out.setCell (p := ⟨nb, n, none⟩) HB.out.2.2.1 _).drew⟩
          case measure => simp [intOf]; omega
        · obtain rfl : j = k := by omega
          obtain ⟨d0, d1, d2, dl, dn, dln, dm, el, en, ep, q1, q2, q3, q4⟩ := HR3.out.facts
          have hc2 := d2
          have hf2 := ep 2
          clear d0 d1 dl dn dln dm el en ep q1 q2 q3 q4
          go_wp2_with fail
          go_end0
          have d := HR3.out.none_
          have e : settleS pk s = { s with L := lastsK pk s.L s.W j, N := nowK (lastsK pk s.L s.W j) s.N s.W j, W := [] } := by unfold settleS; rw [HZ.out]
          rw [e]
          exact ⟨rfl, d, HO3.out.setCell (p := ⟨p, 2, none⟩) HR3.out.own.1 _⟩

theorem barrier_ok (w : World) (F : Nat → Prop) (p : Nat) (s : DSt) (h : DiskAt w F p s) (ho : s.off = false)
    (hs : 0 ≤ s.steps ∧ s.steps < 4611686018427387904) (hl : 0 ≤ s.left ∧ s.left < 4611686018427387904) (hc : chgE s = 0) :
    Calls Try.prog 10 #[.pointer (some ⟨p, 0, none⟩)] w fun e w' => e = .returned (.int .i64 0) ∧ DiskAt w' F p (settleS (fun _ => true) (chg s)) ∧ Only F w w' := by
  have hready := ready_any w F p s h
  have hchange := change_any w F p s h hs hl
  rw [ho, if_neg (by decide)] at hready
  rw [hc] at hchange
  have HR := Lib.hid hready
  have HC := Lib.hid hchange
  clear hready hchange h ho hs hl hc
  go_enter Try.func10, Try.ntmps10
  go_wp2_with (first
    | (go_at_call 21; refine HR.out.mono ?_; rintro e1 w1 ⟨rfl, rfl⟩)
    | (go_at_call 23; refine HC.out.mono ?_; rintro e1 w1 ⟨rfl, hd, ho⟩; have HD := Lib.hid hd; have HO := Lib.hid ho; clear hd ho)
    | (go_at_call 24; refine (settle_all _ F p (chg s) (fun _ => true) HD.out (fun k W _ _ => all_any k W)).mono ?_; rintro e2 w2 ⟨rfl, hd, ho⟩; have HD2 := Lib.hid hd; have HO2 := Lib.hid ho; clear hd ho))
  go_ret
  exact ⟨rfl, HD2.out, HO.out.trans HO2.out⟩
theorem barrier_off (w : World) (F : Nat → Prop) (p : Nat) (s : DSt) (h : DiskAt w F p s) (ho : s.off = true) :
    Calls Try.prog 10 #[.pointer (some ⟨p, 0, none⟩)] w fun e w' => e = .returned (.int .i64 8) ∧ w = w' := by
  have hready := ready_any w F p s h
  rw [ho, if_pos rfl] at hready
  have HR := Lib.hid hready
  clear hready h ho
  go_enter Try.func10, Try.ntmps10
  go_wp2_with (go_at_call 21; refine HR.out.mono ?_; rintro e1 w1 ⟨rfl, rfl⟩)
  go_ret
  exact ⟨rfl, rfl⟩
theorem barrier_down (w : World) (F : Nat → Prop) (p : Nat) (s : DSt) (h : DiskAt w F p s) (ho : s.off = false)
    (hs : 0 ≤ s.steps ∧ s.steps < 4611686018427387904) (hl : 0 ≤ s.left ∧ s.left < 4611686018427387904) (hc : chgE s = 8) :
    Calls Try.prog 10 #[.pointer (some ⟨p, 0, none⟩)] w fun e w' => e = .returned (.int .i64 8) ∧ DiskAt w' F p (chg s) ∧ Only F w w' := by
  have hready := ready_any w F p s h
  have hchange := change_any w F p s h hs hl
  rw [ho, if_neg (by decide)] at hready
  rw [hc] at hchange
  have HR := Lib.hid hready
  have HC := Lib.hid hchange
  clear hready hchange h ho hs hl hc
  go_enter Try.func10, Try.ntmps10
  go_wp2_with (first
    | (go_at_call 21; refine HR.out.mono ?_; rintro e1 w1 ⟨rfl, rfl⟩)
    | (go_at_call 23; refine HC.out.mono ?_; rintro e1 w1 ⟨rfl, hd, ho⟩; have HD := Lib.hid hd; have HO := Lib.hid ho; clear hd ho))
  go_ret
  exact ⟨rfl, HD.out, HO.out⟩
/-- Crash -/
def crashS (pk : Nat → Bool) (s : DSt) : DSt := { settleS pk s with armed := false, left := 0, off := false }
theorem crash_any (w : World) (F : Nat → Prop) (p : Nat) (s : DSt) (h : DiskAt w F p s) (a : Option Addr) (n cap : Nat) (zs : List Int) (hz : IntRow w a n zs) (ha : ∀ x, a = some x → ¬ F x.block) :
    Calls Try.prog 11 #[.pointer (some ⟨p, 0, none⟩), .slice a n cap] w fun e w' => e = .returned (.tuple #[]) ∧ DiskAt w' F p (crashS (pkOf zs n) s) ∧ Only F w w' := by
  have HD := Lib.hid (DiskAt.keep h (Only.alloc (Only.refl (fun _ => False) w) (.cells #[.slice a n cap] 23)) (fun _ _ h => h))
  have hFl : ∀ k, F k → k < w.heap.size := by
    obtain ⟨lb, nb, lc, nc, wv, hR⟩ := h
    exact hR.2.2.2.2.2.2.2.2.2.2
  have HP := Lib.hid (picks_at w F a n cap zs hz ha hFl)
  have HO := Lib.hid (Only.alloc (Only.refl F w) (.cells #[.slice a n cap] 23))
  clear h hz ha hFl
  go_enter Try.func11, Try.ntmps11
  go_wp2_with fail
  refine (settle_some _ F p s (pkOf zs n) w.heap.size HD.out (fun k W _ h => pick_any w.heap.size a n cap zs k W (HP.out W h).1 (HP.out W h).2)).mono ?_
  rintro e2 w2 ⟨rfl, hd, ho⟩
  have HD2 := Lib.hid hd
  have HO2 := Lib.hid ho
  obtain ⟨c3, c4, c5, c6, cf⟩ := hd.cells
  have f3 := cf 3
  have f4 := cf 4
  have f5 := cf 5
  clear hd ho cf c6
  go_wp2_with fail
  go_end0
  exact ⟨rfl, ((HD2.out.armed_ false).left_ 0).off_ false, (((HO.out.trans HO2.out).setCell (p := ⟨p, 3, none⟩) HD2.out.self _).setCell (p := ⟨p, 4, none⟩) HD2.out.self _).setCell (p := ⟨p, 5, none⟩) HD2.out.self _⟩
end Go.Proofs.Ytnbmmlepbifciaa
