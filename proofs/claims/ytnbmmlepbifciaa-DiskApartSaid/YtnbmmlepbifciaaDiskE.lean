/-
  The disk's Write: its walk.
-/
import Derived.Test.YtnbmmlepbifciaaDiskD
import Derived.Deep.RegionLaw
import Derived.Outline
namespace Go.Proofs.Ytnbmmlepbifciaa
open Go.ChangeShapes Go.WideShapes Go.ChangeAt Go.RowKit
set_option linter.unusedVariables false

theorem info54 : (Try.prog.info? 54).map (fun i => (i.zero, i.size, i.bytes)) = some (some (.agg #[.int .i64 0, .string ⟨#[]⟩]), 2, 24) := by kernel_rfl
theorem chg_L (s : DSt) : (chg s).L = s.L := by unfold chg; split <;> rfl
theorem chg_N (s : DSt) : (chg s).N = s.N := by unfold chg; split <;> rfl
theorem chg_W (s : DSt) : (chg s).W = s.W := by unfold chg; split <;> rfl

/-- a write's sector, and its bytes, in its variable -/
def Wrote (w : World) (B : Nat) (n : Nat) (x : ByteArray) : Prop := w.heap[B]? = some (.cells #[.int .i64 (n : Int), .string x] 54)
theorem Wrote.two {w : World} {B n : Nat} {x : ByteArray} (h : Wrote w B n x) : w.cell? ⟨B, 0, none⟩ = some (.int .i64 (n : Int)) ∧ w.cell? ⟨B, 1, none⟩ = some (.string x) := by
  unfold Wrote at h
  constructor <;> simp [World.cell?, h]
theorem Wrote.lt {w : World} {B n : Nat} {x : ByteArray} (h : Wrote w B n x) : B < w.heap.size := by
  unfold Wrote at h
  rcases Nat.lt_or_ge B w.heap.size with g | g
  · exact g
  · rw [Array.getElem?_eq_none g] at h
    cases h
theorem wrote (w : World) (n : Nat) (x : ByteArray) : Wrote (w.alloc (.cells #[.int .i64 (n : Int), .string x] 54)) w.heap.size n x := by
  show (w.heap.push _)[w.heap.size]? = _
  simp

/-- what a write does -/
def wr (s : DSt) (n : Nat) (x : ByteArray) : DSt := { chg s with N := s.N.set n x, W := s.W ++ [(n, x)] }

theorem disk_own {wu : World} {o : Obj} {F : Nat → Prop} {p : Nat} {s : DSt} {lb nb lc nc Z : Nat} {wv : Value} {N : List ByteArray} (h : DiskR wu F p { s with N := N } lb nb lc nc wv) (hz : s.W.length = Z) : ((wu.alloc o).drew).ownsRow 0 54 2 wv Z (wcells s.W) := by
  subst hz
  exact World.ownsRow.drew (World.ownsRow.alloc h.2.2.2.1 o)
theorem undo_grown {wu w3 : World} {o : Obj} {row : Option Nat} (h : ((wu.alloc o).drew).grownBy w3 row) : wu.grownBy w3 row := by
  have e : (wu.alloc o).drew.heap.size = wu.heap.size + 1 := by
    show (wu.heap.push o).size = _
    simp
  refine ⟨h.os, h.tape, h.output, by have := h.size; omega, fun j hj hne => ?_⟩
  rw [h.block j (by omega) hne]
  exact Below.heap_alloc wu o j hj
theorem keep2 {w w3 : World} {F : Nat → Prop} {p : Nat} {s : DSt} {lb nb lc nc : Nat} {wv : Value} (h : DiskR w F p s lb nb lc nc wv) (hg : w.grownBy w3 wv.ownBlock) : w3.cell? ⟨p, 2, none⟩ = some wv ∧ w3.frozen? ⟨p, 2, none⟩ = false := by
  obtain ⟨d0, d1, d2, dl, dn, dln, dm, el, en, ep, q1, q2, q3, q4⟩ := h.facts
  exact ⟨(hg.cell_far ⟨p, 2, none⟩ q4 (fun e => (q3 p e.symm).1 rfl)).trans d2, (hg.frozen_far ⟨p, 2, none⟩ q4 (fun e => (q3 p e.symm).1 rfl)).trans (ep 2)⟩
theorem write_end {w wu w3 : World} {F : Nat → Prop} {p n lb nb lc nc Z g c : Nat} {s : DSt} {wv : Value} {x : ByteArray} (h : DiskR wu F p { chg s with N := (chg s).N.set n x } lb nb lc nc wv) (hn : n < (chg s).L.length) (hz : (chg s).W.length = Z)
    (hown : w3.ownsRow 0 54 2 (.slice (some ⟨g, 0, none⟩) (Z + 1) c) (Z + 1) (wcells (chg s).W ++ [.int .i64 (n : Int), .string x])) (hg : wu.grownBy w3 wv.ownBlock) (hat : wv.ownBlock = some g ∨ g = wu.heap.size + 1) (hlt : g < w3.heap.size) (ho : Only F w wu) :
    DiskAt (w3.setCell ⟨p, 2, none⟩ (.slice (some ⟨g, 0, none⟩) (Z + 1) c)) (Gr F w (w3.setCell ⟨p, 2, none⟩ (.slice (some ⟨g, 0, none⟩) (Z + 1) c))) p (wr s n x) ∧ Only F w (w3.setCell ⟨p, 2, none⟩ (.slice (some ⟨g, 0, none⟩) (Z + 1) c)) := by
  subst hz
  have hF := h.2.2.2.2.2.1
  have hO := h.2.2.2.2.2.2.2.2.1
  have hlt2 := h.2.2.2.2.2.2.2.2.2.2
  have d := h.waits n x hn g c hown hg (hat.imp id (fun e => by omega)) hlt
  have e : wr s n x = { chg s with N := (chg s).N.set n x, W := (chg s).W ++ [(n, x)] } := by unfold wr; rw [chg_N, chg_W]
  rw [e]
  have es : (w3.setCell ⟨p, 2, none⟩ (.slice (some ⟨g, 0, none⟩) ((chg s).W.length + 1) c)).heap.size = w3.heap.size := by simp [World.setCell]
  refine ⟨DiskAt.wider (DiskR.at_ d) (fun k hk => ?_) (fun k hk => ?_), (ho.grown hg (fun k hk => .inl (hO k hk))).setCell hF _⟩
  · rcases hk with hk | hk
    · exact .inl hk
    · exact .inr ⟨Nat.le_trans ho.size hk.1, by rw [es]; exact hk.2⟩
  · rw [es]
    rcases hk with hk | hk
    · exact Nat.lt_of_lt_of_le (hlt2 k hk) hg.size
    · rw [es] at hk
      exact hk.2
set_option maxRecDepth 100000 in
set_option maxHeartbeats 2000000 in
theorem write_ok (w : World) (F : Nat → Prop) (p : Nat) (s : DSt) (n : Nat) (a : Option Addr) (cap : Nat) (l : List Nat) (h : DiskAt w F p s) (ho : s.off = false) (hn : n < s.L.length) (hb : ByteRow w a 512 l) (ha : ∀ x, a = some x → ¬ F x.block)
    (hs : 0 ≤ s.steps ∧ s.steps < 4611686018427387904) (hl : 0 ≤ s.left ∧ s.left < 4611686018427387904) (hw : s.W.length < 1000000) (hc : chgE s = 0) :
    Calls Try.prog 8 #[.pointer (some ⟨p, 0, none⟩), .int .i64 n, .slice a 512 cap] w fun e w' => e = .returned (.int .i64 0) ∧ DiskAt w' (Gr F w w') p (wr s n (bstr l)) ∧ Only F w w' := by
  obtain ⟨i0, hi, hz0, hz1, hz2⟩ := info_parts info54
  have hready := ready_any w F p s h
  have hhas := has_any w F p s n h
  have hchange := change_any w F p s h hs hl
  rw [ho, if_neg (by decide)] at hready
  rw [decide_eq_true (by omega)] at hhas
  rw [hc] at hchange
  have HR := Lib.hid hready
  have HH := Lib.hid hhas
  have HC := Lib.hid hchange
  have HB := Lib.hid hb
  have HA := Lib.hid ha
  have HN := Lib.hid hn
  have HW := Lib.hid hw
  clear hready hhas hchange hb ha h ho hn hs hl hw hc
  go_enter Try.func8, Try.ntmps8
  go_wp2_with (first
    | (go_at_call 21; refine HR.out.mono ?_; rintro e1 w1 ⟨rfl, rfl⟩)
    | (go_at_call 22; refine HH.out.mono ?_; rintro e1 w1 ⟨rfl, rfl⟩)
    | (go_at_call 23; refine HC.out.mono ?_; rintro e1 w1 ⟨rfl, hd, ho⟩; have HD := Lib.hid hd; have HO := Lib.hid ho; have hconv := conv_row cap (HB.out.only ho HA.out); clear hd ho))
  obtain ⟨lb, nb, lc, nc, wv, hR⟩ := HD.out
  have HT := Lib.hid (wrote w1 n (bstr l))
  have HR2 : Hid (DiskR (w1.alloc (.cells #[.int .i64 (n : Int), .string (bstr l)] 54)) F p (chg s) lb nb lc nc wv) := Lib.hid (DiskR.keep hR (Only.alloc (Only.refl (fun _ => False) w1) _) (fun _ _ h => h))
  have HO2 := Lib.hid (Only.alloc HO.out (.cells #[.int .i64 (n : Int), .string (bstr l)] 54))
  have HF : Hid (F p ∧ F nb) := Lib.hid ⟨hR.2.2.2.2.2.1, hR.2.2.2.2.2.2.2.1⟩
  have HBW : Hid (∀ k, F k → k < w1.heap.size) := Lib.hid hR.2.2.2.2.2.2.2.2.2.2
  have HL : Hid ((chg s).L.length = s.L.length) := Lib.hid (by rw [chg_L])
  clear hR hconv
  have HCOPY := HN.out
  have HCOPY' : n < (chg s).L.length := by rw [HL.out]; exact HCOPY
  have HCP := Lib.hid HCOPY'
  clear HCOPY'
  obtain ⟨c0, c1, c2, cl, cn, hln, hm, fl, fn, fp, g1, g2, g3, g4⟩ := HR2.out.facts
  rw [HL.out] at c1 cn hm hln
  have hT := HT.out.two.2
  have hcell := cn n HCOPY
  have hfn := fn n
  have hnB : nb ≠ w1.heap.size := by have := HBW.out nb HF.out.2; omega
  have hpB : p ≠ w1.heap.size := by have := HBW.out p HF.out.1; omega
  clear c0 c2 cl cn fl fn fp g3
  generalize hx : bstr l = x at *
  have HX := Lib.hid hx
  clear hx
  generalize wd : w1.alloc (.cells #[.int .i64 (n : Int), .string x] 54) = wt at *
  have HWD := Lib.hid wd
  clear wd
  generalize hBB : w1.heap.size = B at *
  generalize s.L.length = m at *
  have hS : wt.cell? ⟨p, 1, none⟩ = some (.slice (some ⟨nb, 0, none⟩) m nc) ∧ wt.cell? ⟨B, 1, none⟩ = some (.string x) := ⟨c1, hT⟩
  have hS' : (wt.setCell ⟨nb, n, none⟩ (.string x)).cell? ⟨p, 1, none⟩ = some (.slice (some ⟨nb, 0, none⟩) m nc) ∧ (wt.setCell ⟨nb, n, none⟩ (.string x)).cell? ⟨B, 1, none⟩ = some (.string x) :=
    ⟨(World.cell?_of_block (Below.heap_setCell wt _ _ p g2.symm)).trans c1, (World.cell?_of_block (Below.heap_setCell wt _ _ B hnB.symm)).trans hT⟩
  go_region_held3 (fun w' => w'.cell? ⟨p, 1, none⟩ = some (.slice (some ⟨nb, 0, none⟩) m nc) ∧ w'.cell? ⟨B, 1, none⟩ = some (.string x)) (first | exact hS | exact hS') (fail)
  go_wp2_with fail
  have HR3 : Hid (DiskR (wt.setCell ⟨nb, n, none⟩ (.string x)).drew F p { chg s with N := (chg s).N.set n x } lb nb lc nc wv) := Lib.hid (HR2.out.setN n x)
  have HT3 : Hid (Wrote (wt.setCell ⟨nb, n, none⟩ (.string x)).drew B n x) := Lib.hid ((Below.heap_setCell wt ⟨nb, n, none⟩ (.string x) B hnB.symm).trans HT.out)
  have HO3 : Hid (Only F w (wt.setCell ⟨nb, n, none⟩ (.string x)).drew) := Lib.hid (HO2.out.setCell (p := ⟨nb, n, none⟩) HF.out.2 _).drew
  clear hS hS' c1 hT hcell hfn
  generalize (wt.setCell ⟨nb, n, none⟩ (.string x)).drew = wu at *
  obtain ⟨d0, d1, d2, dl, dn, dln, dm, el, en, ep, q1, q2, q3, q4⟩ := HR3.out.facts
  have hT0 := HT3.out.two.1
  have hT1 := HT3.out.two.2
  have hfp := ep 2
  have HQ := Lib.hid q3
  have HWN : Hid ((chg s).W.length < 1000000) := Lib.hid (by rw [chg_W]; exact HW.out)
  clear d0 d1 dl dn dln dm el en ep q3 q1 q2
  generalize hZ : (chg s).W.length = Z at *
  have HZ := Lib.hid hZ
  have hZW := HWN.out
  clear hZ
  go_region_law (refine step_append_lies _ (by rfl) _ _ _ (by rfl) 0 54 i0 _ 2 24 Try.underlying55 hi hz0 hz1 hz2 rfl (by decide) wv Z (wcells (chg s).W) (by rfl) (disk_own HR3.out HZ.out) ⟨wu.heap.size, 0, none⟩ 1 1 [.int .i64 (n : Int), .string x] (by rfl) (by rfl) (World.news_of_block (cs := #[.int .i64 (n : Int), .string x]) (t := 54) (fr := (0, 0)) (heap_alloc_new wu _)) (by simp [Value.oneCell']) (by decide) (by unfold maxLen; omega) (by omega) (Nat.zero_le _) (wu.heap.size + 1) (by simp) ?_; intro g9 c9 w3 hown hgrow hat hlt; have H3 := Lib.hid (undo_grown hgrow); have HOW := Lib.hid hown; have HAT := Lib.hid hat; have HLT := Lib.hid hlt; have hp3 := (keep2 HR3.out H3.out).1; have hf3 := (keep2 HR3.out H3.out).2; clear hown hgrow hat hlt)
  all_goals go_wp2_with fail
  all_goals go_ret
  all_goals exact ⟨rfl, by rw [HX.out]; exact (write_end HR3.out HCP.out HZ.out HOW.out H3.out HAT.out HLT.out HO3.out).1, (write_end HR3.out HCP.out HZ.out HOW.out H3.out HAT.out HLT.out HO3.out).2⟩

theorem write_off (w : World) (F : Nat → Prop) (p : Nat) (s : DSt) (n : Int) (a : Option Addr) (len cap : Nat) (h : DiskAt w F p s) (ho : s.off = true) :
    Calls Try.prog 8 #[.pointer (some ⟨p, 0, none⟩), .int .i64 n, .slice a len cap] w fun e w' => e = .returned (.int .i64 8) ∧ w = w' := by
  have hready := ready_any w F p s h
  rw [ho, if_pos rfl] at hready
  have HR := Lib.hid hready
  clear hready h ho
  go_enter Try.func8, Try.ntmps8
  go_wp2_with (go_at_call 21; refine HR.out.mono ?_; rintro e1 w1 ⟨rfl, rfl⟩)
  go_ret
  exact ⟨rfl, rfl⟩
theorem write_arg (w : World) (F : Nat → Prop) (p : Nat) (s : DSt) (n : Int) (a : Option Addr) (cap : Nat) (h : DiskAt w F p s) (ho : s.off = false) (hn : ¬ (0 ≤ n ∧ n < (s.L.length : Int))) :
    Calls Try.prog 8 #[.pointer (some ⟨p, 0, none⟩), .int .i64 n, .slice a 512 cap] w fun e w' => e = .returned (.int .i64 1) ∧ w = w' := by
  have hready := ready_any w F p s h
  have hhas := has_any w F p s n h
  rw [ho, if_neg (by decide)] at hready
  rw [decide_eq_false hn] at hhas
  have HR := Lib.hid hready
  have HH := Lib.hid hhas
  clear hready hhas h ho hn
  go_enter Try.func8, Try.ntmps8
  go_wp2_with (first
    | (go_at_call 21; refine HR.out.mono ?_; rintro e1 w1 ⟨rfl, rfl⟩)
    | (go_at_call 22; refine HH.out.mono ?_; rintro e1 w1 ⟨rfl, rfl⟩))
  go_ret
  exact ⟨rfl, rfl⟩
theorem write_down (w : World) (F : Nat → Prop) (p : Nat) (s : DSt) (n : Nat) (a : Option Addr) (cap : Nat) (h : DiskAt w F p s) (ho : s.off = false) (hn : n < s.L.length)
    (hs : 0 ≤ s.steps ∧ s.steps < 4611686018427387904) (hl : 0 ≤ s.left ∧ s.left < 4611686018427387904) (hc : chgE s = 8) :
    Calls Try.prog 8 #[.pointer (some ⟨p, 0, none⟩), .int .i64 n, .slice a 512 cap] w fun e w' => e = .returned (.int .i64 8) ∧ DiskAt w' F p (chg s) ∧ Only F w w' := by
  have hready := ready_any w F p s h
  have hhas := has_any w F p s n h
  have hchange := change_any w F p s h hs hl
  rw [ho, if_neg (by decide)] at hready
  rw [decide_eq_true (by omega)] at hhas
  rw [hc] at hchange
  have HR := Lib.hid hready
  have HH := Lib.hid hhas
  have HC := Lib.hid hchange
  clear hready hhas hchange h ho hn hs hl hc
  go_enter Try.func8, Try.ntmps8
  go_wp2_with (first
    | (go_at_call 21; refine HR.out.mono ?_; rintro e1 w1 ⟨rfl, rfl⟩)
    | (go_at_call 22; refine HH.out.mono ?_; rintro e1 w1 ⟨rfl, rfl⟩)
    | (go_at_call 23; refine HC.out.mono ?_; rintro e1 w1 ⟨rfl, hd, ho⟩; have HD := Lib.hid hd; have HO := Lib.hid ho; clear hd ho))
  go_ret
  exact ⟨rfl, HD.out, HO.out⟩
end Go.Proofs.Ytnbmmlepbifciaa
