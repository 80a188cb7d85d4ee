/-
  Texts put together: WcA, WcB, WcC, WcD, WcE, WcF, WcG, WcH, WcI, WcJ, WcK, WcL, WcM, WsA.
-/
import Derived.Test.YtcmnfbpmkndfkaaDoorMgD
import Derived.Test.YtcmnfbpmkndfkaaDoorMgE
import Derived.Test.YtcmnfbpmkndfkaaDoorMgF
import Derived.Deep.DeepCutAuto
import Derived.Deep.CutBlock
import Derived.Test.YtcmnfbpmkndfkaaDoorMgB
namespace Go.Proofs.YtcmnfbpmkndfkaaDoor
open Go.ChangeShapes Go.WideShapes Go.ChangeAt Go.RowKit
set_option linter.unusedVariables false
set_option maxRecDepth 100000

/-- a change: a write or a barrier, of a disk and an error -/
def stepW (x : DSt × Int) (n : Nat) (b : ByteArray) : DSt × Int := if x.2 = 0 then (if x.1.off = true then (x.1, 8) else if chgE x.1 = 0 then (wr x.1 n b, 0) else (chg x.1, 8)) else x
def stepB (x : DSt × Int) : DSt × Int := if x.2 = 0 then (if x.1.off = true then (x.1, 8) else if chgE x.1 = 0 then (settleS (fun _ => true) (chg x.1), 0) else (chg x.1, 8)) else x
theorem chgE_two (s : DSt) : chgE s = 0 ∨ chgE s = 8 := by
  unfold chgE; split
  · exact .inr rfl
  · exact .inl rfl
theorem stepW_err (x : DSt × Int) (n : Nat) (b : ByteArray) (h : x.2 = 0 ∨ x.2 = 8) : (stepW x n b).2 = 0 ∨ (stepW x n b).2 = 8 := by
  unfold stepW; split
  · split
    · exact .inr rfl
    · split
      · exact .inl rfl
      · exact .inr rfl
  · exact h
theorem stepB_err (x : DSt × Int) (h : x.2 = 0 ∨ x.2 = 8) : (stepB x).2 = 0 ∨ (stepB x).2 = 8 := by
  unfold stepB; split
  · split
    · exact .inr rfl
    · split
      · exact .inl rfl
      · exact .inr rfl
  · exact h
theorem stepW_no (x : DSt × Int) (n : Nat) (b : ByteArray) (h : x.2 = 8) : stepW x n b = x := by
  unfold stepW; rw [if_neg (by rw [h]; decide)]
theorem stepB_no (x : DSt × Int) (h : x.2 = 8) : stepB x = x := by
  unfold stepB; rw [if_neg (by rw [h]; decide)]

/-- a disk of k sectors of which at most m changes are known -/
structure Fit (s : DSt) (k m : Nat) : Prop where
  good : Good s k
  app : App s
  st : 0 ≤ s.steps ∧ s.steps ≤ m
  le : 0 ≤ s.left ∧ s.left < 4611686018427387904
  wl : s.W.length ≤ m
theorem Fit.more {s : DSt} {k m m' : Nat} (h : Fit s k m) (hm : m ≤ m') : Fit s k m' := ⟨h.good, h.app, ⟨h.st.1, by have := h.st.2; omega⟩, h.le, by have := h.wl; omega⟩
theorem chg_nums {s : DSt} {m : Nat} (h : 0 ≤ s.steps ∧ s.steps ≤ m) (h' : 0 ≤ s.left ∧ s.left < 4611686018427387904) : (0 ≤ (chg s).steps ∧ (chg s).steps ≤ ((m + 1 : Nat) : Int)) ∧ (0 ≤ (chg s).left ∧ (chg s).left < 4611686018427387904) := by
  unfold chg
  split
  · exact ⟨⟨h.1, by show s.steps ≤ _; omega⟩, h'⟩
  · rename_i e
    refine ⟨⟨by show 0 ≤ s.steps + 1; omega, by show s.steps + 1 ≤ _; omega⟩, ?_⟩
    show 0 ≤ (if s.armed = true then s.left - 1 else s.left) ∧ (if s.armed = true then s.left - 1 else s.left) < _
    split
    · rename_i a
      have : s.left ≠ 0 := fun l => e ⟨a, l⟩
      omega
    · exact h'
theorem app_chg {s : DSt} (h : App s) : App (chg s) := by
  unfold App at *
  rw [chg_L, chg_N, chg_W]
  exact h
theorem Fit.chg {s : DSt} {k m : Nat} (h : Fit s k m) : Fit (Go.Proofs.YtcmnfbpmkndfkaaDoor.chg s) k (m + 1) := ⟨good_chg h.good, app_chg h.app, (chg_nums h.st h.le).1, (chg_nums h.st h.le).2, by rw [chg_W]; have := h.wl; omega⟩
theorem Fit.stepW {s : DSt} {e : Int} {k m : Nat} (h : Fit s k m) (n : Nat) (hn : n < k) (b : ByteArray) (hb : b.size = 512) : Fit (Go.Proofs.YtcmnfbpmkndfkaaDoor.stepW (s, e) n b).1 k (m + 1) := by
  unfold Go.Proofs.YtcmnfbpmkndfkaaDoor.stepW
  split
  · split
    · exact h.more (Nat.le_succ _)
    · split
      · exact ⟨good_wr h.good n hn b hb, app_wr h.app n b, (chg_nums h.st h.le).1, (chg_nums h.st h.le).2, by show (s.W ++ [(n, b)]).length ≤ _; rw [List.length_append]; have := h.wl; show s.W.length + 1 ≤ _; omega⟩
      · exact h.chg
  · exact h.more (Nat.le_succ _)
theorem settle_nums (s : DSt) (pk : Nat → Bool) : (settleS pk s).steps = s.steps ∧ (settleS pk s).left = s.left ∧ (settleS pk s).armed = s.armed ∧ (settleS pk s).off = s.off ∧ (settleS pk s).W = [] := ⟨rfl, rfl, rfl, rfl, rfl⟩
theorem Fit.stepB {s : DSt} {e : Int} {k m : Nat} (h : Fit s k m) : Fit (Go.Proofs.YtcmnfbpmkndfkaaDoor.stepB (s, e)).1 k (m + 1) := by
  unfold Go.Proofs.YtcmnfbpmkndfkaaDoor.stepB
  split
  · split
    · exact h.more (Nat.le_succ _)
    · split
      · refine ⟨good_settle (good_chg h.good) _, ?_, (chg_nums h.st h.le).1, (chg_nums h.st h.le).2, Nat.zero_le _⟩
        rw [app_barrier h.app]
        exact rfl
      · exact h.chg
  · exact h.more (Nat.le_succ _)

/-- Write, Barrier: of any disk -/
theorem write_g (w : World) (F : Nat → Prop) (p k m n : Nat) (s : DSt) (a : Option Addr) (cap : Nat) (l : List Nat) (h : DiskAt w F p s) (hf : Fit s k m) (hm : m < 900000) (hn : n < k) (hb : ByteRow w a 512 l) (ha : ∀ x, a = some x → ¬ F x.block) :
    Calls Tryd.prog 46 #[.pointer (some ⟨p, 0, none⟩), .int .i64 (n : Int), .slice a 512 cap] w fun e w' => e = .returned (.int .i64 (stepW (s, 0) n (bstr l)).2) ∧ DiskAt w' (Gr F w w') p (stepW (s, 0) n (bstr l)).1 ∧ Only F w w' := by
  have hl := hf.good.1
  have hst : 0 ≤ s.steps ∧ s.steps < 4611686018427387904 := ⟨hf.st.1, by have := hf.st.2; omega⟩
  have hw : s.W.length < 1000000 := by have := hf.wl; omega
  unfold stepW
  rw [if_pos (show ((s, (0 : Int)).2 = 0) from rfl)]
  by_cases ho : s.off = true
  · rw [if_pos (show (s, (0 : Int)).1.off = true from ho)]
    refine (write_off w F p s (n : Int) a 512 cap h ho).mono ?_
    rintro e w' ⟨rfl, rfl⟩
    exact ⟨rfl, by rw [gr_self]; exact h, Only.refl _ _⟩
  · rw [if_neg (show ¬ (s, (0 : Int)).1.off = true from ho)]
    have ho' : s.off = false := Bool.eq_false_iff.2 ho
    rcases chgE_two s with hc | hc
    · rw [if_pos (show chgE (s, (0 : Int)).1 = 0 from hc)]
      exact write_ok w F p s n a cap l h ho' (by omega) hb ha hst hf.le hw hc
    · rw [if_neg (show ¬ chgE (s, (0 : Int)).1 = 0 by show ¬ chgE s = 0; rw [hc]; decide)]
      refine (write_down w F p s n a cap h ho' (by omega) hst hf.le hc).mono ?_
      rintro e w' ⟨rfl, hd, hon⟩
      exact ⟨rfl, hd.wider (fun _ x => .inl x) (gr_lt h.lts hon.size), hon⟩
theorem barrier_g (w : World) (F : Nat → Prop) (p k m : Nat) (s : DSt) (h : DiskAt w F p s) (hf : Fit s k m) (hm : m < 900000) :
    Calls Tryd.prog 49 #[.pointer (some ⟨p, 0, none⟩)] w fun e w' => e = .returned (.int .i64 (stepB (s, 0)).2) ∧ DiskAt w' F p (stepB (s, 0)).1 ∧ Only F w w' := by
  have hst : 0 ≤ s.steps ∧ s.steps < 4611686018427387904 := ⟨hf.st.1, by have := hf.st.2; omega⟩
  unfold stepB
  rw [if_pos (show ((s, (0 : Int)).2 = 0) from rfl)]
  by_cases ho : s.off = true
  · rw [if_pos (show (s, (0 : Int)).1.off = true from ho)]
    refine (barrier_off w F p s h ho).mono ?_
    rintro e w' ⟨rfl, rfl⟩
    exact ⟨rfl, h, Only.refl _ _⟩
  · rw [if_neg (show ¬ (s, (0 : Int)).1.off = true from ho)]
    have ho' : s.off = false := Bool.eq_false_iff.2 ho
    rcases chgE_two s with hc | hc
    · rw [if_pos (show chgE (s, (0 : Int)).1 = 0 from hc)]
      exact barrier_ok w F p s h ho' hst hf.le hc
    · rw [if_neg (show ¬ chgE (s, (0 : Int)).1 = 0 by show ¬ chgE s = 0; rw [hc]; decide)]
      exact barrier_down w F p s h ho' hst hf.le hc

/-- a device at block v: its block's cells but for the error, and the error -/
def DevC (w : World) (v p : Nat) (cs : Array Value) (t : TypeId) (e : Int) : Prop := w.heap[v]? = some (.cells (cs.setIfInBounds 1 (.int .i64 e)) t) ∧ cs[0]? = some (.pointer (some ⟨p, 0, none⟩)) ∧ 1 < cs.size
theorem DevC.lt {w : World} {v p : Nat} {cs : Array Value} {t : TypeId} {e : Int} (h : DevC w v p cs t e) : v < w.heap.size := (Array.getElem?_eq_some_iff.1 h.1).1
theorem DevC.keep {w w' : World} {F : Nat → Prop} {v p : Nat} {cs : Array Value} {t : TypeId} {e : Int} (h : DevC w v p cs t e) (ho : Only F w w') (hv : ¬ F v) : DevC w' v p cs t e := ⟨by rw [ho.block v h.lt hv]; exact h.1, h.2⟩
theorem DevC.below {w w' : World} {v p : Nat} {cs : Array Value} {t : TypeId} {e : Int} (h : DevC w v p cs t e) (hb : Below w.heap.size w w') : DevC w' v p cs t e := h.keep (Only.of_below (F := fun _ => False) hb) (fun g => g)
theorem DevC.cells {w : World} {v p : Nat} {cs : Array Value} {t : TypeId} {e : Int} (h : DevC w v p cs t e) : w.cell? ⟨v, 0, none⟩ = some (.pointer (some ⟨p, 0, none⟩)) ∧ w.cell? ⟨v, 1, none⟩ = some (.int .i64 e) ∧ ∀ i, w.frozen? ⟨v, i, none⟩ = false := by
  obtain ⟨h, h0, h1⟩ := h
  refine ⟨?_, ?_, fun i => ?_⟩
  · simp only [World.cell?, h]; rw [Array.getElem?_setIfInBounds_ne (by decide)]; exact h0
  · simp only [World.cell?, h]; rw [Array.getElem?_setIfInBounds_self_of_lt h1]; rfl
  · simp [World.frozen?, h]
theorem DevC.put {w : World} {v p : Nat} {cs : Array Value} {t : TypeId} {e : Int} (h : DevC w v p cs t e) (e' : Int) : DevC (w.setCell ⟨v, 1, none⟩ (.int .i64 e')) v p cs t e' := by
  refine ⟨?_, h.2⟩
  rw [set_put w v 1 (.int .i64 e') h.1]
  congr 2
  apply Array.ext_getElem?
  intro i
  by_cases e : i = 1
  · subst e
    rw [Array.getElem?_setIfInBounds_self_of_lt (by rw [Array.size_setIfInBounds]; exact h.2.2), Array.getElem?_setIfInBounds_self_of_lt h.2.2]
  · rw [Array.getElem?_setIfInBounds_ne (Ne.symm e), Array.getElem?_setIfInBounds_ne (Ne.symm e), Array.getElem?_setIfInBounds_ne (Ne.symm e)]
theorem put_cell1 {w : World} {v p : Nat} {cs : Array Value} {t : TypeId} {e : Int} (h : DevC w v p cs t e) (e' : Int) : (w.setCell ⟨v, 1, none⟩ (.int .i64 e')).cell? ⟨v, 1, none⟩ = some (.int .i64 e') := (h.put e').cells.2.1
theorem only_put {a w : World} {F : Nat → Prop} {v : Nat} {u : Value} (ho : Only F a w) : Only (fun k => F k ∨ k = v) a (w.setCell ⟨v, 1, none⟩ u) := Only.setCell (F := fun k => F k ∨ k = v) (ho.mono (fun _ h => Or.inl h)) (p := ⟨v, 1, none⟩) (Or.inr rfl) u
theorem dwriteG (w : World) (F : Nat → Prop) (p k m n v : Nat) (s : DSt) (e0 : Int) (cs : Array Value) (t : TypeId) (a : Option Addr) (cap : Nat) (l : List Nat) (h : DiskAt w F p s) (hf : Fit s k m) (hm : m < 900000) (he : e0 = 0 ∨ e0 = 8) (hd : DevC w v p cs t e0) (hv : ¬ F v) (hn : n < k) (hb : ByteRow w a 512 l) (ha : ∀ x, a = some x → ¬ F x.block) :
    Calls Tryd.prog 24 #[.pointer (some ⟨v, 0, none⟩), .int .i64 (n : Int), .slice a 512 cap] w fun e w' => e = .returned (.tuple #[]) ∧ DiskAt w' (Gr F w w') p (stepW (s, e0) n (bstr l)).1 ∧ DevC w' v p cs t (stepW (s, e0) n (bstr l)).2 ∧ Only (fun j => F j ∨ j = v) w w' := by
  rcases he with rfl | rfl
  · have H := Lib.hid (write_g w F p k m n s a cap l h hf hm hn hb ha)
    have HD := Lib.hid hd
    obtain ⟨c0, c1, _⟩ := hd.cells
    have hlt := hd.lt
    generalize stepW (s, 0) n (bstr l) = x at H ⊢
    obtain ⟨s', e'⟩ := x
    clear h hb ha hd hf
    go_enter Tryd.func24, Tryd.ntmps24
    go_wp2_with (go_at_call 46; refine H.out.mono ?_; rintro e w1 ⟨rfl, hq, hon⟩; have HQ := Lib.hid hq; have HO := Lib.hid hon; have HD1 := Lib.hid (HD.out.keep hon hv); obtain ⟨d0, d1, df⟩ := HD1.out.cells; clear hq hon)
    go_end0
    have HV : ∀ j, Gr F w w1 j → ¬ (j = v) := fun j g e => gr_new hv hlt (e ▸ g)
    exact ⟨rfl, by rw [gr_set]; exact HQ.out.keep ((Only.refl (fun j => j = v) w1).setCell (p := ⟨v, 1, none⟩) rfl _) HV, HD1.out.put e', only_put HO.out⟩
  · have HD := Lib.hid hd
    obtain ⟨c0, c1, _⟩ := hd.cells
    have hlt := hd.lt
    rw [stepW_no (s, 8) n (bstr l) rfl]
    have HH := Lib.hid h
    clear h hb ha hd hf
    go_enter Tryd.func24, Tryd.ntmps24
    go_wp2
    go_end0
    exact ⟨rfl, by rw [gr_self]; exact HH.out, HD.out, Only.refl _ _⟩
theorem dbarrierG (w : World) (F : Nat → Prop) (p k m v : Nat) (s : DSt) (e0 : Int) (cs : Array Value) (t : TypeId) (h : DiskAt w F p s) (hf : Fit s k m) (hm : m < 900000) (he : e0 = 0 ∨ e0 = 8) (hd : DevC w v p cs t e0) (hv : ¬ F v) :
    Calls Tryd.prog 26 #[.pointer (some ⟨v, 0, none⟩)] w fun e w' => e = .returned (.tuple #[]) ∧ DiskAt w' F p (stepB (s, e0)).1 ∧ DevC w' v p cs t (stepB (s, e0)).2 ∧ Only (fun j => F j ∨ j = v) w w' := by
  rcases he with rfl | rfl
  · have H := Lib.hid (barrier_g w F p k m s h hf hm)
    have HD := Lib.hid hd
    obtain ⟨c0, c1, _⟩ := hd.cells
    have hlt := hd.lt
    generalize stepB (s, 0) = x at H ⊢
    obtain ⟨s', e'⟩ := x
    clear h hd hf
    go_enter Tryd.func26, Tryd.ntmps26
    go_wp2_with (go_at_call 49; refine H.out.mono ?_; rintro e w1 ⟨rfl, hq, hon⟩; have HQ := Lib.hid hq; have HO := Lib.hid hon; have HD1 := Lib.hid (HD.out.keep hon hv); obtain ⟨d0, d1, df⟩ := HD1.out.cells; clear hq hon)
    go_end0
    exact ⟨rfl, HQ.out.keep ((Only.refl (fun j => j = v) w1).setCell (p := ⟨v, 1, none⟩) rfl _) (fun j g e => hv (e ▸ g)), HD1.out.put e', only_put HO.out⟩
  · have HD := Lib.hid hd
    obtain ⟨c0, c1, _⟩ := hd.cells
    have hlt := hd.lt
    rw [stepB_no (s, 8) rfl]
    have HH := Lib.hid h
    clear h hd hf
    go_enter Tryd.func26, Tryd.ntmps26
    go_wp2
    go_end0
    exact ⟨rfl, HH.out, HD.out, Only.refl _ _⟩
end Go.Proofs.YtcmnfbpmkndfkaaDoor
namespace Go.Proofs.YtcmnfbpmkndfkaaDoor
open Go.ChangeShapes Go.WideShapes Go.ChangeAt Go.RowKit Go.Shelf
set_option linter.unusedVariables false
set_option maxRecDepth 100000
attribute [local go_sem] Oper.semAt_some

/-- a log, and its error -/
def LogE (w : World) (g p : Nat) (s : LSt) (e : Int) : Prop := DevC w g p (s.cells p) 63 e
theorem LogAt.e {w : World} {g p : Nat} {s : LSt} (h : LogAt w g p s) : LogE w g p s 0 := ⟨h, rfl, by show 1 < 8; decide⟩
theorem LogE.at0 {w : World} {g p : Nat} {s : LSt} (h : LogE w g p s 0) : LogAt w g p s := h.1
theorem LogE.keep {w w' : World} {F : Nat → Prop} {g p : Nat} {s : LSt} {e : Int} (h : LogE w g p s e) (ho : Only F w w') (hg : ¬ F g) : LogE w' g p s e := DevC.keep h ho hg
theorem LogE.below {w w' : World} {g p : Nat} {s : LSt} {e : Int} (h : LogE w g p s e) (hb : Below w.heap.size w w') : LogE w' g p s e := DevC.below h hb
theorem LogE.lt {w : World} {g p : Nat} {s : LSt} {e : Int} (h : LogE w g p s e) : g < w.heap.size := DevC.lt h
theorem LogE.heap {w : World} {g p : Nat} {s : LSt} {e : Int} (h : LogE w g p s e) : w.heap[g]? = some (.cells #[.pointer (some ⟨p, 0, none⟩), .int .i64 e, .int .i64 (s.f : Int), .int .i64 (s.c : Int), .int .i64 (s.head : Int), .int .i64 (s.age : Int), .int .i64 (s.number : Int), .int .i64 (s.used : Int)] 63) := h.1
theorem LogE.of_heap {w : World} {g p : Nat} {s : LSt} {e : Int} (h : w.heap[g]? = some (.cells #[.pointer (some ⟨p, 0, none⟩), .int .i64 e, .int .i64 (s.f : Int), .int .i64 (s.c : Int), .int .i64 (s.head : Int), .int .i64 (s.age : Int), .int .i64 (s.number : Int), .int .i64 (s.used : Int)] 63)) : LogE w g p s e := ⟨h, rfl, by show 1 < 8; decide⟩
theorem LogE.at_ {w : World} {g p : Nat} {s : LSt} {e : Int} (h : LogE w g p s e) : w.cell? ⟨g, 2, none⟩ = some (.int .i64 (s.f : Int)) ∧ w.cell? ⟨g, 3, none⟩ = some (.int .i64 (s.c : Int)) ∧ w.cell? ⟨g, 4, none⟩ = some (.int .i64 (s.head : Int)) ∧ w.cell? ⟨g, 5, none⟩ = some (.int .i64 (s.age : Int)) ∧ w.cell? ⟨g, 6, none⟩ = some (.int .i64 (s.number : Int)) ∧ w.cell? ⟨g, 7, none⟩ = some (.int .i64 (s.used : Int)) ∧ ∀ i, w.frozen? ⟨g, i, none⟩ = false := by
  have h := h.heap
  refine ⟨?_, ?_, ?_, ?_, ?_, ?_, fun i => ?_⟩
  all_goals first | (simp only [World.cell?, h]; rfl) | simp [World.frozen?, h]
theorem left_e (w : World) (g p : Nat) (s : LSt) (e0 : Int) (h : LogE w g p s e0) (hu : s.used ≤ s.c) (hc : s.c ≤ 65536) :
    Calls Tryd.prog 30 #[.pointer (some ⟨g, 0, none⟩)] w fun e w' => e = .returned (.int .i64 ((s.c - s.used : Nat) : Int)) ∧ ∃ n, w' = w.drewN n := by
  obtain ⟨c2, c3, c4, c5, c6, c7, cf⟩ := h.at_
  have hsub : ((s.c - s.used : Nat) : Int) = (s.c : Int) - (s.used : Int) := by omega
  rw [hsub]
  clear c2 c4 c5 c6 cf h
  clear hsub
  go_enter Tryd.func30, Tryd.ntmps30
  go_wp2_with fail
  go_quiet (fail)
  go_wp2_with fail
  go_ret
  exact ⟨rfl, _, rfl⟩
theorem room_e (w : World) (g p : Nat) (s : LSt) (e0 : Int) (h : LogE w g p s e0) (hu : s.used ≤ s.c) (hc : s.c ≤ 30000) :
    Calls Tryd.prog 11 #[.pointer (some ⟨g, 0, none⟩)] w fun e w' => e = .returned (.int .i64 (roomL s)) ∧ ∃ n, w' = w.drewN n := by
  have HL : Hid (∀ W, (∃ n, W = w.drewN n) → Calls Tryd.prog 30 #[.pointer (some ⟨g, 0, none⟩)] W fun e w' => e = .returned (.int .i64 ((s.c - s.used : Nat) : Int)) ∧ ∃ n, w' = w.drewN n) := Lib.hid (fun W hW => by
    obtain ⟨n, rfl⟩ := hW
    refine (left_e (w.drewN n) g p s e0 (h.below (below_dN w n)) hu (by omega)).mono ?_
    rintro e w' ⟨rfl, m, rfl⟩
    exact ⟨rfl, n + m, by simp [World.drewN, Nat.add_assoc]⟩)
  have hk : s.c - s.used ≤ 30000 := by omega
  unfold roomL
  clear h
  generalize s.c - s.used = k at *
  by_cases h0 : k = 0
  · subst h0
    rw [if_pos rfl]
    go_enter Tryd.func11, Tryd.ntmps11
    go_wp2_with (go_at_call 30; refine (HL.out _ ⟨0, rfl⟩).mono ?_; rintro e w1 ⟨rfl, n1, rfl⟩)
    go_ret
    exact ⟨rfl, _, rfl⟩
  · rw [if_neg h0]
    have h0i : ((k : Int) == 0) = false := by simp; omega
    have h1 : (((k - 1) * 511 : Nat) : Int) = ((k : Int) - 1) * 511 := by omega
    have h2 : min (((k : Int) - 1) * 511) 16777216 = ((k : Int) - 1) * 511 := by omega
    rw [h1]
    go_enter Tryd.func11, Tryd.ntmps11
    go_wp2_with (first
      | (go_at_call_of 30 g; first | (refine (HL.out _ ⟨0, rfl⟩).mono ?_; rintro e w1 ⟨rfl, n1, rfl⟩) | (refine (HL.out _ ⟨_, rfl⟩).mono ?_; rintro e w1 ⟨rfl, n2, rfl⟩)))
    go_ret
    exact ⟨by first | rfl | exact ret_int (by go_num), _, rfl⟩
/-- of a disk's blocks just the cells -/
theorem DiskAt.shrink {w : World} {F : Nat → Prop} {p : Nat} {s : DSt} (h : DiskAt w F p s) : DiskAt w (fun k => F k ∧ Cells w k) p s := by
  obtain ⟨lb, nb, lc, nc, wv, h1, h2, h3, h4, h5, h6, h7, h8, h9, h10, h11⟩ := h
  obtain ⟨c1, e1⟩ := row_heap h2
  obtain ⟨c2, e2⟩ := row_heap h3
  refine ⟨lb, nb, lc, nc, wv, h1, h2, h3, h4, h5, ⟨h6, _, h1, rfl⟩, ⟨h7, _, e1, rfl⟩, ⟨h8, _, e2, rfl⟩, fun g hg => ⟨h9 g hg, ?_⟩, h10, fun k hk => h11 k hk.1⟩
  obtain ⟨c3, e3⟩ := row_heap' h4 hg
  exact ⟨_, e3, rfl⟩
def wrG (x : DSt × Int) (at_ : Nat) (B : List Nat) {n : Nat} (xs : List (Part n)) : (DSt × Int) × Nat := xs.foldl (fun y z => (stepW y.1 y.2 (partSec B z.1), y.2 + 1)) (x, at_)
theorem wrG_snoc (x : DSt × Int) (at_ : Nat) (B : List Nat) {n : Nat} (xs : List (Part n)) (z : Part n) : wrG x at_ B (xs ++ [z]) = (stepW (wrG x at_ B xs).1 (at_ + xs.length) (partSec B z.1), at_ + xs.length + 1) := by
  have h : (wrG x at_ B xs).2 = at_ + xs.length := by
    unfold wrG
    suffices g : ∀ (ys : List (Part n)) (y : (DSt × Int) × Nat), (ys.foldl (fun y z => (stepW y.1 y.2 (partSec B z.1), y.2 + 1)) y).2 = y.2 + ys.length from g xs (x, at_)
    intro ys
    induction ys with
    | nil => intro y; rfl
    | cons y ys ih => intro s; rw [List.foldl_cons, ih]; simp; omega
  have e : wrG x at_ B (xs ++ [z]) = (stepW (wrG x at_ B xs).1 (wrG x at_ B xs).2 (partSec B z.1), (wrG x at_ B xs).2 + 1) := by
    unfold wrG
    rw [List.foldl_append]
    rfl
  rw [e, h]
def partsG (x : DSt × Int) (at_ : Nat) (B : List Nat) : Nat → DSt × Int
  | 0 => x
  | k + 1 => stepW (partsG x at_ B k) (at_ + k) (partSec B k)
theorem wrG_upto (x : DSt × Int) (at_ : Nat) (B : List Nat) (n k : Nat) (h : k ≤ sectorsN n) : (wrG x at_ B (partsUpto n k)).1 = partsG x at_ B k := by
  induction k with
  | zero => rfl
  | succ k ih =>
    rw [partsUpto_succ n k (by unfold sectorsN at h; omega), wrG_snoc, ih (by omega), partsUpto_length n k (by omega)]
    rfl
theorem partSec_size (B : List Nat) (j : Nat) : (partSec B j).size = 512 := by
  unfold partSec bytesL
  rw [size_bstr]
  refine padL_length _ ?_
  rw [List.length_cons, List.length_take]
  omega
/-- what Append makes of disk and error -/
def appG (x : DSt × Int) (s : LSt) (B : List Nat) : DSt × Int := stepB (stepW (stepB (partsG x (s.f + s.used + 1) B (sectorsN B.length))) (s.f + s.used) (bstr (startL (s.age : Int) (s.number : Int) B)))
/-- a disk of k sectors and at most m changes, and an error that may be -/
structure FitE (x : DSt × Int) (k m : Nat) : Prop where
  fit : Fit x.1 k m
  err : x.2 = 0 ∨ x.2 = 8
theorem FitE.stepW {x : DSt × Int} {k m : Nat} (h : FitE x k m) (n : Nat) (hn : n < k) (b : ByteArray) (hb : b.size = 512) : FitE (Go.Proofs.YtcmnfbpmkndfkaaDoor.stepW x n b) k (m + 1) := ⟨h.fit.stepW (e := x.2) n hn b hb, stepW_err x n b h.err⟩
theorem FitE.stepB {x : DSt × Int} {k m : Nat} (h : FitE x k m) : FitE (Go.Proofs.YtcmnfbpmkndfkaaDoor.stepB x) k (m + 1) := ⟨h.fit.stepB (e := x.2), stepB_err x h.err⟩
theorem FitE.wrG {x : DSt × Int} {k m : Nat} (h : FitE x k m) (at_ : Nat) (B : List Nat) {n : Nat} (xs : List (Part n)) (ha : at_ + xs.length ≤ k) : FitE (Go.Proofs.YtcmnfbpmkndfkaaDoor.wrG x at_ B xs).1 k (m + xs.length) := by
  suffices g : ∀ (ys : List (Part n)) (y : (DSt × Int) × Nat) (m : Nat), FitE y.1 k m → y.2 + ys.length ≤ k → FitE (ys.foldl (fun y z => (Go.Proofs.YtcmnfbpmkndfkaaDoor.stepW y.1 y.2 (partSec B z.1), y.2 + 1)) y).1 k (m + ys.length) from g xs (x, at_) m h ha
  intro ys
  induction ys with
  | nil => intro y m h _; exact h
  | cons z ys ih =>
    intro y m h ha
    rw [List.length_cons] at ha
    rw [List.foldl_cons, List.length_cons, show m + (ys.length + 1) = m + 1 + ys.length by omega]
    exact ih _ _ (h.stepW _ (by omega) _ (partSec_size B z.1)) (by show y.2 + 1 + ys.length ≤ k; omega)
/-- the blocks of the walk's own -/
structure LoopyG (w0 W : World) (F : Nat → Prop) (g p Bl Bat Bs Bn st n cap : Nat) (a : Option Addr) (s : LSt) (x : DSt × Int) (k : Nat) : Prop where
  disk : ∃ F', DiskAt W F' p x.1 ∧ (∀ j, F' j → (F j ∨ w0.heap.size ≤ j) ∧ Cells W j) ∧ ¬ F' g ∧ ¬ F' Bl ∧ ¬ F' Bat ∧ ¬ F' Bs ∧ ¬ F' Bn
  log : LogE W g p s x.2
  only : Only (fun j => F j ∨ j = g) w0 W
  bl : W.heap[Bl]? = some (.cells #[.pointer (some ⟨g, 0, none⟩)] 25)
  bat : W.heap[Bat]? = some (.cells #[.int .i64 ((st + k : Nat) : Int)] 3)
  bs : W.heap[Bs]? = some (.cells #[.slice a n cap] 34)
  bn : W.heap[Bn]? = some (.cells #[.int .i64 511] 3)
section
variable {w0 W : World} {F : Nat → Prop} {g p Bl Bat Bs Bn st n cap : Nat} {a : Option Addr} {s : LSt} {x : DSt × Int} {k : Nat}
theorem LoopyG.turn {W' : World} {row : Option Nat} {b0 : Nat} (h : LoopyG w0 W F g p Bl Bat Bs Bn st n cap a s x k) (hg : W.grownBy W' row) (h0 : w0.heap.size ≤ b0) (hr : ∀ r, row = some r → b0 ≤ r ∧ ∃ o : Obj, W.heap[r]? = some o ∧ o.isCells = false) : LoopyG w0 W' F g p Bl Bat Bs Bn st n cap a s x k := by
  have hkeep : ∀ j (o : Obj), W.heap[j]? = some o → o.isCells = true → W'.heap[j]? = some o := fun j o hj ho => by
    rw [hg.block j (heap_lt hj) (fun e => by
      obtain ⟨_, o', ho', hc⟩ := hr j e.symm
      rw [hj] at ho'
      obtain rfl := Option.some.inj ho'
      rw [ho] at hc
      cases hc)]
    exact hj
  obtain ⟨⟨F', hq, hF, h1, h2, h3, h4, h5⟩, hlog, honly, hbl, hbat, hbs, hbn⟩ := h
  refine ⟨⟨F', hq.keep (G := fun j => row = some j) ⟨hg.os, hg.tape, hg.output, hg.size, fun j hj hne => hg.block j hj (fun e => hne e.symm)⟩ (fun j hj e => ?_), fun j hj => ⟨(hF j hj).1, ?_⟩, h1, h2, h3, h4, h5⟩, LogE.of_heap (hkeep _ _ hlog.heap rfl), ?_, hkeep _ _ hbl rfl, hkeep _ _ hbat rfl, hkeep _ _ hbs rfl, hkeep _ _ hbn rfl⟩
  · obtain ⟨_, o', ho', hc⟩ := hr j e
    obtain ⟨o, ho, hc'⟩ := (hF j hj).2
    rw [ho] at ho'
    obtain rfl := Option.some.inj ho'
    rw [hc'] at hc
    cases hc
  · obtain ⟨o, ho, hc'⟩ := (hF j hj).2
    exact ⟨o, hkeep j o ho hc', hc'⟩
  · exact honly.grown hg (fun r e => .inr (Nat.le_trans h0 (hr r e).1))
theorem LoopyG.step {Wx w' : World} {F' : Nat → Prop} {x' : DSt × Int} (hW0 : w0.heap.size ≤ Bat) (h : LoopyG w0 W F g p Bl Bat Bs Bn st n cap a s x k) (hF : ∀ j, F' j → (F j ∨ w0.heap.size ≤ j) ∧ Cells W j) (hns : ¬ F' g ∧ ¬ F' Bl ∧ ¬ F' Bat ∧ ¬ F' Bs ∧ ¬ F' Bn) (hd : Bat ≠ g ∧ Bat ≠ Bl ∧ Bat ≠ Bs ∧ Bat ≠ Bn) (hd' : Bl ≠ g ∧ Bs ≠ g ∧ Bn ≠ g)
    (hx : Gl (W.setCell ⟨Bat, 0, none⟩ (.int .i64 ((st + (k + 1) : Nat) : Int))) Wx) (hq : DiskAt w' (Gr F' Wx w') p x'.1) (hlg : LogE w' g p s x'.2) (ho : Only (fun j => F' j ∨ j = g) Wx w') :
    KeepsOthers W w' ∧ ChunkKeeps Bs Bn W w' ∧ LoopyG w0 w' F g p Bl Bat Bs Bn st n cap a s x' (k + 1) := by
  obtain ⟨_, hlog, honly, hbl, hbat, hbs, hbn⟩ := h
  obtain ⟨n1, n2, n3, n4, n5⟩ := hns
  obtain ⟨e1, e2, e3, e4⟩ := hd
  obtain ⟨e5, e6, e7⟩ := hd'
  have hsz : (W.setCell ⟨Bat, 0, none⟩ (.int .i64 ((st + (k + 1) : Nat) : Int))).heap.size = W.heap.size := by simp only [World.setCell, Array.size_modify]
  have hxs : W.heap.size ≤ Wx.heap.size := by rw [← hsz]; exact hx.size
  have hk : ∀ j (o : Obj), W.heap[j]? = some o → j ≠ Bat → ¬ F' j → j ≠ g → w'.heap[j]? = some o := fun j o hj hne hn hng => by
    have hl := heap_lt hj
    rw [ho.block j (Nat.lt_of_lt_of_le hl hxs) (fun e => e.elim hn hng), hx.block j (by rw [hsz]; exact hl), Below.heap_setCell W _ _ j hne]
    exact hj
  have hbl' := heap_lt hbl
  have hbs' := heap_lt hbs
  have hbn' := heap_lt hbn
  have hg' := heap_lt hlog.heap
  have hba' := heap_lt hbat
  refine ⟨⟨Nat.le_trans hxs ho.size, fun j o hj hc => hk j o hj (fun e => ?_) (fun e => ?_) (fun e => ?_)⟩, ⟨(hk _ _ hbs e3.symm n4 e6).trans hbs.symm, (hk _ _ hbn e4.symm n5 e7).trans hbn.symm⟩, ⟨⟨_, hq.shrink, fun j hj => ⟨?_, hj.2⟩, fun x => gr_new n1 (by omega) x.1, fun x => gr_new n2 (by omega) x.1, fun x => gr_new n3 (by omega) x.1, fun x => gr_new n4 (by omega) x.1, fun x => gr_new n5 (by omega) x.1⟩, hlg, ?_, hk _ _ hbl e2.symm n2 e5, ?_, hk _ _ hbs e3.symm n4 e6, hk _ _ hbn e4.symm n5 e7⟩⟩
  · subst e
    rw [hbat] at hj
    obtain rfl := Option.some.inj hj
    cases hc
  · obtain ⟨o', ho', hc'⟩ := (hF j e).2
    rw [hj] at ho'
    obtain rfl := Option.some.inj ho'
    rw [hc'] at hc
    cases hc
  · subst e
    rw [hlog.heap] at hj
    obtain rfl := Option.some.inj hj
    cases hc
  · rcases hj.1 with hj | hj
    · exact (hF j hj).1
    · right
      have := honly.size
      omega
  · have o1 : Only (fun j => F j ∨ j = g) w0 (W.setCell ⟨Bat, 0, none⟩ (.int .i64 ((st + (k + 1) : Nat) : Int))) := honly.grown (grownBy_setCell' W Bat _) (fun j e => .inr (by obtain rfl := Option.some.inj e; exact hW0))
    refine only_gr (o1.trans (Only.of_below hx)) ho (fun j hj => ?_)
    rcases hj with hj | hj
    · rcases (hF j hj).1 with h1 | h1
      · exact .inl (.inl h1)
      · obtain ⟨o, ho', _⟩ := (hF j hj).2
        have := heap_lt ho'
        exact .inr ⟨h1, by omega⟩
    · exact .inl (.inr hj)
  · rw [ho.block Bat (by omega) (fun e => e.elim n3 e1), hx.block Bat (by rw [hsz]; exact hba'), set_put W Bat 0 _ hbat]
    rfl
end
end Go.Proofs.YtcmnfbpmkndfkaaDoor
namespace Go.Proofs.YtcmnfbpmkndfkaaDoor
open Go.ChangeShapes Go.WideShapes Go.ChangeAt Go.RowKit Go.Shelf
set_option linter.unusedVariables false
set_option maxRecDepth 100000
attribute [local go_sem] Oper.semAt_some

set_option maxHeartbeats 4000000 in
theorem append_gz (w : World) (F : Nat → Prop) (g p k0 m n cap : Nat) (a : Option Addr) (s : LSt) (y0 : DSt × Int) (B : List Nat) (h : DiskAt w F p y0.1) (hfit : FitE y0 k0 m) (hl : LogE w g p s y0.2) (hg : ¬ F g) (hB : ByteRow w a n B) (hnc : n ≤ cap) (hcm : cap ≤ maxLen) (ha : 0 < n → ∀ x, a = some x → ¬ F x.block ∧ x.block ≠ g)
    (hu : s.used + (1 + sectorsN n) ≤ s.c) (hc : s.c ≤ 30000) (hf : s.f + s.c ≤ k0) (hN : k0 ≤ 65536) (hage : s.age < 4611686018427387904) (hnum : s.number ≤ 65536) (hm : m + sectorsN n + 5 < 900000) (ht : Cr.Tab w) (hF : ¬ F 0) (hgq : g ≠ 0) (s4 : DSt) (hy : appG y0 s B = (s4, 0)) :
    Calls Tryd.prog 8 #[.pointer (some ⟨g, 0, none⟩), .slice a n cap] w fun e w' => e = .returned (.int .i64 0) ∧ LogE w' g p (s.passed n) 0 ∧ (∃ F', DiskAt w' F' p s4 ∧ ∀ k, F' k → Gr F w w' k ∧ k ≠ g) ∧ Only (fun k => F k ∨ k = g) w w' := by
  have hK : sectorsN n ≤ 30000 := by omega
  have hn46 : n ≤ 70368744177664 := by unfold sectorsN at hK; omega
  obtain ⟨R, hR⟩ : ∃ R : Nat, roomL s = (R : Int) ∧ n ≤ R ∧ n ≤ 16777216 := by
    refine ⟨(s.c - s.used - 1) * 511, ?_, ?_, ?_⟩
    · unfold roomL; rw [if_neg (by omega)]
    · unfold sectorsN at hu; omega
    · unfold sectorsN at hu; omega
  obtain ⟨hR1, hR2, hR3⟩ := hR
  have hR2i : (n : Int) ≤ (R : Int) := by omega
  have hR3i : (n : Int) ≤ 16777216 := by omega
  have hut : s.used < s.c := by omega
  obtain ⟨st, hst⟩ : ∃ st, st = s.f + s.used := ⟨_, rfl⟩
  have hstl : st + sectorsN n + 1 ≤ k0 := by omega
  have hst65 : st ≤ 65536 := by omega
  have hsti : (s.f : Int) + (s.used : Int) = (st : Int) := by omega
  have HQ := Lib.hid h
  have HL := Lib.hid hl
  have HT := Lib.hid ht
  have HB := Lib.hid hB
  have HRoom : Hid (∀ W, Below w.heap.size w W → Calls Tryd.prog 11 #[.pointer (some ⟨g, 0, none⟩)] W fun e w' => e = .returned (.int .i64 (R : Int)) ∧ Below W.heap.size W w') := Lib.hid (fun W hb => by
    have h := room_e W g p s y0.2 (hl.below hb) (Nat.le_of_lt hut) hc
    rw [hR1] at h
    refine h.mono ?_
    rintro e w' ⟨rfl, k, rfl⟩
    exact ⟨rfl, below_dN W k⟩)
  have hglt := hl.lt
  have hsb := hB.1
  have happ : stepB (stepW (stepB (partsG y0 (st + 1) B (sectorsN n))) st (bstr (startL (s.age : Int) (s.number : Int) B))) = (s4, 0) := by
    rw [← hy]
    unfold appG
    rw [hsb, ← hst]
  have HY := Lib.hid happ
  have HFIT := Lib.hid hfit
  clear happ hsb hy hfit
  have HST := Lib.hid hst
  have HSTi := Lib.hid hsti
  clear hst hsti h hl ht hB hR1
  refine (callsIn_wide (n := 9)).1 ?_
  refine callsIn_of_wp_marks Tryd.func8 rfl trivial ?_ rfl
  simp only [Tryd.ntmps8, List.size_toArray, List.length_cons, List.length_nil, Nat.reduceAdd, Nat.reduceSub, Array.replicate_succ, Array.replicate_zero, List.push_toArray, List.append_toArray, List.nil_append, List.cons_append]
  have HB1 : Hid (Below w.heap.size w (w.alloc (.cells #[.pointer (some ⟨g, 0, none⟩)] 25))) := Lib.hid ((Below.refl _ _).alloc (Nat.le_refl _) _)
  refine wpIn_wide.2 ?_
  go_wp2_with (go_at_call 11; refine (HRoom.out _ HB1.out).mono ?_; rintro e w2 ⟨rfl, hb⟩; have HB2 := Lib.hid (Below.step hb HB1.out HB1.out.size); have HSz := Lib.hid (show w.heap.size < w2.heap.size by have := hb.size; rw [size_alloc'] at this; omega); have HBl : Hid (w2.heap[w.heap.size]? = some (.cells #[.pointer (some ⟨g, 0, none⟩)] 25)) := Lib.hid ((hb.block _ (by rw [size_alloc']; omega)).trans (World.alloc_heap_new w _)); clear hb)
  have HW7 : Hid (∀ W, Gl w2.drew W → W.cell? ⟨w.heap.size, 0, none⟩ = some (.pointer (some ⟨g, 0, none⟩)) ∧ W.cell? ⟨g, 2, none⟩ = some (.int .i64 (s.f : Int)) ∧ W.cell? ⟨g, 7, none⟩ = some (.int .i64 (s.used : Int))) := Lib.hid (fun W hW => by
    have hl := ((HL.out.below HB2.out).below hW.undrew).at_
    refine ⟨?_, hl.1, hl.2.2.2.2.2.1⟩
    rw [World.cell?_of_block (hW.undrew.block _ HSz.out)]
    simp only [World.cell?, HBl.out]
    rfl)
  have hw1 : IntKind.i64.wrap ((s.f : Int) + (s.used : Int)) = (st : Int) := by rw [HSTi.out]; exact wrap_idk _ (by omega) (by omega)
  have hw2 : wrap64 ((s.f : Int) + (s.used : Int)) = (st : Int) := by rw [HSTi.out]; exact wrap_id _ (by omega) (by omega)
  refine wp_region_inv_lit [.is (.pointer (some ⟨g, 0, none⟩)), .is (.pointer (some ⟨g, 0, none⟩)), .is (.pointer (some ⟨g, 2, none⟩)), .is (.int .i64 (s.f : Int)),
    .is (.pointer (some ⟨g, 0, none⟩)), .is (.pointer (some ⟨g, 0, none⟩)), .is (.pointer (some ⟨g, 7, none⟩)), .is (.int .i64 (s.used : Int)), .is (.int .i64 (st : Int)), .is (.int .i64 (st : Int))] (by kernel_rfl) (by kernel_rfl) ?_
  repeat1' (refine wpInv_is ?_ ?_; (focus (intro W hW hF K hK; clear hF; obtain ⟨d0, d2, d7⟩ := HW7.out W hW; go_simp; exact hK _ _ (Gl.refl _) rfl)); simp only [Act.put, List.setIfInBounds_toArray, List.set_cons_zero, List.set_cons_succ])
  refine wpInv_end ?_
  intro w7 hW hF
  have HB7 := Lib.hid (Below.step hW.undrew HB2.out HB2.out.size)
  have HSz7 : Hid (w.heap.size < w7.heap.size) := Lib.hid (Nat.lt_of_lt_of_le HSz.out hW.undrew.size)
  have HBl7 : Hid (w7.heap[w.heap.size]? = some (.cells #[.pointer (some ⟨g, 0, none⟩)] 25)) := Lib.hid ((hW.undrew.block _ HSz.out).trans HBl.out)
  clear hW hF HW7 hw1 hw2
  go_wp2_with (go_at_call 23; refine (chunk_any a n cap _).mono ?_; rintro e w8 ⟨rfl, rfl⟩)
  obtain ⟨w0, hw0⟩ : ∃ w0, w0 = ((w7.alloc (.cells #[.int .i64 (st : Int)] 3)).alloc (.cells #[.slice a n cap] 34)).alloc (.cells #[.int .i64 511] 3) := ⟨_, rfl⟩
  rw [← hw0]
  have hs0 : w0.heap.size = w7.heap.size + 3 := by rw [hw0, size_alloc', size_alloc', size_alloc']
  have hb70 : Below w7.heap.size w7 w0 := by rw [hw0]; exact (((Below.refl _ _).alloc (Nat.le_refl _) _).alloc (by rw [size_alloc']; omega) _).alloc (by rw [size_alloc', size_alloc']; omega) _
  have k1 : w0.heap[w7.heap.size]? = some (.cells #[.int .i64 ((st + 0 : Nat) : Int)] 3) := by rw [hw0, Below.heap_alloc _ _ _ (by rw [size_alloc', size_alloc']; omega), Below.heap_alloc _ _ _ (by rw [size_alloc']; omega)]; exact World.alloc_heap_new w7 _
  have k2 : w0.heap[w7.heap.size + 1]? = some (.cells #[.slice a n cap] 34) := by rw [hw0, Below.heap_alloc _ _ _ (by rw [size_alloc', size_alloc']; omega)]; have := World.alloc_heap_new (w7.alloc (.cells #[.int .i64 (st : Int)] 3)) (.cells #[.slice a n cap] 34); rw [size_alloc'] at this; exact this
  have k3 : w0.heap[w7.heap.size + 1 + 1]? = some (.cells #[.int .i64 511] 3) := by rw [hw0]; have := World.alloc_heap_new ((w7.alloc (.cells #[.int .i64 (st : Int)] 3)).alloc (.cells #[.slice a n cap] 34)) (.cells #[.int .i64 511] 3); rw [size_alloc', size_alloc'] at this; exact this
  have hb0 : Below w.heap.size w w0 := Below.step hb70 HB7.out HB7.out.size
  have h77 := HB7.out.size
  have hLoop0 : LoopyG w w0 F g p w.heap.size w7.heap.size (w7.heap.size + 1) (w7.heap.size + 1 + 1) st n cap a s (wrG y0 (st + 1) B ([] : List (Part n))).1 0 := by
    refine ⟨⟨_, ((HQ.out.below hb0).shrink : DiskAt w0 (fun k => F k ∧ Cells w0 k) p y0.1), fun j hj => ⟨.inl hj.1, hj.2⟩, fun x => hg x.1, fun x => ?_, fun x => ?_, fun x => ?_, fun x => ?_⟩, HL.out.below hb0, Only.of_below hb0, (hb70.block _ HSz7.out).trans HBl7.out, k1, k2, k3⟩
    all_goals (have := HQ.out.lts _ x.1; omega)
  have HLoop0 := Lib.hid hLoop0
  have HS0 := Lib.hid hs0
  have HSz0 : Hid (w.heap.size ≤ w0.heap.size) := Lib.hid (by omega)
  have c2 : w0.cell? ⟨w7.heap.size + 1, 0, none⟩ = some (.slice a n cap) := by simp only [World.cell?, k2]; rfl
  have c3 : w0.cell? ⟨w7.heap.size + 1 + 1, 0, none⟩ = some (.int .i64 511) := by simp only [World.cell?, k3]; rfl
  have HA : Hid (0 < n → ∃ b o, a = some ⟨b, o, none⟩) := Lib.hid (fun h0 => by obtain ⟨b, o, e, _⟩ := HB.out.2.2.2 h0; exact ⟨b, o, e⟩)
  clear hw0 hb70 k1 k2 k3 hb0 hLoop0
  refine (wpIn_wide (n := 8)).1 ?_
  refine wpIn_rangeFunc_ownF rfl (by decide) (gf := 45) (lb := #[.pointer (some ⟨w7.heap.size + 1, 0, none⟩), .pointer (some ⟨w7.heap.size + 1 + 1, 0, none⟩)]) rfl trivial (enters_of Tryd.func45 (by kernel_rfl) rfl)
    (chunk_stops 7 (w7.heap.size + 1) (w7.heap.size + 1 + 1) n cap a (by decide) hnc hcm hn46 w0 HA.out c2 c3) (fun h k => ⟨k.1.trans h.1, k.2.trans h.2⟩) (fun W l o o' hl _ _ _ => ⟨World.putObj_heap_other (by omega), World.putObj_heap_other (by omega)⟩) (Below.refl _ _) (fun _ => rfl)
    (fun pre W => LoopyG w W F g p w.heap.size w7.heap.size (w7.heap.size + 1) (w7.heap.size + 1 + 1) st n cap a s (wrG y0 (st + 1) B pre).1 pre.length)
    (fun _ _ _ => False)
    (fun pre W W' row hs hg hr => hs.turn hg HSz0.out hr)
    (fun _ _ _ _ _ hs _ _ => hs)
    HLoop0.out
    (fun x => { tmps := #[.pointer (some ⟨g, 0, none⟩), .slice a n cap, .pointer (some ⟨w.heap.size, 0, none⟩), undef, .int .i64 0, .int .i64 (st : Int), .pointer (some ⟨w7.heap.size, 0, none⟩), partOf a n x.1, .bool false, .pointer (some ⟨g, 0, none⟩), .bool false, .bool (decide ((16777216 : Int) < (n : Int))), .slice a n cap, .int .i64 (n : Int), .bool (decide ((16777216 : Int) < (n : Int))), .bool false, .slice a n cap, .int .i64 (n : Int), .pointer (some ⟨g, 0, none⟩), .int .i64 (R : Int), .bool false, .pointer (some ⟨g, 0, none⟩), .pointer (some ⟨g, 0, none⟩), .pointer (some ⟨g, 2, none⟩), .int .i64 (s.f : Int), .pointer (some ⟨g, 0, none⟩), .pointer (some ⟨g, 0, none⟩), .pointer (some ⟨g, 7, none⟩), .int .i64 (s.used : Int), .int .i64 (st : Int), .int .i64 (st : Int), .slice a n cap, .func (.func 45) #[] #[.pointer (some ⟨w7.heap.size + 1, 0, none⟩), .pointer (some ⟨w7.heap.size + 1 + 1, 0, none⟩)], partOf a n x.1, undef, undef, undef, undef, undef, undef, undef, undef, undef, undef, undef, undef, undef, undef, undef, undef, undef, undef, undef, undef, undef, undef, undef, undef, undef, undef, undef, undef, undef, undef, undef, undef, undef, undef, undef, undef, undef, undef, undef, undef, undef, undef, undef, undef, undef, undef, undef], defers := [] }) ?assign ?body ?done ?stop
  case assign =>
    intro l x W K hK
    gi_wp2
    exact hK
  case stop =>
    intro D c pre W _ _ hx _
    exact hx.elim
  case body =>
    rintro l pre x W hI hlen
    obtain ⟨b, o, hab⟩ := HA.out (by have := x.2; omega)
    obtain ⟨C, hC⟩ : ∃ C, C = (B.drop (511 * x.1)).take 511 := ⟨_, rfl⟩
    obtain ⟨qn, hqn⟩ : ∃ qn, qn = min 511 (n - 511 * x.1) := ⟨_, rfl⟩
    have hq0 : 0 < qn := by have := x.2; omega
    have hq511 : qn ≤ 511 := by omega
    have hpo : partOf a n x.1 = .slice (some ⟨b, o + 511 * x.1, none⟩) qn qn := by rw [hab, hqn]; rfl
    obtain ⟨q, hq⟩ : ∃ q, q = st + pre.length := ⟨_, rfl⟩
    have hql : q + 1 < k0 := by omega
    have hfx : FitE (wrG y0 (st + 1) B pre).1 k0 (m + pre.length) := HFIT.out.wrG (st + 1) B pre (by omega)
    have HFX := Lib.hid hfx
    clear hfx
    have hq65 : q ≤ 100000 := by omega
    have HI := Lib.hid hI
    obtain ⟨⟨F', hqd, hF', hns⟩, hlog, honly, hbl, hbat, hbs, hbn⟩ := hI
    rw [← hq] at hbat
    have hbB : b < w.heap.size := by
      obtain ⟨b', o', e, hc⟩ := HB.out.2.2.2 (by have := x.2; omega)
      rw [hab] at e
      injection e with e
      injection e with e1 e2
      have := cell_lt (hc 0 (by have := x.2; omega))
      dsimp only at this
      omega
    have hrow : ByteRow W (some ⟨b, o + 511 * x.1, none⟩) qn C := by
      have h1 := HB.out.only honly (fun y hy e => e.elim (ha (by have := x.2; omega) y hy).1 (ha (by have := x.2; omega) y hy).2)
      rw [hab] at h1
      have h2 := row_part_of h1 x
      rw [← hC, ← hqn] at h2
      exact h2
    have HROW := Lib.hid hrow
    have HQD := Lib.hid hqd
    have HF' := Lib.hid hF'
    have HNS := Lib.hid hns
    have HLG := Lib.hid hlog
    have HQQ := Lib.hid hq
    have HCC := Lib.hid hC
    have d1 : W.cell? ⟨w.heap.size, 0, none⟩ = some (.pointer (some ⟨g, 0, none⟩)) := by simp only [World.cell?, hbl]; rfl
    have d2 : W.cell? ⟨w7.heap.size, 0, none⟩ = some (.int .i64 (q : Int)) := by simp only [World.cell?, hbat]; rfl
    have f2 : W.frozen? ⟨w7.heap.size, 0, none⟩ = false := by simp [World.frozen?, hbat]
    have hBl := heap_lt hbl
    have hBat := heap_lt hbat
    have hGl := heap_lt hlog.heap
    have hne : w.heap.size ≠ w7.heap.size := by have := HSz7.out; omega
    have hGne : g ≠ w7.heap.size := by have := HSz7.out; omega
    have hbne : b ≠ w7.heap.size := by have := HSz7.out; omega
    clear hC hqn hq hqd hF' hns hlog honly hbl hbat hbs hbn hrow
    rw [hpo]
    clear hpo
    gi_wp2
    have hW1 : Only (fun j => j = w7.heap.size) W (W.setCell ⟨w7.heap.size, 0, none⟩ (.int .i64 ((q : Int) + 1))) := (Only.refl (fun j => j = w7.heap.size) W).setCell (p := ⟨w7.heap.size, 0, none⟩) rfl _
    have e1 : W.setCell ⟨w7.heap.size, 0, none⟩ (.int .i64 ((q : Int) + 1)) = W.setCell ⟨w7.heap.size, 0, none⟩ (.int .i64 ((st + (pre.length + 1) : Nat) : Int)) := by
      rw [show ((st + (pre.length + 1) : Nat) : Int) = (q : Int) + 1 by have := HQQ.out; omega]
    have c1 : (W.setCell ⟨w7.heap.size, 0, none⟩ (.int .i64 ((q : Int) + 1))).cell? ⟨w.heap.size, 0, none⟩ = some (.pointer (some ⟨g, 0, none⟩)) := (World.cell?_of_block (hW1.block _ hBl hne)).trans d1
    have c2 : (W.setCell ⟨w7.heap.size, 0, none⟩ (.int .i64 ((q : Int) + 1))).cell? ⟨w7.heap.size, 0, none⟩ = some (.int .i64 ((q : Int) + 1)) := World.cell?_setCell_same _ _ _ d2
    have HQ1 := Lib.hid (HQD.out.keep hW1 (fun j hj e => HNS.out.2.2.1 (e ▸ hj)))
    have HL1 : Hid (LogE (W.setCell ⟨w7.heap.size, 0, none⟩ (.int .i64 ((q : Int) + 1))) g p s (wrG y0 (st + 1) B pre).1.2) := Lib.hid (HLG.out.keep hW1 hGne)
    have HR1 : Hid (ByteRow (W.setCell ⟨w7.heap.size, 0, none⟩ (.int .i64 ((q : Int) + 1))) (some ⟨b, o + 511 * x.1, none⟩) qn C) := Lib.hid (HROW.out.only hW1 (fun y hy => by obtain rfl := Option.some.inj hy; exact hbne))
    have HE1 := Lib.hid e1
    have hBl1 : w.heap.size < (W.setCell ⟨w7.heap.size, 0, none⟩ (.int .i64 ((q : Int) + 1))).heap.size := Nat.lt_of_lt_of_le hBl hW1.size
    have hBat1 : w7.heap.size < (W.setCell ⟨w7.heap.size, 0, none⟩ (.int .i64 ((q : Int) + 1))).heap.size := Nat.lt_of_lt_of_le hBat hW1.size
    clear hW1 e1 d1 d2 f2
    generalize W.setCell ⟨w7.heap.size, 0, none⟩ (.int .i64 ((q : Int) + 1)) = W1 at *
    have HC : Hid (∀ X, Gl W1.drew X → X.cell? ⟨w.heap.size, 0, none⟩ = some (.pointer (some ⟨g, 0, none⟩)) ∧ X.cell? ⟨w7.heap.size, 0, none⟩ = some (.int .i64 ((q : Int) + 1))) := Lib.hid (fun X hX => ⟨(World.cell?_of_block (hX.undrew.block _ hBl1)).trans c1, (World.cell?_of_block (hX.undrew.block _ hBat1)).trans c2⟩)
    have HSec : Hid (∀ X, Gl W1.drew X → Calls Tryd.prog 25 #[.slice (some ⟨b, o + 511 * x.1, none⟩) qn qn] X fun e w' => ∃ gs, e = .returned (.slice (some ⟨gs, 0, none⟩) 512 512) ∧ ByteRow w' (some ⟨gs, 0, none⟩) 512 (bytesL C) ∧ X.heap.size ≤ gs ∧ Below X.heap.size X w') := Lib.hid (fun X hX => bytesSector_any ⟨b, o + 511 * x.1, none⟩ qn qn C X (HR1.out.below hX.undrew) hq0 hq511)
    clear c1 c2
    refine wpIn_region_last_lit [.is (.pointer (some ⟨g, 0, none⟩)), .is (.pointer (some ⟨g, 0, none⟩)), .is (.pointer (some ⟨g, 0, none⟩)), .is (.int .i64 ((q : Int) + 1)), .is (.slice (some ⟨b, o + 511 * x.1, none⟩) qn qn), .has (SecV W1.heap.size (bytesL C))] (by kernel_rfl) (by kernel_rfl) (by kernel_rfl) (by kernel_rfl) (by kernel_rfl) (fun ⟨_, _, h⟩ => h) ?_
    repeat1' (refine wpInvL_is ?_ ?_; (focus (intro X hX hF K hK; clear hF; obtain ⟨d0, d2⟩ := HC.out X hX; go_simp; exact hK _ _ (Gl.refl _) rfl)); simp only [Act.put, List.setIfInBounds_toArray, List.set_cons_zero, List.set_cons_succ])
    refine wpInvL_has _ (secV_stable _ _) ?_ ?_
    · intro X hX hF K hK
      clear hF
      go_simp
      refine (HSec.out X hX).mono ?_
      rintro e X1 ⟨gs, rfl, hR, hgs, hb⟩
      exact ⟨_, rfl, hK _ _ hb ⟨gs, rfl, hR, Nat.le_trans hX.undrew.size hgs⟩⟩
    intro v5
    simp only [Act.put, List.setIfInBounds_toArray, List.set_cons_zero, List.set_cons_succ]
    refine wpInvL_last ?_
    intro X hX hF
    obtain ⟨gs, rfl, hR, hgs⟩ := hF _ (List.mem_cons_self ..)
    clear hF
    have HX := Lib.hid hX.undrew
    have HWr := dwriteG X F' p k0 (m + pre.length) (q + 1) g (wrG y0 (st + 1) B pre).1.1 (wrG y0 (st + 1) B pre).1.2 (s.cells p) 63 (some ⟨gs, 0, none⟩) 512 (bytesL C) (HQ1.out.below HX.out) HFX.out.fit (by omega) HFX.out.err (HL1.out.below HX.out) HNS.out.1 (by omega) hR (fun y hy => by
      obtain rfl := Option.some.inj hy
      intro gg
      have := HQ1.out.lts _ gg
      dsimp only at this
      omega)
    rw [show ((q + 1 : Nat) : Int) = (q : Int) + 1 by omega] at HWr
    have HWR := Lib.hid HWr
    clear HWr hR hX
    go_simp
    refine HWR.out.mono ?_
    rintro e X1 ⟨rfl, hq2, hl2, ho2⟩
    refine ⟨_, rfl, ?_⟩
    have e2 : (wrG y0 (st + 1) B (pre ++ [x])).1 = stepW ((wrG y0 (st + 1) B pre).1.1, (wrG y0 (st + 1) B pre).1.2) (q + 1) (bstr (bytesL C)) := by
      rw [wrG_snoc, ← show partSec B x.1 = bstr (bytesL C) by rw [HCC.out]; rfl, show st + 1 + pre.length = q + 1 by have := HQQ.out; omega]
    have hfin := HI.out.step (Wx := X) (w' := X1) (F' := F') (x' := (wrG y0 (st + 1) B (pre ++ [x])).1) HB7.out.size HF'.out HNS.out ⟨fun e => hGne e.symm, fun e => hne e.symm, by omega, by omega⟩ ⟨by omega, by omega, by omega⟩ (by rw [← HE1.out]; exact HX.out) (by
      rw [e2]
      exact hq2) (by
      rw [e2]
      exact hl2) ho2
    refine ⟨hfin.1, hfin.2.1, ?_⟩
    dsimp only
    rw [List.length_append]
    exact hfin.2.2
  case done =>
    rintro D xs W hD rfl hI hK
    rw [wrG_upto _ _ _ _ _ (Nat.le_refl _), partsUpto_length _ _ (Nat.le_refl _)] at hI
    have hf1 : FitE (partsG y0 (st + 1) B (sectorsN n)) k0 (m + sectorsN n) := by
      have := HFIT.out.wrG (st + 1) B (partsUpto n (sectorsN n)) (by rw [partsUpto_length _ _ (Nat.le_refl _)]; omega)
      rw [wrG_upto _ _ _ _ _ (Nat.le_refl _), partsUpto_length _ _ (Nat.le_refl _)] at this
      exact this
    generalize hY1 : partsG y0 (st + 1) B (sectorsN n) = y1 at hI hf1
    have hy := HY.out
    rw [hY1] at hy
    have HY1 := Lib.hid hy
    clear hY1 hy
    have HF1 := Lib.hid hf1
    have HF2 := Lib.hid hf1.stepB
    have HF3 : Hid (FitE (stepW (stepB y1) st (bstr (startL (s.age : Int) (s.number : Int) B))) k0 (m + sectorsN n + 1 + 1)) := Lib.hid (hf1.stepB.stepW st (by omega) _ (by rw [size_bstr]; exact padL_length _ (by have := recL_len (s.age : Int) (s.number : Int) B; rw [List.length_cons, closedL_length]; omega)))
    clear hf1
    obtain ⟨⟨F', hqd, hF', hns⟩, hlog, honly, hbl, hbat, hbs, hbn⟩ := hI
    have hDF : ¬ F' D := fun e => by
      obtain ⟨_, o, ho, hc⟩ := hF' D e
      rw [hK] at ho
      obtain rfl := Option.some.inj ho
      cases hc
    have hDl := heap_lt hK
    have hBl := heap_lt hbl
    have hGl := heap_lt hlog.heap
    have hDg : D ≠ g := fun e => by
      subst e
      rw [show W.heap[D]? = _ from hlog.heap] at hK
      cases hK
    have HF' := Lib.hid hF'
    have HNS := Lib.hid hns
    have HLG := Lib.hid hlog
    have HON := Lib.hid honly
    have HKD := Lib.hid hK
    have d1 : W.cell? ⟨w.heap.size, 0, none⟩ = some (.pointer (some ⟨g, 0, none⟩)) := by simp only [World.cell?, hbl]; rfl
    have HBL := Lib.hid hbl
    have HBa := Lib.hid (dbarrierG W F' p k0 (m + sectorsN n) g y1.1 y1.2 (s.cells p) 63 hqd HF1.out.fit (by omega) HF1.out.err hlog hns.1)
    have hTW : Hid (Cr.Tab W) := Lib.hid (tab_only HT.out honly (fun e => e.elim hF (fun e => hgq e.symm)))
    have hql := cell_lt (HT.out 0 (by decide))
    have hFq : ¬ F' 0 := fun e => by
      rcases (hF' _ e).1 with h1 | h1
      · exact hF h1
      · exact absurd h1 (Nat.not_le.2 hql)
    clear hqd hF' hns hlog honly hK hbl hbat hbs hbn
    go_wp2_with (go_at_call 26; refine HBa.out.mono ?_; rintro e w9 ⟨rfl, hq9, hl9, ho9⟩; have HQ9 := Lib.hid hq9; have HO9 := Lib.hid ho9; have HL9 : Hid (LogE w9 g p s (stepB y1).2) := Lib.hid hl9; clear hq9 hl9 ho9)
    have HON9 : Hid (Only (fun k => F k ∨ k = g) w w9) := Lib.hid (only_gr HON.out HO9.out (fun j hj => by
      rcases hj with hj | hj
      rotate_left
      · exact .inl (.inr hj)
      rcases (HF'.out j hj).1 with h1 | h1
      · exact .inl (.inl h1)
      · obtain ⟨o, ho', _⟩ := (HF'.out j hj).2
        exact .inr ⟨h1, heap_lt ho'⟩))
    have s9 := HO9.out.size
    have HT9 : Hid (Cr.Tab w9) := Lib.hid (tab_only hTW.out HO9.out (fun e => e.elim hFq (fun e => hgq e.symm)))
    have HBL9 : Hid (w9.heap[w.heap.size]? = some (.cells #[.pointer (some ⟨g, 0, none⟩)] 25)) := Lib.hid ((HO9.out.block _ hBl (fun e => e.elim HNS.out.2.1 (by omega))).trans HBL.out)
    have HK9 : Hid (w9.heap[D]? = some (.deferred (some []))) := Lib.hid ((HO9.out.block _ hDl (fun e => e.elim hDF hDg)).trans HKD.out)
    have HR9 : Hid (ByteRow w9 a n B) := Lib.hid (HB.out.only2 HON9.out (fun h0 x hx e => e.elim (ha h0 x hx).1 (ha h0 x hx).2))
    have hD9 : D < w9.heap.size := heap_lt HK9.out
    have hB9 : w.heap.size < w9.heap.size := heap_lt HBL9.out
    have HC : Hid (∀ X, Gl w9.drew X → X.cell? ⟨w.heap.size, 0, none⟩ = some (.pointer (some ⟨g, 0, none⟩)) ∧ X.cell? ⟨g, 5, none⟩ = some (.int .i64 (s.age : Int)) ∧ X.cell? ⟨g, 6, none⟩ = some (.int .i64 (s.number : Int))) := Lib.hid (fun X hX => by
      have hl := (HL9.out.below hX.undrew).at_
      refine ⟨?_, hl.2.2.2.1, hl.2.2.2.2.1⟩
      rw [World.cell?_of_block (hX.undrew.block _ hB9)]
      simp only [World.cell?, HBL9.out]
      rfl)
    have HSS : Hid (∀ X, Gl w9.drew X → Calls Tryd.prog 27 #[.int .i64 (s.age : Int), .int .i64 (s.number : Int), .slice a n cap] X fun e w' => ∃ g, e = .returned (.slice (some ⟨g, 0, none⟩) 512 512) ∧ ByteRow w' (some ⟨g, 0, none⟩) 512 (startL (s.age : Int) (s.number : Int) B) ∧ X.heap.size ≤ g ∧ Below X.heap.size X w') := Lib.hid (fun X hX => startSector_any (s.age : Int) (s.number : Int) (by omega) (by omega) (by omega) (by omega) a n cap B X (HR9.out.below hX.undrew) hn46 (Cr.Tab.below HT9.out hX.undrew))
    clear d1
    refine wp_region_last_lit [.is (.pointer (some ⟨g, 0, none⟩)), .is (.pointer (some ⟨g, 0, none⟩)), .is (.pointer (some ⟨g, 0, none⟩)), .is (.int .i64 (st : Int)),
      .is (.pointer (some ⟨g, 0, none⟩)), .is (.pointer (some ⟨g, 0, none⟩)), .is (.pointer (some ⟨g, 5, none⟩)), .is (.int .i64 (s.age : Int)),
      .is (.pointer (some ⟨g, 0, none⟩)), .is (.pointer (some ⟨g, 0, none⟩)), .is (.pointer (some ⟨g, 6, none⟩)), .is (.int .i64 (s.number : Int)), .is (.slice a n cap),
      .has (SecV w9.heap.size (startL (s.age : Int) (s.number : Int) B))] (by kernel_rfl) (by kernel_rfl) (by kernel_rfl) (by kernel_rfl) ?_
    repeat1' (refine wpInvL_is ?_ ?_; (focus (intro X hX hF K hK; clear hF; obtain ⟨d0, d5, d6⟩ := HC.out X hX; go_simp; exact hK _ _ (Gl.refl _) rfl)); simp only [Act.put, List.setIfInBounds_toArray, List.set_cons_zero, List.set_cons_succ])
    refine wpInvL_has _ (secV_stable _ _) ?_ ?_
    · intro X hX hF K hK
      clear hF
      go_simp
      refine (HSS.out X hX).mono ?_
      rintro e X1 ⟨gs, rfl, hR, hgs, hb⟩
      exact ⟨_, rfl, hK _ _ hb ⟨gs, rfl, hR, Nat.le_trans hX.undrew.size hgs⟩⟩
    intro v13
    simp only [Act.put, List.setIfInBounds_toArray, List.set_cons_zero, List.set_cons_succ]
    refine wpInvL_last ?_
    intro X hX hF
    obtain ⟨gs, rfl, hR, hgs⟩ := hF _ (List.mem_cons_self ..)
    clear hF
    have HX := Lib.hid hX.undrew
    have sX := HX.out.size
    have HWr := Lib.hid (dwriteG X F' p k0 (m + sectorsN n + 1) st g (stepB y1).1 (stepB y1).2 (s.cells p) 63 (some ⟨gs, 0, none⟩) 512 (startL (s.age : Int) (s.number : Int) B) (HQ9.out.below HX.out) HF2.out.fit (by omega) HF2.out.err (HL9.out.below HX.out) HNS.out.1 (by omega) hR (fun y hy => by
      obtain rfl := Option.some.inj hy
      intro gg
      have := HQ9.out.lts _ gg
      dsimp only at this
      omega))
    clear hR hX
    go_simp
    refine HWr.out.mono ?_
    rintro e X1 ⟨rfl, hq2, hl2, ho2⟩
    refine ⟨_, rfl, ?_⟩
    generalize hy3 : stepW ((stepB y1).1, (stepB y1).2) st (bstr (startL (s.age : Int) (s.number : Int) B)) = y3 at hq2 hl2
    have hy3' : stepW (stepB y1) st (bstr (startL (s.age : Int) (s.number : Int) B)) = y3 := hy3
    rw [hy3'] at HF3
    have hy4 := HY1.out
    rw [hy3'] at hy4
    clear hy3 hy3'
    have HO2 := Lib.hid ho2
    have sX1 := HO2.out.size
    have n1 : ¬ Gr F' X X1 g := gr_new HNS.out.1 (by have := heap_lt HL9.out.heap; omega)
    have n2 : ¬ Gr F' X X1 w.heap.size := gr_new HNS.out.2.1 (by omega)
    have n3 : ¬ Gr F' X X1 D := gr_new hDF (by omega)
    have hBg : ¬ (w.heap.size = g) := by omega
    have HL10 : Hid (LogE X1 g p s y3.2) := Lib.hid hl2
    have HBL10 : Hid (X1.heap[w.heap.size]? = some (.cells #[.pointer (some ⟨g, 0, none⟩)] 25)) := Lib.hid ((HO2.out.block _ (by omega) (fun e => e.elim HNS.out.2.1 hBg)).trans ((HX.out.block _ hB9).trans HBL9.out))
    have HK10 : Hid (X1.heap[D]? = some (.deferred (some []))) := Lib.hid ((HO2.out.block _ (by omega) (fun e => e.elim hDF hDg)).trans ((HX.out.block _ hD9).trans HK9.out))
    have HBa2 := Lib.hid (dbarrierG X1 (Gr F' X X1) p k0 (m + sectorsN n + 2) g y3.1 y3.2 (s.cells p) 63 hq2 HF3.out.fit (by omega) HF3.out.err HL10.out n1)
    have d1 : X1.cell? ⟨w.heap.size, 0, none⟩ = some (.pointer (some ⟨g, 0, none⟩)) := by simp only [World.cell?, HBL10.out]; rfl
    have hu65 : s.used ≤ 65536 := by omega
    clear hq2 hl2 ho2 HWr HSS HC HBa
    have hy4' : stepB (y3.1, y3.2) = (s4, 0) := hy4
    rw [hy4'] at HBa2
    clear hy4 hy4'
    have hF'w : ∀ j, F' j → Gr F w X j := fun j hj => by
      rcases (HF'.out j hj).1 with h1 | h1
      · exact .inl h1
      · obtain ⟨o, ho', _⟩ := (HF'.out j hj).2
        have := heap_lt ho'
        have := HX.out.size
        have := HO9.out.size
        exact .inr ⟨h1, by omega⟩
    have hGG : ∀ j, Gr F' X X1 j → Gr F w X1 j := fun j hj => by
      have s0 := HSz0.out
      have sW := HON.out.size
      rcases hj with hj | ⟨h1, h2⟩
      · rcases hF'w j hj with h1 | ⟨h1, h2⟩
        · exact .inl h1
        · exact .inr ⟨h1, by omega⟩
      · exact .inr ⟨by omega, h2⟩
    have HON10 : Hid (Only (fun k => F k ∨ k = g) w X1) := Lib.hid (by
      have o1 : Only (fun k => F k ∨ k = g) w X := HON9.out.trans (Only.of_below HX.out)
      refine only_gr o1 HO2.out (fun j hj => ?_)
      rcases hj with hj | hj
      · rcases hF'w j hj with h1 | h1
        · exact .inl (.inl h1)
        · exact .inr h1
      · exact .inl (.inr hj))
    have hG1 : ∀ j, (Gr F' X X1 j ∨ j = g) → Gr (fun k => F k ∨ k = g) w X1 j := fun j hj => by
      rcases hj with hj | hj
      · rcases hGG j hj with h1 | h1
        · exact .inl (.inl h1)
        · exact .inr h1
      · exact .inl (.inr hj)
    go_wp2_with (first
      | (go_at_call 26; refine HBa2.out.mono ?_; rintro e w11 ⟨rfl, hq9, hl9, ho9⟩; have HQ11 := Lib.hid hq9; have HO11 := Lib.hid ho9; have HL11 : Hid (LogE w11 g p s 0) := Lib.hid hl9; have HBL11 := Lib.hid ((ho9.block _ (heap_lt HBL10.out) (fun e => e.elim n2 hBg)).trans HBL10.out); have HK11 := Lib.hid ((ho9.block _ (heap_lt HK10.out) (fun e => e.elim n3 hDg)).trans HK10.out); clear d1; have d1 : w11.cell? ⟨w.heap.size, 0, none⟩ = some (.pointer (some ⟨g, 0, none⟩)) := (by simp only [World.cell?, HBL11.out]; rfl); obtain ⟨dd0, dd1, ddf⟩ := HL11.out.at0.dev.cells; clear hq9 hl9 ho9)
      | (go_at_call 28; refine (pass_any w11 g p n s HL11.out.at0 hn46 hu65 hnum).mono ?_; rintro e w12 ⟨rfl, hl12, ho12⟩; have HL12 := Lib.hid hl12; have HO12 := Lib.hid ho12; clear d1 dd0 dd1 ddf; have d1 : w12.cell? ⟨w.heap.size, 0, none⟩ = some (.pointer (some ⟨g, 0, none⟩)) := (by rw [World.cell?_of_block (ho12.block _ (heap_lt HBL11.out) hBg)]; simp only [World.cell?, HBL11.out]; rfl); obtain ⟨dd0, dd1, ddf⟩ := HL12.out.dev.cells; clear hl12 ho12))
    have HK12 : Hid (w12.heap[D]? = some (.deferred (some []))) := Lib.hid ((HO12.out.block _ (heap_lt HK11.out) hDg).trans HK11.out)
    refine ⟨by simp, .inl ⟨_, _, rfl, run_takeDeferred HK12.out, ?_⟩⟩
    have hgr := grownBy_putObj' w12 D (.deferred none)
    have HP : Only (fun k => k = D) w12 (w12.putObj D (.deferred none)) := ⟨hgr.os, hgr.tape, hgr.output, hgr.size, fun k hk hne => hgr.block k hk (fun e => hne (Option.some.inj e))⟩
    have sP := HP.size
    have s12 := HO12.out.size
    have s11 := HO11.out.size
    have s0 := HSz0.out
    have sW := HON.out.size
    refine ⟨_, results_tmp rfl _ _ _, rfl, ?_, ⟨Gr F' X X1, ?_, fun k hk => ⟨?_, fun e => n1 (e ▸ hk)⟩⟩, ?_⟩
    · exact (HL12.out.keep HP (fun e => hDg e.symm)).e
    · exact (HQ11.out.keep HO12.out (fun k hk e => n1 (e ▸ hk))).keep HP (fun k hk e => n3 (e ▸ hk))
    · rcases hGG k hk with h1 | ⟨h1, h2⟩
      · exact .inl h1
      · exact .inr ⟨h1, by omega⟩
    · have o3 : Only (fun k => F k ∨ k = g) w w11 := only_gr HON10.out HO11.out hG1
      have o4 : Only (fun k => F k ∨ k = g) w w12 := o3.trans (HO12.out.mono (fun k hk => .inr hk))
      exact only_gr o4 HP (fun j hj => .inr ⟨by rw [hj]; omega, by rw [hj]; exact heap_lt HK12.out⟩)
set_option maxHeartbeats 4000000 in
theorem append_ge (w : World) (F : Nat → Prop) (g p k0 m n cap : Nat) (a : Option Addr) (s : LSt) (y0 : DSt × Int) (B : List Nat) (h : DiskAt w F p y0.1) (hfit : FitE y0 k0 m) (hl : LogE w g p s y0.2) (hg : ¬ F g) (hB : ByteRow w a n B) (hnc : n ≤ cap) (hcm : cap ≤ maxLen) (ha : 0 < n → ∀ x, a = some x → ¬ F x.block ∧ x.block ≠ g)
    (hu : s.used + (1 + sectorsN n) ≤ s.c) (hc : s.c ≤ 30000) (hf : s.f + s.c ≤ k0) (hN : k0 ≤ 65536) (hage : s.age < 4611686018427387904) (hnum : s.number ≤ 65536) (hm : m + sectorsN n + 5 < 900000) (ht : Cr.Tab w) (hF : ¬ F 0) (hgq : g ≠ 0) (s4 : DSt) (hy : appG y0 s B = (s4, 8)) :
    Calls Tryd.prog 8 #[.pointer (some ⟨g, 0, none⟩), .slice a n cap] w fun e w' => e = .returned (.int .i64 8) ∧ LogE w' g p s 8 ∧ (∃ F', DiskAt w' F' p s4 ∧ ∀ k, F' k → Gr F w w' k ∧ k ≠ g) ∧ Only (fun k => F k ∨ k = g) w w' := by
  have hK : sectorsN n ≤ 30000 := by omega
  have hn46 : n ≤ 70368744177664 := by unfold sectorsN at hK; omega
  obtain ⟨R, hR⟩ : ∃ R : Nat, roomL s = (R : Int) ∧ n ≤ R ∧ n ≤ 16777216 := by
    refine ⟨(s.c - s.used - 1) * 511, ?_, ?_, ?_⟩
    · unfold roomL; rw [if_neg (by omega)]
    · unfold sectorsN at hu; omega
    · unfold sectorsN at hu; omega
  obtain ⟨hR1, hR2, hR3⟩ := hR
  have hR2i : (n : Int) ≤ (R : Int) := by omega
  have hR3i : (n : Int) ≤ 16777216 := by omega
  have hut : s.used < s.c := by omega
  obtain ⟨st, hst⟩ : ∃ st, st = s.f + s.used := ⟨_, rfl⟩
  have hstl : st + sectorsN n + 1 ≤ k0 := by omega
  have hst65 : st ≤ 65536 := by omega
  have hsti : (s.f : Int) + (s.used : Int) = (st : Int) := by omega
  have HQ := Lib.hid h
  have HL := Lib.hid hl
  have HT := Lib.hid ht
  have HB := Lib.hid hB
  have HRoom : Hid (∀ W, Below w.heap.size w W → Calls Tryd.prog 11 #[.pointer (some ⟨g, 0, none⟩)] W fun e w' => e = .returned (.int .i64 (R : Int)) ∧ Below W.heap.size W w') := Lib.hid (fun W hb => by
    have h := room_e W g p s y0.2 (hl.below hb) (Nat.le_of_lt hut) hc
    rw [hR1] at h
    refine h.mono ?_
    rintro e w' ⟨rfl, k, rfl⟩
    exact ⟨rfl, below_dN W k⟩)
  have hglt := hl.lt
  have hsb := hB.1
  have happ : stepB (stepW (stepB (partsG y0 (st + 1) B (sectorsN n))) st (bstr (startL (s.age : Int) (s.number : Int) B))) = (s4, 8) := by
    rw [← hy]
    unfold appG
    rw [hsb, ← hst]
  have HY := Lib.hid happ
  have HFIT := Lib.hid hfit
  clear happ hsb hy hfit
  have HST := Lib.hid hst
  have HSTi := Lib.hid hsti
  clear hst hsti h hl ht hB hR1
  refine (callsIn_wide (n := 9)).1 ?_
  refine callsIn_of_wp_marks Tryd.func8 rfl trivial ?_ rfl
  simp only [Tryd.ntmps8, List.size_toArray, List.length_cons, List.length_nil, Nat.reduceAdd, Nat.reduceSub, Array.replicate_succ, Array.replicate_zero, List.push_toArray, List.append_toArray, List.nil_append, List.cons_append]
  have HB1 : Hid (Below w.heap.size w (w.alloc (.cells #[.pointer (some ⟨g, 0, none⟩)] 25))) := Lib.hid ((Below.refl _ _).alloc (Nat.le_refl _) _)
  refine wpIn_wide.2 ?_
  go_wp2_with (go_at_call 11; refine (HRoom.out _ HB1.out).mono ?_; rintro e w2 ⟨rfl, hb⟩; have HB2 := Lib.hid (Below.step hb HB1.out HB1.out.size); have HSz := Lib.hid (show w.heap.size < w2.heap.size by have := hb.size; rw [size_alloc'] at this; omega); have HBl : Hid (w2.heap[w.heap.size]? = some (.cells #[.pointer (some ⟨g, 0, none⟩)] 25)) := Lib.hid ((hb.block _ (by rw [size_alloc']; omega)).trans (World.alloc_heap_new w _)); clear hb)
  have HW7 : Hid (∀ W, Gl w2.drew W → W.cell? ⟨w.heap.size, 0, none⟩ = some (.pointer (some ⟨g, 0, none⟩)) ∧ W.cell? ⟨g, 2, none⟩ = some (.int .i64 (s.f : Int)) ∧ W.cell? ⟨g, 7, none⟩ = some (.int .i64 (s.used : Int))) := Lib.hid (fun W hW => by
    have hl := ((HL.out.below HB2.out).below hW.undrew).at_
    refine ⟨?_, hl.1, hl.2.2.2.2.2.1⟩
    rw [World.cell?_of_block (hW.undrew.block _ HSz.out)]
    simp only [World.cell?, HBl.out]
    rfl)
  have hw1 : IntKind.i64.wrap ((s.f : Int) + (s.used : Int)) = (st : Int) := by rw [HSTi.out]; exact wrap_idk _ (by omega) (by omega)
  have hw2 : wrap64 ((s.f : Int) + (s.used : Int)) = (st : Int) := by rw [HSTi.out]; exact wrap_id _ (by omega) (by omega)
  refine wp_region_inv_lit [.is (.pointer (some ⟨g, 0, none⟩)), .is (.pointer (some ⟨g, 0, none⟩)), .is (.pointer (some ⟨g, 2, none⟩)), .is (.int .i64 (s.f : Int)),
    .is (.pointer (some ⟨g, 0, none⟩)), .is (.pointer (some ⟨g, 0, none⟩)), .is (.pointer (some ⟨g, 7, none⟩)), .is (.int .i64 (s.used : Int)), .is (.int .i64 (st : Int)), .is (.int .i64 (st : Int))] (by kernel_rfl) (by kernel_rfl) ?_
  repeat1' (refine wpInv_is ?_ ?_; (focus (intro W hW hF K hK; clear hF; obtain ⟨d0, d2, d7⟩ := HW7.out W hW; go_simp; exact hK _ _ (Gl.refl _) rfl)); simp only [Act.put, List.setIfInBounds_toArray, List.set_cons_zero, List.set_cons_succ])
  refine wpInv_end ?_
  intro w7 hW hF
  have HB7 := Lib.hid (Below.step hW.undrew HB2.out HB2.out.size)
  have HSz7 : Hid (w.heap.size < w7.heap.size) := Lib.hid (Nat.lt_of_lt_of_le HSz.out hW.undrew.size)
  have HBl7 : Hid (w7.heap[w.heap.size]? = some (.cells #[.pointer (some ⟨g, 0, none⟩)] 25)) := Lib.hid ((hW.undrew.block _ HSz.out).trans HBl.out)
  clear hW hF HW7 hw1 hw2
  go_wp2_with (go_at_call 23; refine (chunk_any a n cap _).mono ?_; rintro e w8 ⟨rfl, rfl⟩)
  obtain ⟨w0, hw0⟩ : ∃ w0, w0 = ((w7.alloc (.cells #[.int .i64 (st : Int)] 3)).alloc (.cells #[.slice a n cap] 34)).alloc (.cells #[.int .i64 511] 3) := ⟨_, rfl⟩
  rw [← hw0]
  have hs0 : w0.heap.size = w7.heap.size + 3 := by rw [hw0, size_alloc', size_alloc', size_alloc']
  have hb70 : Below w7.heap.size w7 w0 := by rw [hw0]; exact (((Below.refl _ _).alloc (Nat.le_refl _) _).alloc (by rw [size_alloc']; omega) _).alloc (by rw [size_alloc', size_alloc']; omega) _
  have k1 : w0.heap[w7.heap.size]? = some (.cells #[.int .i64 ((st + 0 : Nat) : Int)] 3) := by rw [hw0, Below.heap_alloc _ _ _ (by rw [size_alloc', size_alloc']; omega), Below.heap_alloc _ _ _ (by rw [size_alloc']; omega)]; exact World.alloc_heap_new w7 _
  have k2 : w0.heap[w7.heap.size + 1]? = some (.cells #[.slice a n cap] 34) := by rw [hw0, Below.heap_alloc _ _ _ (by rw [size_alloc', size_alloc']; omega)]; have := World.alloc_heap_new (w7.alloc (.cells #[.int .i64 (st : Int)] 3)) (.cells #[.slice a n cap] 34); rw [size_alloc'] at this; exact this
  have k3 : w0.heap[w7.heap.size + 1 + 1]? = some (.cells #[.int .i64 511] 3) := by rw [hw0]; have := World.alloc_heap_new ((w7.alloc (.cells #[.int .i64 (st : Int)] 3)).alloc (.cells #[.slice a n cap] 34)) (.cells #[.int .i64 511] 3); rw [size_alloc', size_alloc'] at this; exact this
  have hb0 : Below w.heap.size w w0 := Below.step hb70 HB7.out HB7.out.size
  have h77 := HB7.out.size
  have hLoop0 : LoopyG w w0 F g p w.heap.size w7.heap.size (w7.heap.size + 1) (w7.heap.size + 1 + 1) st n cap a s (wrG y0 (st + 1) B ([] : List (Part n))).1 0 := by
    refine ⟨⟨_, ((HQ.out.below hb0).shrink : DiskAt w0 (fun k => F k ∧ Cells w0 k) p y0.1), fun j hj => ⟨.inl hj.1, hj.2⟩, fun x => hg x.1, fun x => ?_, fun x => ?_, fun x => ?_, fun x => ?_⟩, HL.out.below hb0, Only.of_below hb0, (hb70.block _ HSz7.out).trans HBl7.out, k1, k2, k3⟩
    all_goals (have := HQ.out.lts _ x.1; omega)
  have HLoop0 := Lib.hid hLoop0
  have HS0 := Lib.hid hs0
  have HSz0 : Hid (w.heap.size ≤ w0.heap.size) := Lib.hid (by omega)
  have c2 : w0.cell? ⟨w7.heap.size + 1, 0, none⟩ = some (.slice a n cap) := by simp only [World.cell?, k2]; rfl
  have c3 : w0.cell? ⟨w7.heap.size + 1 + 1, 0, none⟩ = some (.int .i64 511) := by simp only [World.cell?, k3]; rfl
  have HA : Hid (0 < n → ∃ b o, a = some ⟨b, o, none⟩) := Lib.hid (fun h0 => by obtain ⟨b, o, e, _⟩ := HB.out.2.2.2 h0; exact ⟨b, o, e⟩)
  clear hw0 hb70 k1 k2 k3 hb0 hLoop0
  refine (wpIn_wide (n := 8)).1 ?_
  refine wpIn_rangeFunc_ownF rfl (by decide) (gf := 45) (lb := #[.pointer (some ⟨w7.heap.size + 1, 0, none⟩), .pointer (some ⟨w7.heap.size + 1 + 1, 0, none⟩)]) rfl trivial (enters_of Tryd.func45 (by kernel_rfl) rfl)
    (chunk_stops 7 (w7.heap.size + 1) (w7.heap.size + 1 + 1) n cap a (by decide) hnc hcm hn46 w0 HA.out c2 c3) (fun h k => ⟨k.1.trans h.1, k.2.trans h.2⟩) (fun W l o o' hl _ _ _ => ⟨World.putObj_heap_other (by omega), World.putObj_heap_other (by omega)⟩) (Below.refl _ _) (fun _ => rfl)
    (fun pre W => LoopyG w W F g p w.heap.size w7.heap.size (w7.heap.size + 1) (w7.heap.size + 1 + 1) st n cap a s (wrG y0 (st + 1) B pre).1 pre.length)
    (fun _ _ _ => False)
    (fun pre W W' row hs hg hr => hs.turn hg HSz0.out hr)
    (fun _ _ _ _ _ hs _ _ => hs)
    HLoop0.out
    (fun x => { tmps := #[.pointer (some ⟨g, 0, none⟩), .slice a n cap, .pointer (some ⟨w.heap.size, 0, none⟩), undef, .int .i64 0, .int .i64 (st : Int), .pointer (some ⟨w7.heap.size, 0, none⟩), partOf a n x.1, .bool false, .pointer (some ⟨g, 0, none⟩), .bool false, .bool (decide ((16777216 : Int) < (n : Int))), .slice a n cap, .int .i64 (n : Int), .bool (decide ((16777216 : Int) < (n : Int))), .bool false, .slice a n cap, .int .i64 (n : Int), .pointer (some ⟨g, 0, none⟩), .int .i64 (R : Int), .bool false, .pointer (some ⟨g, 0, none⟩), .pointer (some ⟨g, 0, none⟩), .pointer (some ⟨g, 2, none⟩), .int .i64 (s.f : Int), .pointer (some ⟨g, 0, none⟩), .pointer (some ⟨g, 0, none⟩), .pointer (some ⟨g, 7, none⟩), .int .i64 (s.used : Int), .int .i64 (st : Int), .int .i64 (st : Int), .slice a n cap, .func (.func 45) #[] #[.pointer (some ⟨w7.heap.size + 1, 0, none⟩), .pointer (some ⟨w7.heap.size + 1 + 1, 0, none⟩)], partOf a n x.1, undef, undef, undef, undef, undef, undef, undef, undef, undef, undef, undef, undef, undef, undef, undef, undef, undef, undef, undef, undef, undef, undef, undef, undef, undef, undef, undef, undef, undef, undef, undef, undef, undef, undef, undef, undef, undef, undef, undef, undef, undef, undef, undef, undef, undef, undef, undef], defers := [] }) ?assign ?body ?done ?stop
  case assign =>
    intro l x W K hK
    gi_wp2
    exact hK
  case stop =>
    intro D c pre W _ _ hx _
    exact hx.elim
  case body =>
    rintro l pre x W hI hlen
    obtain ⟨b, o, hab⟩ := HA.out (by have := x.2; omega)
    obtain ⟨C, hC⟩ : ∃ C, C = (B.drop (511 * x.1)).take 511 := ⟨_, rfl⟩
    obtain ⟨qn, hqn⟩ : ∃ qn, qn = min 511 (n - 511 * x.1) := ⟨_, rfl⟩
    have hq0 : 0 < qn := by have := x.2; omega
    have hq511 : qn ≤ 511 := by omega
    have hpo : partOf a n x.1 = .slice (some ⟨b, o + 511 * x.1, none⟩) qn qn := by rw [hab, hqn]; rfl
    obtain ⟨q, hq⟩ : ∃ q, q = st + pre.length := ⟨_, rfl⟩
    have hql : q + 1 < k0 := by omega
    have hfx : FitE (wrG y0 (st + 1) B pre).1 k0 (m + pre.length) := HFIT.out.wrG (st + 1) B pre (by omega)
    have HFX := Lib.hid hfx
    clear hfx
    have hq65 : q ≤ 100000 := by omega
    have HI := Lib.hid hI
    obtain ⟨⟨F', hqd, hF', hns⟩, hlog, honly, hbl, hbat, hbs, hbn⟩ := hI
    rw [← hq] at hbat
    have hbB : b < w.heap.size := by
      obtain ⟨b', o', e, hc⟩ := HB.out.2.2.2 (by have := x.2; omega)
      rw [hab] at e
      injection e with e
      injection e with e1 e2
      have := cell_lt (hc 0 (by have := x.2; omega))
      dsimp only at this
      omega
    have hrow : ByteRow W (some ⟨b, o + 511 * x.1, none⟩) qn C := by
      have h1 := HB.out.only honly (fun y hy e => e.elim (ha (by have := x.2; omega) y hy).1 (ha (by have := x.2; omega) y hy).2)
      rw [hab] at h1
      have h2 := row_part_of h1 x
      rw [← hC, ← hqn] at h2
      exact h2
    have HROW := Lib.hid hrow
    have HQD := Lib.hid hqd
    have HF' := Lib.hid hF'
    have HNS := Lib.hid hns
    have HLG := Lib.hid hlog
    have HQQ := Lib.hid hq
    have HCC := Lib.hid hC
    have d1 : W.cell? ⟨w.heap.size, 0, none⟩ = some (.pointer (some ⟨g, 0, none⟩)) := by simp only [World.cell?, hbl]; rfl
    have d2 : W.cell? ⟨w7.heap.size, 0, none⟩ = some (.int .i64 (q : Int)) := by simp only [World.cell?, hbat]; rfl
    have f2 : W.frozen? ⟨w7.heap.size, 0, none⟩ = false := by simp [World.frozen?, hbat]
    have hBl := heap_lt hbl
    have hBat := heap_lt hbat
    have hGl := heap_lt hlog.heap
    have hne : w.heap.size ≠ w7.heap.size := by have := HSz7.out; omega
    have hGne : g ≠ w7.heap.size := by have := HSz7.out; omega
    have hbne : b ≠ w7.heap.size := by have := HSz7.out; omega
    clear hC hqn hq hqd hF' hns hlog honly hbl hbat hbs hbn hrow
    rw [hpo]
    clear hpo
    gi_wp2
    have hW1 : Only (fun j => j = w7.heap.size) W (W.setCell ⟨w7.heap.size, 0, none⟩ (.int .i64 ((q : Int) + 1))) := (Only.refl (fun j => j = w7.heap.size) W).setCell (p := ⟨w7.heap.size, 0, none⟩) rfl _
    have e1 : W.setCell ⟨w7.heap.size, 0, none⟩ (.int .i64 ((q : Int) + 1)) = W.setCell ⟨w7.heap.size, 0, none⟩ (.int .i64 ((st + (pre.length + 1) : Nat) : Int)) := by
      rw [show ((st + (pre.length + 1) : Nat) : Int) = (q : Int) + 1 by have := HQQ.out; omega]
    have c1 : (W.setCell ⟨w7.heap.size, 0, none⟩ (.int .i64 ((q : Int) + 1))).cell? ⟨w.heap.size, 0, none⟩ = some (.pointer (some ⟨g, 0, none⟩)) := (World.cell?_of_block (hW1.block _ hBl hne)).trans d1
    have c2 : (W.setCell ⟨w7.heap.size, 0, none⟩ (.int .i64 ((q : Int) + 1))).cell? ⟨w7.heap.size, 0, none⟩ = some (.int .i64 ((q : Int) + 1)) := World.cell?_setCell_same _ _ _ d2
    have HQ1 := Lib.hid (HQD.out.keep hW1 (fun j hj e => HNS.out.2.2.1 (e ▸ hj)))
    have HL1 : Hid (LogE (W.setCell ⟨w7.heap.size, 0, none⟩ (.int .i64 ((q : Int) + 1))) g p s (wrG y0 (st + 1) B pre).1.2) := Lib.hid (HLG.out.keep hW1 hGne)
    have HR1 : Hid (ByteRow (W.setCell ⟨w7.heap.size, 0, none⟩ (.int .i64 ((q : Int) + 1))) (some ⟨b, o + 511 * x.1, none⟩) qn C) := Lib.hid (HROW.out.only hW1 (fun y hy => by obtain rfl := Option.some.inj hy; exact hbne))
    have HE1 := Lib.hid e1
    have hBl1 : w.heap.size < (W.setCell ⟨w7.heap.size, 0, none⟩ (.int .i64 ((q : Int) + 1))).heap.size := Nat.lt_of_lt_of_le hBl hW1.size
    have hBat1 : w7.heap.size < (W.setCell ⟨w7.heap.size, 0, none⟩ (.int .i64 ((q : Int) + 1))).heap.size := Nat.lt_of_lt_of_le hBat hW1.size
    clear hW1 e1 d1 d2 f2
    generalize W.setCell ⟨w7.heap.size, 0, none⟩ (.int .i64 ((q : Int) + 1)) = W1 at *
    have HC : Hid (∀ X, Gl W1.drew X → X.cell? ⟨w.heap.size, 0, none⟩ = some (.pointer (some ⟨g, 0, none⟩)) ∧ X.cell? ⟨w7.heap.size, 0, none⟩ = some (.int .i64 ((q : Int) + 1))) := Lib.hid (fun X hX => ⟨(World.cell?_of_block (hX.undrew.block _ hBl1)).trans c1, (World.cell?_of_block (hX.undrew.block _ hBat1)).trans c2⟩)
    have HSec : Hid (∀ X, Gl W1.drew X → Calls Tryd.prog 25 #[.slice (some ⟨b, o + 511 * x.1, none⟩) qn qn] X fun e w' => ∃ gs, e = .returned (.slice (some ⟨gs, 0, none⟩) 512 512) ∧ ByteRow w' (some ⟨gs, 0, none⟩) 512 (bytesL C) ∧ X.heap.size ≤ gs ∧ Below X.heap.size X w') := Lib.hid (fun X hX => bytesSector_any ⟨b, o + 511 * x.1, none⟩ qn qn C X (HR1.out.below hX.undrew) hq0 hq511)
    clear c1 c2
    refine wpIn_region_last_lit [.is (.pointer (some ⟨g, 0, none⟩)), .is (.pointer (some ⟨g, 0, none⟩)), .is (.pointer (some ⟨g, 0, none⟩)), .is (.int .i64 ((q : Int) + 1)), .is (.slice (some ⟨b, o + 511 * x.1, none⟩) qn qn), .has (SecV W1.heap.size (bytesL C))] (by kernel_rfl) (by kernel_rfl) (by kernel_rfl) (by kernel_rfl) (by kernel_rfl) (fun ⟨_, _, h⟩ => h) ?_
    repeat1' (refine wpInvL_is ?_ ?_; (focus (intro X hX hF K hK; clear hF; obtain ⟨d0, d2⟩ := HC.out X hX; go_simp; exact hK _ _ (Gl.refl _) rfl)); simp only [Act.put, List.setIfInBounds_toArray, List.set_cons_zero, List.set_cons_succ])
    refine wpInvL_has _ (secV_stable _ _) ?_ ?_
    · intro X hX hF K hK
      clear hF
      go_simp
      refine (HSec.out X hX).mono ?_
      rintro e X1 ⟨gs, rfl, hR, hgs, hb⟩
      exact ⟨_, rfl, hK _ _ hb ⟨gs, rfl, hR, Nat.le_trans hX.undrew.size hgs⟩⟩
    intro v5
    simp only [Act.put, List.setIfInBounds_toArray, List.set_cons_zero, List.set_cons_succ]
    refine wpInvL_last ?_
    intro X hX hF
    obtain ⟨gs, rfl, hR, hgs⟩ := hF _ (List.mem_cons_self ..)
    clear hF
    have HX := Lib.hid hX.undrew
    have HWr := dwriteG X F' p k0 (m + pre.length) (q + 1) g (wrG y0 (st + 1) B pre).1.1 (wrG y0 (st + 1) B pre).1.2 (s.cells p) 63 (some ⟨gs, 0, none⟩) 512 (bytesL C) (HQ1.out.below HX.out) HFX.out.fit (by omega) HFX.out.err (HL1.out.below HX.out) HNS.out.1 (by omega) hR (fun y hy => by
      obtain rfl := Option.some.inj hy
      intro gg
      have := HQ1.out.lts _ gg
      dsimp only at this
      omega)
    rw [show ((q + 1 : Nat) : Int) = (q : Int) + 1 by omega] at HWr
    have HWR := Lib.hid HWr
    clear HWr hR hX
    go_simp
    refine HWR.out.mono ?_
    rintro e X1 ⟨rfl, hq2, hl2, ho2⟩
    refine ⟨_, rfl, ?_⟩
    have e2 : (wrG y0 (st + 1) B (pre ++ [x])).1 = stepW ((wrG y0 (st + 1) B pre).1.1, (wrG y0 (st + 1) B pre).1.2) (q + 1) (bstr (bytesL C)) := by
      rw [wrG_snoc, ← show partSec B x.1 = bstr (bytesL C) by rw [HCC.out]; rfl, show st + 1 + pre.length = q + 1 by have := HQQ.out; omega]
    have hfin := HI.out.step (Wx := X) (w' := X1) (F' := F') (x' := (wrG y0 (st + 1) B (pre ++ [x])).1) HB7.out.size HF'.out HNS.out ⟨fun e => hGne e.symm, fun e => hne e.symm, by omega, by omega⟩ ⟨by omega, by omega, by omega⟩ (by rw [← HE1.out]; exact HX.out) (by
      rw [e2]
      exact hq2) (by
      rw [e2]
      exact hl2) ho2
    refine ⟨hfin.1, hfin.2.1, ?_⟩
    dsimp only
    rw [List.length_append]
    exact hfin.2.2
  case done =>
    rintro D xs W hD rfl hI hK
    rw [wrG_upto _ _ _ _ _ (Nat.le_refl _), partsUpto_length _ _ (Nat.le_refl _)] at hI
    have hf1 : FitE (partsG y0 (st + 1) B (sectorsN n)) k0 (m + sectorsN n) := by
      have := HFIT.out.wrG (st + 1) B (partsUpto n (sectorsN n)) (by rw [partsUpto_length _ _ (Nat.le_refl _)]; omega)
      rw [wrG_upto _ _ _ _ _ (Nat.le_refl _), partsUpto_length _ _ (Nat.le_refl _)] at this
      exact this
    generalize hY1 : partsG y0 (st + 1) B (sectorsN n) = y1 at hI hf1
    have hy := HY.out
    rw [hY1] at hy
    have HY1 := Lib.hid hy
    clear hY1 hy
    have HF1 := Lib.hid hf1
    have HF2 := Lib.hid hf1.stepB
    have HF3 : Hid (FitE (stepW (stepB y1) st (bstr (startL (s.age : Int) (s.number : Int) B))) k0 (m + sectorsN n + 1 + 1)) := Lib.hid (hf1.stepB.stepW st (by omega) _ (by rw [size_bstr]; exact padL_length _ (by have := recL_len (s.age : Int) (s.number : Int) B; rw [List.length_cons, closedL_length]; omega)))
    clear hf1
    obtain ⟨⟨F', hqd, hF', hns⟩, hlog, honly, hbl, hbat, hbs, hbn⟩ := hI
    have hDF : ¬ F' D := fun e => by
      obtain ⟨_, o, ho, hc⟩ := hF' D e
      rw [hK] at ho
      obtain rfl := Option.some.inj ho
      cases hc
    have hDl := heap_lt hK
    have hBl := heap_lt hbl
    have hGl := heap_lt hlog.heap
    have hDg : D ≠ g := fun e => by
      subst e
      rw [show W.heap[D]? = _ from hlog.heap] at hK
      cases hK
    have HF' := Lib.hid hF'
    have HNS := Lib.hid hns
    have HLG := Lib.hid hlog
    have HON := Lib.hid honly
    have HKD := Lib.hid hK
    have d1 : W.cell? ⟨w.heap.size, 0, none⟩ = some (.pointer (some ⟨g, 0, none⟩)) := by simp only [World.cell?, hbl]; rfl
    have HBL := Lib.hid hbl
    have HBa := Lib.hid (dbarrierG W F' p k0 (m + sectorsN n) g y1.1 y1.2 (s.cells p) 63 hqd HF1.out.fit (by omega) HF1.out.err hlog hns.1)
    have hTW : Hid (Cr.Tab W) := Lib.hid (tab_only HT.out honly (fun e => e.elim hF (fun e => hgq e.symm)))
    have hql := cell_lt (HT.out 0 (by decide))
    have hFq : ¬ F' 0 := fun e => by
      rcases (hF' _ e).1 with h1 | h1
      · exact hF h1
      · exact absurd h1 (Nat.not_le.2 hql)
    clear hqd hF' hns hlog honly hK hbl hbat hbs hbn
    go_wp2_with (go_at_call 26; refine HBa.out.mono ?_; rintro e w9 ⟨rfl, hq9, hl9, ho9⟩; have HQ9 := Lib.hid hq9; have HO9 := Lib.hid ho9; have HL9 : Hid (LogE w9 g p s (stepB y1).2) := Lib.hid hl9; clear hq9 hl9 ho9)
    have HON9 : Hid (Only (fun k => F k ∨ k = g) w w9) := Lib.hid (only_gr HON.out HO9.out (fun j hj => by
      rcases hj with hj | hj
      rotate_left
      · exact .inl (.inr hj)
      rcases (HF'.out j hj).1 with h1 | h1
      · exact .inl (.inl h1)
      · obtain ⟨o, ho', _⟩ := (HF'.out j hj).2
        exact .inr ⟨h1, heap_lt ho'⟩))
    have s9 := HO9.out.size
    have HT9 : Hid (Cr.Tab w9) := Lib.hid (tab_only hTW.out HO9.out (fun e => e.elim hFq (fun e => hgq e.symm)))
    have HBL9 : Hid (w9.heap[w.heap.size]? = some (.cells #[.pointer (some ⟨g, 0, none⟩)] 25)) := Lib.hid ((HO9.out.block _ hBl (fun e => e.elim HNS.out.2.1 (by omega))).trans HBL.out)
    have HK9 : Hid (w9.heap[D]? = some (.deferred (some []))) := Lib.hid ((HO9.out.block _ hDl (fun e => e.elim hDF hDg)).trans HKD.out)
    have HR9 : Hid (ByteRow w9 a n B) := Lib.hid (HB.out.only2 HON9.out (fun h0 x hx e => e.elim (ha h0 x hx).1 (ha h0 x hx).2))
    have hD9 : D < w9.heap.size := heap_lt HK9.out
    have hB9 : w.heap.size < w9.heap.size := heap_lt HBL9.out
    have HC : Hid (∀ X, Gl w9.drew X → X.cell? ⟨w.heap.size, 0, none⟩ = some (.pointer (some ⟨g, 0, none⟩)) ∧ X.cell? ⟨g, 5, none⟩ = some (.int .i64 (s.age : Int)) ∧ X.cell? ⟨g, 6, none⟩ = some (.int .i64 (s.number : Int))) := Lib.hid (fun X hX => by
      have hl := (HL9.out.below hX.undrew).at_
      refine ⟨?_, hl.2.2.2.1, hl.2.2.2.2.1⟩
      rw [World.cell?_of_block (hX.undrew.block _ hB9)]
      simp only [World.cell?, HBL9.out]
      rfl)
    have HSS : Hid (∀ X, Gl w9.drew X → Calls Tryd.prog 27 #[.int .i64 (s.age : Int), .int .i64 (s.number : Int), .slice a n cap] X fun e w' => ∃ g, e = .returned (.slice (some ⟨g, 0, none⟩) 512 512) ∧ ByteRow w' (some ⟨g, 0, none⟩) 512 (startL (s.age : Int) (s.number : Int) B) ∧ X.heap.size ≤ g ∧ Below X.heap.size X w') := Lib.hid (fun X hX => startSector_any (s.age : Int) (s.number : Int) (by omega) (by omega) (by omega) (by omega) a n cap B X (HR9.out.below hX.undrew) hn46 (Cr.Tab.below HT9.out hX.undrew))
    clear d1
    refine wp_region_last_lit [.is (.pointer (some ⟨g, 0, none⟩)), .is (.pointer (some ⟨g, 0, none⟩)), .is (.pointer (some ⟨g, 0, none⟩)), .is (.int .i64 (st : Int)),
      .is (.pointer (some ⟨g, 0, none⟩)), .is (.pointer (some ⟨g, 0, none⟩)), .is (.pointer (some ⟨g, 5, none⟩)), .is (.int .i64 (s.age : Int)),
      .is (.pointer (some ⟨g, 0, none⟩)), .is (.pointer (some ⟨g, 0, none⟩)), .is (.pointer (some ⟨g, 6, none⟩)), .is (.int .i64 (s.number : Int)), .is (.slice a n cap),
      .has (SecV w9.heap.size (startL (s.age : Int) (s.number : Int) B))] (by kernel_rfl) (by kernel_rfl) (by kernel_rfl) (by kernel_rfl) ?_
    repeat1' (refine wpInvL_is ?_ ?_; (focus (intro X hX hF K hK; clear hF; obtain ⟨d0, d5, d6⟩ := HC.out X hX; go_simp; exact hK _ _ (Gl.refl _) rfl)); simp only [Act.put, List.setIfInBounds_toArray, List.set_cons_zero, List.set_cons_succ])
    refine wpInvL_has _ (secV_stable _ _) ?_ ?_
    · intro X hX hF K hK
      clear hF
      go_simp
      refine (HSS.out X hX).mono ?_
      rintro e X1 ⟨gs, rfl, hR, hgs, hb⟩
      exact ⟨_, rfl, hK _ _ hb ⟨gs, rfl, hR, Nat.le_trans hX.undrew.size hgs⟩⟩
    intro v13
    simp only [Act.put, List.setIfInBounds_toArray, List.set_cons_zero, List.set_cons_succ]
    refine wpInvL_last ?_
    intro X hX hF
    obtain ⟨gs, rfl, hR, hgs⟩ := hF _ (List.mem_cons_self ..)
    clear hF
    have HX := Lib.hid hX.undrew
    have sX := HX.out.size
    have HWr := Lib.hid (dwriteG X F' p k0 (m + sectorsN n + 1) st g (stepB y1).1 (stepB y1).2 (s.cells p) 63 (some ⟨gs, 0, none⟩) 512 (startL (s.age : Int) (s.number : Int) B) (HQ9.out.below HX.out) HF2.out.fit (by omega) HF2.out.err (HL9.out.below HX.out) HNS.out.1 (by omega) hR (fun y hy => by
      obtain rfl := Option.some.inj hy
      intro gg
      have := HQ9.out.lts _ gg
      dsimp only at this
      omega))
    clear hR hX
    go_simp
    refine HWr.out.mono ?_
    rintro e X1 ⟨rfl, hq2, hl2, ho2⟩
    refine ⟨_, rfl, ?_⟩
    generalize hy3 : stepW ((stepB y1).1, (stepB y1).2) st (bstr (startL (s.age : Int) (s.number : Int) B)) = y3 at hq2 hl2
    have hy3' : stepW (stepB y1) st (bstr (startL (s.age : Int) (s.number : Int) B)) = y3 := hy3
    rw [hy3'] at HF3
    have hy4 := HY1.out
    rw [hy3'] at hy4
    clear hy3 hy3'
    have HO2 := Lib.hid ho2
    have sX1 := HO2.out.size
    have n1 : ¬ Gr F' X X1 g := gr_new HNS.out.1 (by have := heap_lt HL9.out.heap; omega)
    have n2 : ¬ Gr F' X X1 w.heap.size := gr_new HNS.out.2.1 (by omega)
    have n3 : ¬ Gr F' X X1 D := gr_new hDF (by omega)
    have hBg : ¬ (w.heap.size = g) := by omega
    have HL10 : Hid (LogE X1 g p s y3.2) := Lib.hid hl2
    have HBL10 : Hid (X1.heap[w.heap.size]? = some (.cells #[.pointer (some ⟨g, 0, none⟩)] 25)) := Lib.hid ((HO2.out.block _ (by omega) (fun e => e.elim HNS.out.2.1 hBg)).trans ((HX.out.block _ hB9).trans HBL9.out))
    have HK10 : Hid (X1.heap[D]? = some (.deferred (some []))) := Lib.hid ((HO2.out.block _ (by omega) (fun e => e.elim hDF hDg)).trans ((HX.out.block _ hD9).trans HK9.out))
    have HBa2 := Lib.hid (dbarrierG X1 (Gr F' X X1) p k0 (m + sectorsN n + 2) g y3.1 y3.2 (s.cells p) 63 hq2 HF3.out.fit (by omega) HF3.out.err HL10.out n1)
    have d1 : X1.cell? ⟨w.heap.size, 0, none⟩ = some (.pointer (some ⟨g, 0, none⟩)) := by simp only [World.cell?, HBL10.out]; rfl
    have hu65 : s.used ≤ 65536 := by omega
    clear hq2 hl2 ho2 HWr HSS HC HBa
    have hy4' : stepB (y3.1, y3.2) = (s4, 8) := hy4
    rw [hy4'] at HBa2
    clear hy4 hy4'
    have hF'w : ∀ j, F' j → Gr F w X j := fun j hj => by
      rcases (HF'.out j hj).1 with h1 | h1
      · exact .inl h1
      · obtain ⟨o, ho', _⟩ := (HF'.out j hj).2
        have := heap_lt ho'
        have := HX.out.size
        have := HO9.out.size
        exact .inr ⟨h1, by omega⟩
    have hGG : ∀ j, Gr F' X X1 j → Gr F w X1 j := fun j hj => by
      have s0 := HSz0.out
      have sW := HON.out.size
      rcases hj with hj | ⟨h1, h2⟩
      · rcases hF'w j hj with h1 | ⟨h1, h2⟩
        · exact .inl h1
        · exact .inr ⟨h1, by omega⟩
      · exact .inr ⟨by omega, h2⟩
    have HON10 : Hid (Only (fun k => F k ∨ k = g) w X1) := Lib.hid (by
      have o1 : Only (fun k => F k ∨ k = g) w X := HON9.out.trans (Only.of_below HX.out)
      refine only_gr o1 HO2.out (fun j hj => ?_)
      rcases hj with hj | hj
      · rcases hF'w j hj with h1 | h1
        · exact .inl (.inl h1)
        · exact .inr h1
      · exact .inl (.inr hj))
    have hG1 : ∀ j, (Gr F' X X1 j ∨ j = g) → Gr (fun k => F k ∨ k = g) w X1 j := fun j hj => by
      rcases hj with hj | hj
      · rcases hGG j hj with h1 | h1
        · exact .inl (.inl h1)
        · exact .inr h1
      · exact .inl (.inr hj)
    go_wp2_with (go_at_call 26; refine HBa2.out.mono ?_; rintro e w11 ⟨rfl, hq9, hl9, ho9⟩; have HQ11 := Lib.hid hq9; have HO11 := Lib.hid ho9; have HL11 : Hid (LogE w11 g p s 8) := Lib.hid hl9; have HBL11 := Lib.hid ((ho9.block _ (heap_lt HBL10.out) (fun e => e.elim n2 hBg)).trans HBL10.out); have HK11 := Lib.hid ((ho9.block _ (heap_lt HK10.out) (fun e => e.elim n3 hDg)).trans HK10.out); clear d1; have d1 : w11.cell? ⟨w.heap.size, 0, none⟩ = some (.pointer (some ⟨g, 0, none⟩)) := (by simp only [World.cell?, HBL11.out]; rfl); obtain ⟨dd0, dd1, ddf⟩ := DevC.cells HL11.out; clear hq9 hl9 ho9)
    refine ⟨by simp, .inl ⟨_, _, rfl, run_takeDeferred HK11.out, ?_⟩⟩
    have hgr := grownBy_putObj' w11 D (.deferred none)
    have HP : Only (fun k => k = D) w11 (w11.putObj D (.deferred none)) := ⟨hgr.os, hgr.tape, hgr.output, hgr.size, fun k hk hne => hgr.block k hk (fun e => hne (Option.some.inj e))⟩
    have sP := HP.size
    have s11 := HO11.out.size
    have s0 := HSz0.out
    have sW := HON.out.size
    refine ⟨_, results_tmp rfl _ _ _, rfl, ?_, ⟨Gr F' X X1, ?_, fun k hk => ⟨?_, fun e => n1 (e ▸ hk)⟩⟩, ?_⟩
    · exact HL11.out.keep HP (fun e => hDg e.symm)
    · exact HQ11.out.keep HP (fun k hk e => n3 (e ▸ hk))
    · rcases hGG k hk with h1 | ⟨h1, h2⟩
      · exact .inl h1
      · exact .inr ⟨h1, by omega⟩
    · have o3 : Only (fun k => F k ∨ k = g) w w11 := only_gr HON10.out HO11.out hG1
      exact only_gr o3 HP (fun j hj => .inr ⟨by rw [hj]; omega, by rw [hj]; exact heap_lt HK11.out⟩)
/-- Append, of any disk and error -/
theorem append_g (w : World) (F : Nat → Prop) (g p k0 m n cap : Nat) (a : Option Addr) (s : LSt) (y0 : DSt × Int) (B : List Nat) (h : DiskAt w F p y0.1) (hfit : FitE y0 k0 m) (hl : LogE w g p s y0.2) (hg : ¬ F g) (hB : ByteRow w a n B) (hnc : n ≤ cap) (hcm : cap ≤ maxLen) (ha : 0 < n → ∀ x, a = some x → ¬ F x.block ∧ x.block ≠ g)
    (hu : s.used + (1 + sectorsN n) ≤ s.c) (hc : s.c ≤ 30000) (hf : s.f + s.c ≤ k0) (hN : k0 ≤ 65536) (hage : s.age < 4611686018427387904) (hnum : s.number ≤ 65536) (hm : m + sectorsN n + 5 < 900000) (ht : Cr.Tab w) (hF : ¬ F 0) (hgq : g ≠ 0) (herr : (appG y0 s B).2 = 0 ∨ (appG y0 s B).2 = 8) :
    Calls Tryd.prog 8 #[.pointer (some ⟨g, 0, none⟩), .slice a n cap] w fun e w' => e = .returned (.int .i64 (appG y0 s B).2) ∧ LogE w' g p (if (appG y0 s B).2 = 0 then s.passed n else s) (appG y0 s B).2 ∧ (∃ F', DiskAt w' F' p (appG y0 s B).1 ∧ ∀ k, F' k → Gr F w w' k ∧ k ≠ g) ∧ Only (fun k => F k ∨ k = g) w w' := by
  obtain ⟨s4, e4, hy⟩ : ∃ s4 e4, appG y0 s B = (s4, e4) := ⟨_, _, rfl⟩
  rw [hy] at herr ⊢
  dsimp only at herr ⊢
  rcases herr with e | e
  · subst e
    rw [if_pos rfl]
    exact append_gz w F g p k0 m n cap a s y0 B h hfit hl hg hB hnc hcm ha hu hc hf hN hage hnum hm ht hF hgq s4 hy
  · subst e
    rw [if_neg (by decide)]
    exact append_ge w F g p k0 m n cap a s y0 B h hfit hl hg hB hnc hcm ha hu hc hf hN hage hnum hm ht hF hgq s4 hy
end Go.Proofs.YtcmnfbpmkndfkaaDoor
namespace Go.Proofs.YtcmnfbpmkndfkaaDoor
open Go.ChangeShapes Go.WideShapes Go.ChangeAt Go.RowKit
set_option linter.unusedVariables false
set_option maxRecDepth 100000

theorem headL_length (age : Int) : (headL age).length = 512 := by
  unfold headL
  refine padL_length _ ?_
  have h1 := Wr.code_len age
  rw [closedL_length, List.length_cons, List.length_cons]
  omega
def cutG (x : DSt × Int) (s : LSt) : DSt × Int := stepB (stepW x (s.f + (1 - s.head)) (bstr (headL ((s.age + 1 : Nat) : Int))))
set_option maxHeartbeats 1000000 in
theorem truncate_g (w : World) (F : Nat → Prop) (g p k0 m : Nat) (s : LSt) (y0 : DSt × Int) (h : DiskAt w F p y0.1) (hfit : FitE y0 k0 m) (hl : LogE w g p s y0.2) (hg : ¬ F g) (hh : s.head ≤ 1) (hf : s.f + 2 ≤ k0) (hN : k0 ≤ 65536) (ha : s.age < 4611686018427387904) (hm : m + 5 < 900000) (ht : Cr.Tab w) (hF : ¬ F 0) :
    Calls Tryd.prog 9 #[.pointer (some ⟨g, 0, none⟩)] w fun e w' => e = .returned (.int .i64 (cutG y0 s).2) ∧ LogE w' g p (if (cutG y0 s).2 = 0 then s.cut else s) (cutG y0 s).2 ∧ (∃ F', DiskAt w' F' p (cutG y0 s).1 ∧ ∀ k, F' k → Gr F w w' k ∧ k ≠ g) ∧ Only (fun k => F k ∨ k = g) w w' := by
  obtain ⟨y1, hy1⟩ : ∃ y1, y1 = stepW y0 (s.f + (1 - s.head)) (bstr (headL ((s.age : Int) + 1))) := ⟨_, rfl⟩
  have hf1 : FitE y1 k0 (m + 1) := by
    rw [hy1]
    exact hfit.stepW _ (by omega) _ (by rw [size_bstr]; exact headL_length _)
  obtain ⟨s4, e4, hy4⟩ : ∃ s4 e4, stepB y1 = (s4, e4) := ⟨_, _, rfl⟩
  have hE := stepB_err y1 hf1.err
  have hcg : cutG y0 s = (s4, e4) := by
    unfold cutG
    rw [show ((s.age + 1 : Nat) : Int) = (s.age : Int) + 1 by omega, ← hy1, hy4]
  rw [hcg]
  rw [hy4] at hE
  dsimp only at hE
  clear hcg
  have HY1 := Lib.hid hy1
  have HY4 := Lib.hid hy4
  have HF0 := Lib.hid hfit
  have HF1 := Lib.hid hf1
  clear hy1 hy4 hfit hf1
  rcases hE with hE | hE
  all_goals subst hE
  · obtain ⟨c2, c3, c4, c5, c6, c7, cf⟩ := hl.at_
    have HL := Lib.hid hl
    have HQ := Lib.hid h
    have hlt := hl.lt
    have hne : ((s.age : Int) == 9223372036854775807) = false := by simp; omega
    have HHd := Lib.hid (fun W hb => headSector_any ((s.age + 1 : Nat) : Int) (by omega) (by omega) W (Cr.Tab.below ht hb))
    have e1 : ((s.age + 1 : Nat) : Int) = (s.age : Int) + 1 := by omega
    have HT := Lib.hid ht
    clear h hl ht
    go_enter Tryd.func9, Tryd.ntmps9
    go_wp2_with fail
    rw [e1] at HHd
    have hidx : ((s.f + (1 - s.head) : Nat) : Int) = (s.f : Int) + (1 - (s.head : Int)) := by omega
    have HC2 : Hid (∀ W, Gl w.drew W → W.cell? ⟨g, 2, none⟩ = some (.int .i64 (s.f : Int)) ∧ W.cell? ⟨g, 5, none⟩ = some (.int .i64 (s.age : Int))) := Lib.hid (fun W hW => by
      have h := (HL.out.below hW.undrew).at_
      exact ⟨h.1, h.2.2.2.1⟩)
    have hw1 : IntKind.i64.wrap ((s.f : Int) + (1 - (s.head : Int))) = (s.f : Int) + (1 - (s.head : Int)) := by rw [IntKind.wrap_i64]; omega
    have hw2 : wrap64 ((s.f : Int) + (1 - (s.head : Int))) = (s.f : Int) + (1 - (s.head : Int)) := by unfold wrap64; omega
    have hw3 : IntKind.i64.wrap ((s.age : Int) + 1) = (s.age : Int) + 1 := by rw [IntKind.wrap_i64]; omega
    have hw4 : wrap64 ((s.age : Int) + 1) = (s.age : Int) + 1 := by unfold wrap64; omega
    refine wp_region_last_lit [.is (.pointer (some ⟨g, 0, none⟩)), .is (.pointer (some ⟨g, 0, none⟩)), .is (.pointer (some ⟨g, 0, none⟩)),
      .is (.pointer (some ⟨g, 0, none⟩)), .is (.pointer (some ⟨g, 0, none⟩)), .is (.pointer (some ⟨g, 2, none⟩)), .is (.int .i64 (s.f : Int)), .is (.int .i64 (1 - (s.head : Int))), .is (.int .i64 ((s.f : Int) + (1 - (s.head : Int)))),
      .is (.pointer (some ⟨g, 0, none⟩)), .is (.pointer (some ⟨g, 0, none⟩)), .is (.pointer (some ⟨g, 5, none⟩)), .is (.int .i64 (s.age : Int)), .is (.int .i64 ((s.age : Int) + 1)),
      .has (SecV w.heap.size (headL ((s.age : Int) + 1)))] (by kernel_rfl) (by kernel_rfl) (by kernel_rfl) (by kernel_rfl) ?_
    repeat1' (refine wpInvL_is ?_ ?_; (focus (intro W hW hF K hK; clear hF; obtain ⟨d2, d5⟩ := HC2.out W hW; go_simp; exact hK _ _ (Gl.refl _) rfl)); simp only [Act.put, List.setIfInBounds_toArray, List.set_cons_zero, List.set_cons_succ])
    refine wpInvL_has _ (secV_stable _ _) ?_ ?_
    · intro W hW hF K hK
      clear hF
      go_simp
      refine (HHd.out W hW.undrew).mono ?_
      rintro e w1 ⟨gh, rfl, hR, hgh, hb⟩
      exact ⟨_, rfl, hK _ _ hb ⟨gh, rfl, hR, Nat.le_trans hW.undrew.size hgh⟩⟩
    intro v14
    simp only [Act.put, List.setIfInBounds_toArray, List.set_cons_zero, List.set_cons_succ]
    refine wpInvL_last ?_
    intro W hW hF
    obtain ⟨gh, rfl, hR, hgh⟩ := hF _ (List.mem_cons_self ..)
    clear hF
    have HB := Lib.hid hW.undrew
    have HWr := dwriteG W F p k0 m (s.f + (1 - s.head)) g y0.1 y0.2 (s.cells p) 63 (some ⟨gh, 0, none⟩) 512 (headL ((s.age : Int) + 1)) (HQ.out.below HB.out) HF0.out.fit (by omega) HF0.out.err (HL.out.below HB.out) hg (by omega) hR (fun x hx => by
      obtain rfl := Option.some.inj hx
      intro gg
      have := HQ.out.lts _ gg
      dsimp only at this
      omega)
    rw [hidx] at HWr
    have HWR := Lib.hid HWr
    clear HWr hR hW
    go_simp
    refine HWR.out.mono ?_
    rintro e w1 ⟨rfl, hq, hl1, ho⟩
    refine ⟨_, rfl, ?_⟩
    have hy1 : stepW (y0.1, y0.2) (s.f + (1 - s.head)) (bstr (headL ((s.age : Int) + 1))) = y1 := HY1.out.symm
    rw [hy1] at hq hl1
    clear hy1
    have HO1 := Lib.hid ho
    have HL1 : Hid (LogE w1 g p s y1.2) := Lib.hid hl1
    have hg1 : Hid (¬ Gr F W w1 g) := Lib.hid (gr_new hg (Nat.lt_of_lt_of_le hlt HB.out.size))
    have HBa := Lib.hid (dbarrierG w1 (Gr F W w1) p k0 (m + 1) g y1.1 y1.2 (s.cells p) 63 hq HF1.out.fit (by omega) HF1.out.err hl1 hg1.out)
    have hy4 : stepB (y1.1, y1.2) = (s4, 0) := HY4.out
    rw [hy4] at HBa
    clear hy4 hq hl1 ho HWR HHd HC2 c2 c3 c4 c5 c6 c7 cf
    have s1 := HB.out.size
    have s2 := HO1.out.size
    have hO1 : Hid (Only (fun k => F k ∨ k = g) w w1) := Lib.hid ((Only.of_below HB.out).trans HO1.out)
    have hG1 : ∀ k, (Gr F W w1 k ∨ k = g) → Gr (fun k => F k ∨ k = g) w w1 k := fun k hk => by
      rcases hk with hk | hk
      · rcases hk with hk | ⟨h4, h5⟩
        · exact .inl (.inl hk)
        · exact .inr ⟨by omega, h5⟩
      · exact .inl (.inr hk)
    go_wp2_with (go_at_call 26; refine HBa.out.mono ?_; rintro e w2 ⟨rfl, hq, hl2, ho⟩; have HQ2 := Lib.hid hq; have HO2 := Lib.hid ho; have HL2 : Hid (LogE w2 g p s 0) := Lib.hid hl2; obtain ⟨c2, c3, c4, c5, c6, c7, cf⟩ := HL2.out.at_; obtain ⟨d0, d1, _⟩ := DevC.cells HL2.out; have hlt2 := HL2.out.lt; clear hq ho hl2)
    go_ret
    have s3 := HO2.out.size
    have hcut := cut_end HL2.out.at0 hh
    have hon : Only (fun k => k = g) w2 ((((w2.setCell ⟨g, 4, none⟩ (.int .i64 (1 - (s.head : Int)))).setCell ⟨g, 5, none⟩ (.int .i64 ((s.age : Int) + 1))).setCell ⟨g, 6, none⟩ (.int .i64 0)).setCell ⟨g, 7, none⟩ (.int .i64 2)) :=
      ((((Only.refl (fun k => k = g) w2).setCell (p := ⟨g, 4, none⟩) rfl _).setCell (p := ⟨g, 5, none⟩) rfl _).setCell (p := ⟨g, 6, none⟩) rfl _).setCell (p := ⟨g, 7, none⟩) rfl _
    have s4 := hon.size
    refine ⟨rfl, ?_, ⟨Gr F W w1, ?_, fun k hk => ⟨?_, fun e => hg1.out (e ▸ hk)⟩⟩, ?_⟩
    · exact hcut.e
    · exact HQ2.out.keep hon (fun k hk e => hg1.out (e ▸ hk))
    · rcases hk with hk | ⟨h4, h5⟩
      · exact .inl hk
      · exact .inr ⟨by omega, by omega⟩
    · have o2 : Only (fun k => F k ∨ k = g) w w2 := only_gr hO1.out HO2.out hG1
      exact o2.trans (hon.mono (fun k hk => .inr hk))
  · obtain ⟨c2, c3, c4, c5, c6, c7, cf⟩ := hl.at_
    have HL := Lib.hid hl
    have HQ := Lib.hid h
    have hlt := hl.lt
    have hne : ((s.age : Int) == 9223372036854775807) = false := by simp; omega
    have HHd := Lib.hid (fun W hb => headSector_any ((s.age + 1 : Nat) : Int) (by omega) (by omega) W (Cr.Tab.below ht hb))
    have e1 : ((s.age + 1 : Nat) : Int) = (s.age : Int) + 1 := by omega
    have HT := Lib.hid ht
    clear h hl ht
    go_enter Tryd.func9, Tryd.ntmps9
    go_wp2_with fail
    rw [e1] at HHd
    have hidx : ((s.f + (1 - s.head) : Nat) : Int) = (s.f : Int) + (1 - (s.head : Int)) := by omega
    have HC2 : Hid (∀ W, Gl w.drew W → W.cell? ⟨g, 2, none⟩ = some (.int .i64 (s.f : Int)) ∧ W.cell? ⟨g, 5, none⟩ = some (.int .i64 (s.age : Int))) := Lib.hid (fun W hW => by
      have h := (HL.out.below hW.undrew).at_
      exact ⟨h.1, h.2.2.2.1⟩)
    have hw1 : IntKind.i64.wrap ((s.f : Int) + (1 - (s.head : Int))) = (s.f : Int) + (1 - (s.head : Int)) := by rw [IntKind.wrap_i64]; omega
    have hw2 : wrap64 ((s.f : Int) + (1 - (s.head : Int))) = (s.f : Int) + (1 - (s.head : Int)) := by unfold wrap64; omega
    have hw3 : IntKind.i64.wrap ((s.age : Int) + 1) = (s.age : Int) + 1 := by rw [IntKind.wrap_i64]; omega
    have hw4 : wrap64 ((s.age : Int) + 1) = (s.age : Int) + 1 := by unfold wrap64; omega
    refine wp_region_last_lit [.is (.pointer (some ⟨g, 0, none⟩)), .is (.pointer (some ⟨g, 0, none⟩)), .is (.pointer (some ⟨g, 0, none⟩)),
      .is (.pointer (some ⟨g, 0, none⟩)), .is (.pointer (some ⟨g, 0, none⟩)), .is (.pointer (some ⟨g, 2, none⟩)), .is (.int .i64 (s.f : Int)), .is (.int .i64 (1 - (s.head : Int))), .is (.int .i64 ((s.f : Int) + (1 - (s.head : Int)))),
      .is (.pointer (some ⟨g, 0, none⟩)), .is (.pointer (some ⟨g, 0, none⟩)), .is (.pointer (some ⟨g, 5, none⟩)), .is (.int .i64 (s.age : Int)), .is (.int .i64 ((s.age : Int) + 1)),
      .has (SecV w.heap.size (headL ((s.age : Int) + 1)))] (by kernel_rfl) (by kernel_rfl) (by kernel_rfl) (by kernel_rfl) ?_
    repeat1' (refine wpInvL_is ?_ ?_; (focus (intro W hW hF K hK; clear hF; obtain ⟨d2, d5⟩ := HC2.out W hW; go_simp; exact hK _ _ (Gl.refl _) rfl)); simp only [Act.put, List.setIfInBounds_toArray, List.set_cons_zero, List.set_cons_succ])
    refine wpInvL_has _ (secV_stable _ _) ?_ ?_
    · intro W hW hF K hK
      clear hF
      go_simp
      refine (HHd.out W hW.undrew).mono ?_
      rintro e w1 ⟨gh, rfl, hR, hgh, hb⟩
      exact ⟨_, rfl, hK _ _ hb ⟨gh, rfl, hR, Nat.le_trans hW.undrew.size hgh⟩⟩
    intro v14
    simp only [Act.put, List.setIfInBounds_toArray, List.set_cons_zero, List.set_cons_succ]
    refine wpInvL_last ?_
    intro W hW hF
    obtain ⟨gh, rfl, hR, hgh⟩ := hF _ (List.mem_cons_self ..)
    clear hF
    have HB := Lib.hid hW.undrew
    have HWr := dwriteG W F p k0 m (s.f + (1 - s.head)) g y0.1 y0.2 (s.cells p) 63 (some ⟨gh, 0, none⟩) 512 (headL ((s.age : Int) + 1)) (HQ.out.below HB.out) HF0.out.fit (by omega) HF0.out.err (HL.out.below HB.out) hg (by omega) hR (fun x hx => by
      obtain rfl := Option.some.inj hx
      intro gg
      have := HQ.out.lts _ gg
      dsimp only at this
      omega)
    rw [hidx] at HWr
    have HWR := Lib.hid HWr
    clear HWr hR hW
    go_simp
    refine HWR.out.mono ?_
    rintro e w1 ⟨rfl, hq, hl1, ho⟩
    refine ⟨_, rfl, ?_⟩
    have hy1 : stepW (y0.1, y0.2) (s.f + (1 - s.head)) (bstr (headL ((s.age : Int) + 1))) = y1 := HY1.out.symm
    rw [hy1] at hq hl1
    clear hy1
    have HO1 := Lib.hid ho
    have HL1 : Hid (LogE w1 g p s y1.2) := Lib.hid hl1
    have hg1 : Hid (¬ Gr F W w1 g) := Lib.hid (gr_new hg (Nat.lt_of_lt_of_le hlt HB.out.size))
    have HBa := Lib.hid (dbarrierG w1 (Gr F W w1) p k0 (m + 1) g y1.1 y1.2 (s.cells p) 63 hq HF1.out.fit (by omega) HF1.out.err hl1 hg1.out)
    have hy4 : stepB (y1.1, y1.2) = (s4, 8) := HY4.out
    rw [hy4] at HBa
    clear hy4 hq hl1 ho HWR HHd HC2 c2 c3 c4 c5 c6 c7 cf
    have s1 := HB.out.size
    have s2 := HO1.out.size
    have hO1 : Hid (Only (fun k => F k ∨ k = g) w w1) := Lib.hid ((Only.of_below HB.out).trans HO1.out)
    have hG1 : ∀ k, (Gr F W w1 k ∨ k = g) → Gr (fun k => F k ∨ k = g) w w1 k := fun k hk => by
      rcases hk with hk | hk
      · rcases hk with hk | ⟨h4, h5⟩
        · exact .inl (.inl hk)
        · exact .inr ⟨by omega, h5⟩
      · exact .inl (.inr hk)
    go_wp2_with (go_at_call 26; refine HBa.out.mono ?_; rintro e w2 ⟨rfl, hq, hl2, ho⟩; have HQ2 := Lib.hid hq; have HO2 := Lib.hid ho; have HL2 : Hid (LogE w2 g p s 8) := Lib.hid hl2; obtain ⟨c2, c3, c4, c5, c6, c7, cf⟩ := HL2.out.at_; obtain ⟨d0, d1, _⟩ := DevC.cells HL2.out; have hlt2 := HL2.out.lt; clear hq ho hl2)
    go_ret
    have s3 := HO2.out.size
    refine ⟨rfl, ?_, ⟨Gr F W w1, HQ2.out, fun k hk => ⟨?_, fun e => hg1.out (e ▸ hk)⟩⟩, ?_⟩
    · exact HL2.out
    · rcases hk with hk | ⟨h4, h5⟩
      · exact .inl hk
      · exact .inr ⟨by omega, by omega⟩
    · exact only_gr hO1.out HO2.out hG1
end Go.Proofs.YtcmnfbpmkndfkaaDoor
namespace Go.Proofs.YtcmnfbpmkndfkaaDoor
open Go.ChangeShapes Go.WideShapes Go.ChangeAt Go.RowKit
set_option linter.unusedVariables false
set_option maxRecDepth 100000

/-- a disk all of whose changes last -/
structure Calm (s : DSt) : Prop where
  ln : s.L = s.N
  w : s.W = []
  off : s.off = false
theorem crash_calm {s : DSt} {k m : Nat} (h : Fit s k m) (pk : Nat → Bool) : Calm (crashS pk s) := by
  have hl : (crashS pk s).L.length = s.L.length := lastsK_len _ _ _ _
  have hn : (crashS pk s).N.length = s.N.length := nowK_len _ _ _ _
  have hk1 := h.good.1
  have hk2 := h.good.2.1
  refine ⟨?_, rfl, rfl⟩
  apply List.ext_getElem (by rw [hl, hn, hk1, hk2])
  intro n h1 h2
  have g : (crashS pk s).L.getD n ⟨#[]⟩ = (crashS pk s).N.getD n ⟨#[]⟩ := by
    show (lastsK pk s.L s.W s.W.length).getD n ⟨#[]⟩ = (nowK (lastsK pk s.L s.W s.W.length) s.N s.W s.W.length).getD n ⟨#[]⟩
    rcases now_at (lastsK pk s.L s.W s.W.length) s.N s.W n ⟨#[]⟩ rfl (by rw [← hn]; exact h2) s.W.length (Nat.le_refl _) with g | ⟨g, gW⟩
    · exact g.symm
    · have ha : lastsK (fun _ => true) s.L s.W s.W.length = s.N := h.app
      rw [g, lasts_un pk s.L s.W n ⟨#[]⟩ _ (Nat.le_refl _) gW, ← ha, lasts_un (fun _ => true) s.L s.W n ⟨#[]⟩ _ (Nat.le_refl _) gW]
  rw [List.getD_eq_getElem?_getD, List.getD_eq_getElem?_getD, List.getElem?_eq_getElem h1, List.getElem?_eq_getElem h2] at g
  exact g
theorem Fit.crash {s : DSt} {k m : Nat} (h : Fit s k m) (pk : Nat → Bool) : Fit (crashS pk s) k m := by
  have hc := crash_calm h pk
  refine ⟨good_settle h.good pk, ?_, h.st, ⟨Int.le_refl 0, by show (0 : Int) < _; decide⟩, Nat.zero_le _⟩
  have : lastsK (fun _ => true) (crashS pk s).L [] 0 = (crashS pk s).N := hc.ln
  exact this
theorem chg_down {s : DSt} (hc : chgE s = 8) : (chg s).off = true := by
  unfold chgE at hc
  split at hc
  · rename_i e
    unfold chg
    rw [if_pos e]
  · exact absurd hc (by decide)
theorem chg_stay {s : DSt} (ho : s.off = false) (hc : chgE s = 0) : (chg s).off = false := by
  unfold chgE at hc
  split at hc
  · exact absurd hc (by decide)
  · rename_i e
    unfold chg
    rw [if_neg e]
    exact ho
theorem wr_stay {s : DSt} (ho : s.off = false) (hc : chgE s = 0) {n : Nat} {b : ByteArray} : (wr s n b).off = false := chg_stay ho hc
theorem stepW_ok {s : DSt} (ho : s.off = false) (hc : chgE s = 0) (n : Nat) (b : ByteArray) : stepW (s, 0) n b = (wr s n b, 0) := by
  unfold stepW
  rw [if_pos (show (s, (0 : Int)).2 = 0 from rfl), if_neg (show ¬ (s, (0 : Int)).1.off = true by show ¬ s.off = true; rw [ho]; decide), if_pos (show chgE (s, (0 : Int)).1 = 0 from hc)]
theorem stepW_down {s : DSt} (ho : s.off = false) (hc : chgE s = 8) (n : Nat) (b : ByteArray) : stepW (s, 0) n b = (chg s, 8) := by
  unfold stepW
  rw [if_pos (show (s, (0 : Int)).2 = 0 from rfl), if_neg (show ¬ (s, (0 : Int)).1.off = true by show ¬ s.off = true; rw [ho]; decide), if_neg (show ¬ chgE (s, (0 : Int)).1 = 0 by show ¬ chgE s = 0; rw [hc]; decide)]
theorem stepB_ok {s : DSt} (ho : s.off = false) (hc : chgE s = 0) (ha : App s) : stepB (s, 0) = ({ chg s with L := s.N, N := s.N, W := [] }, 0) := by
  unfold stepB
  rw [if_pos (show (s, (0 : Int)).2 = 0 from rfl), if_neg (show ¬ (s, (0 : Int)).1.off = true by show ¬ s.off = true; rw [ho]; decide), if_pos (show chgE (s, (0 : Int)).1 = 0 from hc)]
  show (settleS (fun _ => true) (chg s), (0 : Int)) = _
  rw [app_barrier ha]
theorem stepB_down {s : DSt} (ho : s.off = false) (hc : chgE s = 8) : stepB (s, 0) = (chg s, 8) := by
  unfold stepB
  rw [if_pos (show (s, (0 : Int)).2 = 0 from rfl), if_neg (show ¬ (s, (0 : Int)).1.off = true by show ¬ s.off = true; rw [ho]; decide), if_neg (show ¬ chgE (s, (0 : Int)).1 = 0 by show ¬ chgE s = 0; rw [hc]; decide)]
/-- the writes of the parts -/
theorem parts_run {s : DSt} (hc : Calm s) (at_ : Nat) (B : List Nat) (j : Nat) :
    (∃ s', partsG (s, 0) at_ B j = (s', 0) ∧ s'.off = false ∧ s'.L = s.N ∧ s'.N = partsK s.N at_ B j ∧ ∀ z ∈ s'.W, ∃ i, i < j ∧ z = (at_ + i, partSec B i)) ∨
    (∃ s', partsG (s, 0) at_ B j = (s', 8) ∧ s'.off = true ∧ s'.L = s.N ∧ ∀ z ∈ s'.W, ∃ i, i < j ∧ z = (at_ + i, partSec B i)) := by
  induction j with
  | zero => exact .inl ⟨s, rfl, hc.off, hc.ln, rfl, fun z hz => by rw [hc.w] at hz; cases hz⟩
  | succ j ih =>
    have e : partsG (s, 0) at_ B (j + 1) = stepW (partsG (s, 0) at_ B j) (at_ + j) (partSec B j) := rfl
    rcases ih with ⟨s', h1, h2, h3, h4, h5⟩ | ⟨s', h1, h2, h3, h5⟩
    · rcases chgE_two s' with hE | hE
      · refine .inl ⟨wr s' (at_ + j) (partSec B j), by rw [e, h1, stepW_ok h2 hE], wr_stay h2 hE, ?_, ?_, ?_⟩
        · show (chg s').L = _; rw [chg_L]; exact h3
        · show s'.N.set (at_ + j) (partSec B j) = _; rw [h4]; rfl
        · intro z hz
          have hz' : z ∈ s'.W ++ [(at_ + j, partSec B j)] := hz
          rcases List.mem_append.1 hz' with hz | hz
          · obtain ⟨i, hi, e⟩ := h5 z hz
            exact ⟨i, by omega, e⟩
          · rw [List.mem_singleton] at hz
            exact ⟨j, Nat.lt_succ_self j, hz⟩
      · refine .inr ⟨chg s', by rw [e, h1, stepW_down h2 hE], chg_down hE, ?_, ?_⟩
        · rw [chg_L]; exact h3
        · intro z hz
          rw [chg_W] at hz
          obtain ⟨i, hi, e⟩ := h5 z hz
          exact ⟨i, by omega, e⟩
    · refine .inr ⟨s', by rw [e, h1, stepW_no _ _ _ rfl], h2, h3, fun z hz => ?_⟩
      obtain ⟨i, hi, e⟩ := h5 z hz
      exact ⟨i, by omega, e⟩
theorem FitE.partsG {x : DSt × Int} {k m : Nat} (h : FitE x k m) (at_ : Nat) (B : List Nat) (j : Nat) (ha : at_ + j ≤ k) : FitE (Go.Proofs.YtcmnfbpmkndfkaaDoor.partsG x at_ B j) k (m + j) := by
  induction j with
  | zero => exact h
  | succ j ih => exact (ih (by omega)).stepW _ (by omega) _ (partSec_size B j)
theorem startL_length (age number : Int) (l : List Nat) : (startL age number l).length = 512 := by
  unfold startL
  exact padL_length _ (by have := recL_len age number l; rw [List.length_cons, closedL_length]; omega)
theorem FitE.appG {x : DSt × Int} {k m : Nat} (h : FitE x k m) (ls : LSt) (B : List Nat) (ha : ls.f + ls.used + 1 + sectorsN B.length ≤ k) : FitE (Go.Proofs.YtcmnfbpmkndfkaaDoor.appG x ls B) k (m + sectorsN B.length + 3) :=
  (((h.partsG (ls.f + ls.used + 1) B (sectorsN B.length) ha).stepB.stepW (ls.f + ls.used) (by omega) _ (by rw [size_bstr, startL_length])).stepB)
/-- what an Append leaves -/
theorem appG_run {s : DSt} {k m : Nat} (hf : Fit s k m) (hc : Calm s) (ls : LSt) (B : List Nat) (ha : ls.f + ls.used + 1 + sectorsN B.length ≤ k) :
    (∃ s', appG (s, 0) ls B = (s', 0) ∧ Calm s' ∧ s'.N = appN s.N ls B) ∨
    (∃ s', appG (s, 0) ls B = (s', 8) ∧ ((s'.L = s.N ∧ ∀ z ∈ s'.W, ∃ i, i < sectorsN B.length ∧ z = (ls.f + ls.used + 1 + i, partSec B i)) ∨
      (s'.L = partsK s.N (ls.f + ls.used + 1) B (sectorsN B.length) ∧ (s'.W = [] ∨ s'.W = [(ls.f + ls.used, bstr (startL (ls.age : Int) (ls.number : Int) B))])))) := by
  have hF1 := FitE.partsG (x := (s, 0)) ⟨hf, .inl rfl⟩ (ls.f + ls.used + 1) B (sectorsN B.length) ha
  rw [show appN s.N ls B = (partsK s.N (ls.f + ls.used + 1) B (sectorsN B.length)).set (ls.f + ls.used) (bstr (startL (ls.age : Int) (ls.number : Int) B)) from rfl]
  unfold Go.Proofs.YtcmnfbpmkndfkaaDoor.appG
  generalize bstr (startL (ls.age : Int) (ls.number : Int) B) = st at *
  rcases parts_run hc (ls.f + ls.used + 1) B (sectorsN B.length) with ⟨s1, h1, h2, h3, h4, h5⟩ | ⟨s1, h1, h2, h3, h5⟩
  · rw [h1] at hF1 ⊢
    rcases chgE_two s1 with hE | hE
    · rw [stepB_ok h2 hE hF1.fit.app]
      have o1 : (chg s1).off = false := chg_stay h2 hE
      rw [h4]
      generalize hs2 : ({ chg s1 with L := partsK s.N (ls.f + ls.used + 1) B (sectorsN B.length), N := partsK s.N (ls.f + ls.used + 1) B (sectorsN B.length), W := [] } : DSt) = s2
      have L2 : s2.L = partsK s.N (ls.f + ls.used + 1) B (sectorsN B.length) := by rw [← hs2]
      have N2 : s2.N = partsK s.N (ls.f + ls.used + 1) B (sectorsN B.length) := by rw [← hs2]
      have W2 : s2.W = [] := by rw [← hs2]
      have O2 : s2.off = false := by rw [← hs2]; exact o1
      clear hs2
      rcases chgE_two s2 with hE | hE
      · rw [stepW_ok O2 hE]
        have L3 : (wr s2 (ls.f + ls.used) st).L = s2.L := by show (chg s2).L = _; rw [chg_L]
        have N3 : (wr s2 (ls.f + ls.used) st).N = s2.N.set (ls.f + ls.used) st := rfl
        have W3 : (wr s2 (ls.f + ls.used) st).W = [(ls.f + ls.used, st)] := by show s2.W ++ _ = _; rw [W2]; rfl
        have O3 : (wr s2 (ls.f + ls.used) st).off = false := wr_stay O2 hE
        have A3 : App (wr s2 (ls.f + ls.used) st) := app_wr (by unfold App; rw [W2, L2, N2]; rfl) _ _
        generalize wr s2 (ls.f + ls.used) st = s3 at *
        rcases chgE_two s3 with hE | hE
        · rw [stepB_ok O3 hE A3]
          refine .inl ⟨_, rfl, ⟨rfl, rfl, chg_stay O3 hE⟩, ?_⟩
          show s3.N = _
          rw [N3, N2]
        · rw [stepB_down O3 hE]
          refine .inr ⟨_, rfl, .inr ⟨?_, .inr ?_⟩⟩
          · rw [chg_L, L3, L2]
          · rw [chg_W, W3]
      · rw [stepW_down O2 hE, stepB_no _ rfl]
        refine .inr ⟨_, rfl, .inr ⟨?_, .inl ?_⟩⟩
        · rw [chg_L, L2]
        · rw [chg_W, W2]
    · rw [stepB_down h2 hE, stepW_no _ _ _ rfl, stepB_no _ rfl]
      refine .inr ⟨_, rfl, .inl ⟨?_, ?_⟩⟩
      · rw [chg_L]; exact h3
      · rw [chg_W]; exact h5
  · rw [h1, stepB_no _ rfl, stepW_no _ _ _ rfl, stepB_no _ rfl]
    exact .inr ⟨_, rfl, .inl ⟨h3, h5⟩⟩
/-- some of the parts are there, and nothing else has changed -/
def Torn (N D : List ByteArray) (at_ : Nat) (B : List Nat) (K : Nat) : Prop := D.length = N.length ∧ ∀ n, D.getD n ⟨#[]⟩ = N.getD n ⟨#[]⟩ ∨ ∃ i, i < K ∧ n = at_ + i ∧ D.getD n ⟨#[]⟩ = partSec B i
theorem getD_past (l : List ByteArray) (n : Nat) (h : l.length ≤ n) (d : ByteArray) : l.getD n d = d := by
  rw [List.getD_eq_getElem?_getD, List.getElem?_eq_none h]; rfl
theorem crash_len {s : DSt} {k m : Nat} (h : Fit s k m) (pk : Nat → Bool) : (crashS pk s).N.length = k := by
  rw [show (crashS pk s).N.length = s.N.length from nowK_len _ _ _ _]
  exact h.good.2.1
/-- what a crash behind it leaves -/
theorem appG_crash {s s' : DSt} {k m : Nat} (hf : Fit s k m) (hc : Calm s) (ls : LSt) (B : List Nat) (ha : ls.f + ls.used + 1 + sectorsN B.length ≤ k) (hr : appG (s, 0) ls B = (s', 8)) (pk : Nat → Bool) :
    Torn s.N (crashS pk s').N (ls.f + ls.used + 1) B (sectorsN B.length) ∨ (crashS pk s').N = appN s.N ls B := by
  have hF := FitE.appG (x := (s, 0)) ⟨hf, .inl rfl⟩ ls B ha
  rw [hr] at hF
  have hfit : Fit s' k (m + sectorsN B.length + 3) := hF.fit
  have hlen := crash_len hfit pk
  have hk := hf.good.2.1
  rcases appG_run hf hc ls B ha with ⟨s1, h1, _⟩ | ⟨s1, h1, h2⟩
  · rw [hr] at h1
    injection h1 with _ h1
    exact absurd h1 (by decide)
  · rw [hr] at h1
    injection h1 with h1 _
    subst h1
    rcases h2 with ⟨hL, hW⟩ | ⟨hL, hW⟩
    · refine .inl ⟨by rw [hlen, hk], fun n => ?_⟩
      by_cases hn : n < k
      · rcases crash_at hfit.app pk n (by rw [hfit.good.1]; exact hn) (by rw [hfit.good.1, hfit.good.2.1]) with e | ⟨j, hj, e⟩
        · exact .inl (by rw [e, hL])
        · obtain ⟨i, hi, e'⟩ := hW _ (List.mem_of_getElem? e)
          injection e' with e1 e2
          exact .inr ⟨i, hi, e1, e2⟩
      · exact .inl (by rw [getD_past _ _ (by omega), getD_past _ _ (by omega)])
    · have hcr : (crashS pk s').N = lastsK pk s'.L s'.W s'.W.length := (crash_calm hfit pk).ln.symm
      have htorn : Torn s.N (partsK s.N (ls.f + ls.used + 1) B (sectorsN B.length)) (ls.f + ls.used + 1) B (sectorsN B.length) := by
        refine ⟨partsK_length _ _ _ _, fun n => ?_⟩
        by_cases h : n < ls.f + ls.used + 1 ∨ ls.f + ls.used + 1 + sectorsN B.length ≤ n
        · exact .inl (partsK_out _ _ _ _ _ _ h)
        · obtain ⟨i, rfl⟩ : ∃ i, n = ls.f + ls.used + 1 + i := ⟨n - (ls.f + ls.used + 1), by omega⟩
          exact .inr ⟨i, by omega, rfl, partsK_in _ _ _ _ _ _ (by omega) (by omega)⟩
      rcases hW with hW | hW
      · rw [hcr, hW, hL]
        exact .inl htorn
      · rw [hcr, hW, hL]
        by_cases hp : pk 0 = true
        · right
          show (if pk 0 = true then _ else _) = _
          rw [if_pos hp]
          rfl
        · left
          have e : lastsK pk (partsK s.N (ls.f + ls.used + 1) B (sectorsN B.length)) [(ls.f + ls.used, bstr (startL (ls.age : Int) (ls.number : Int) B))] 1 = partsK s.N (ls.f + ls.used + 1) B (sectorsN B.length) := by
            show (if pk 0 = true then _ else _) = _
            rw [if_neg hp]
            rfl
          exact e.symm ▸ htorn
/-- what a Truncate leaves -/
theorem cutG_run {s : DSt} {k m : Nat} (hf : Fit s k m) (hc : Calm s) (ls : LSt) (ha : ls.f + (1 - ls.head) < k) (pk : Nat → Bool) :
    (∃ s', cutG (s, 0) ls = (s', 0) ∧ Calm s' ∧ s'.N = s.N.set (ls.f + (1 - ls.head)) (bstr (headL ((ls.age + 1 : Nat) : Int)))) ∨
    (∃ s', cutG (s, 0) ls = (s', 8) ∧ ((crashS pk s').N = s.N ∨ (crashS pk s').N = s.N.set (ls.f + (1 - ls.head)) (bstr (headL ((ls.age + 1 : Nat) : Int))))) := by
  have hF1 := FitE.stepW (x := (s, 0)) ⟨hf, .inl rfl⟩ (ls.f + (1 - ls.head)) ha (bstr (headL ((ls.age + 1 : Nat) : Int))) (by rw [size_bstr, headL_length])
  have hF2 := hF1.stepB
  unfold Go.Proofs.YtcmnfbpmkndfkaaDoor.cutG
  generalize bstr (headL ((ls.age + 1 : Nat) : Int)) = hd at *
  rcases chgE_two s with hE | hE
  · rw [stepW_ok hc.off hE] at hF1 hF2 ⊢
    have L3 : (wr s (ls.f + (1 - ls.head)) hd).L = s.N := by show (chg s).L = _; rw [chg_L, hc.ln]
    have N3 : (wr s (ls.f + (1 - ls.head)) hd).N = s.N.set (ls.f + (1 - ls.head)) hd := rfl
    have W3 : (wr s (ls.f + (1 - ls.head)) hd).W = [(ls.f + (1 - ls.head), hd)] := by show s.W ++ _ = _; rw [hc.w]; rfl
    have O3 : (wr s (ls.f + (1 - ls.head)) hd).off = false := wr_stay hc.off hE
    generalize wr s (ls.f + (1 - ls.head)) hd = s3 at *
    rcases chgE_two s3 with hE | hE
    · rw [stepB_ok O3 hE hF1.fit.app]
      exact .inl ⟨_, rfl, ⟨rfl, rfl, chg_stay O3 hE⟩, N3⟩
    · rw [stepB_down O3 hE] at hF2 ⊢
      refine .inr ⟨_, rfl, ?_⟩
      have hcr : (crashS pk (chg s3)).N = lastsK pk (chg s3).L (chg s3).W (chg s3).W.length := (crash_calm hF2.fit pk).ln.symm
      rw [hcr, chg_L, chg_W, L3, W3]
      by_cases hp : pk 0 = true
      · right
        show (if pk 0 = true then _ else _) = _
        rw [if_pos hp]
        rfl
      · left
        show (if pk 0 = true then _ else _) = _
        rw [if_neg hp]
        rfl
  · rw [stepW_down hc.off hE, stepB_no _ rfl] at hF2 ⊢
    refine .inr ⟨_, rfl, .inl ?_⟩
    have hcr : (crashS pk (chg s)).N = lastsK pk (chg s).L (chg s).W (chg s).W.length := (crash_calm hF2.fit pk).ln.symm
    rw [hcr, chg_L, chg_W, hc.w, hc.ln]
    rfl
end Go.Proofs.YtcmnfbpmkndfkaaDoor
namespace Go.Proofs.YtcmnfbpmkndfkaaDoor
open Go.ChangeShapes Go.WideShapes Go.ChangeAt Go.RowKit
set_option linter.unusedVariables false
set_option maxRecDepth 100000

/-- no start of a record, or one of an elder age -/
def Elder (age : Nat) (l : List Nat) : Prop := l[0]? ≠ some 72 ∨ ∃ (a n : Nat) (B : List Nat), a < age ∧ l = startL (a : Int) (n : Int) B
theorem Elder.more {a b : Nat} {l : List Nat} (h : Elder a l) (hab : a ≤ b) : Elder b l := by
  rcases h with h | ⟨x, n, B, hx, e⟩
  · exact .inl h
  · exact .inr ⟨x, n, B, by omega, e⟩
theorem startL_zero (a n : Int) (B : List Nat) : (startL a n B)[0]? = some 72 := rfl
theorem elder_bytes (age : Nat) (C : List Nat) : Elder age (bytesL C) := .inl (by
  show some 68 ≠ some 72
  decide)
theorem elder_part (age : Nat) (B : List Nat) (h256 : ∀ c ∈ B, c < 256) (j : Nat) : Elder age (bytesOf (partSec B j)) := by
  unfold partSec
  rw [bytesOf_bstr _ (bytesL_lt _ (fun c hc => h256 c (List.mem_of_mem_drop (List.mem_of_mem_take hc))))]
  exact elder_bytes age _
theorem norec_elder {N : List ByteArray} {s : LSt} (hsz : ∀ i, i < N.length → (secAt N i).length = 512) (hu : s.used ≤ s.c) (hc : s.c ≤ 30000) (hf : s.f + s.c ≤ N.length) (ha : s.age < 4611686018427387904) (h : s.used < s.c → Elder s.age (secAt N (s.f + s.used))) : NoRec N s := by
  rcases rec_total hsz hu hc hf with h1 | ⟨B, hB⟩
  · exact h1
  · have hs : secAt N (s.f + s.used) = startL (s.age : Int) (s.number : Int) B := hB.2.2.2.2.1
    rcases h hB.1 with e | ⟨a, n, B', hlt, e⟩
    · exact absurd (by rw [hs]; rfl) e
    · exact noRec_bad hB.1 (bad_elder (n := n) (B := B') e hlt ha)
def IsRecs (N : List ByteArray) : LSt → List (List Nat) → Prop
  | _, [] => True
  | s, B :: R => IsRec N s B ∧ IsRecs N (s.passed B.length) R
theorem recs_of {N : List ByteArray} : ∀ (R : List (List Nat)) (s : LSt), IsRecs N s R → NoRec N (s.through R) → Recs N s R
  | [], s, _, h => h
  | B :: R, s, h, hn => ⟨h.1, recs_of R _ h.2 hn⟩
theorem through_more : ∀ (R : List (List Nat)) (s : LSt), s.used ≤ (s.through R).used ∧ (s.through R).f = s.f ∧ (s.through R).c = s.c ∧ (s.through R).age = s.age ∧ (s.through R).head = s.head ∧ (s.through R).number = s.number + R.length
  | [], s => ⟨Nat.le_refl _, rfl, rfl, rfl, rfl, rfl⟩
  | B :: R, s => by
    obtain ⟨h1, h2, h3, h4, h5, h6⟩ := through_more R (s.passed B.length)
    refine ⟨?_, h2, h3, h4, h5, ?_⟩
    · exact Nat.le_trans (show s.used ≤ s.used + (1 + sectorsN B.length) by omega) h1
    · show ((s.passed B.length).through R).number = _
      rw [h6, List.length_cons]
      show s.number + 1 + R.length = _
      omega
theorem IsRecs.congr {N N' : List ByteArray} (hl : N'.length = N.length) : ∀ (R : List (List Nat)) (s : LSt), IsRecs N s R → (∀ i d, s.f + s.used ≤ i → i < s.f + (s.through R).used → N'.getD i d = N.getD i d) → IsRecs N' s R
  | [], _, _, _ => trivial
  | B :: R, s, h, he => by
    obtain ⟨h1, h2, _⟩ := through_more R (s.passed B.length)
    have hu : (s.passed B.length).used = s.used + (1 + sectorsN B.length) := rfl
    have ht : (s.through (B :: R)).used = ((s.passed B.length).through R).used := rfl
    refine ⟨isRec_congr h.1 hl (fun i d g1 g2 => he i d g1 (by rw [ht]; omega)), IsRecs.congr hl R _ h.2 (fun i d g1 g2 => he i d ?_ g2)⟩
    have : s.f + (s.passed B.length).used ≤ i := g1
    omega
theorem IsRecs.snoc {N : List ByteArray} : ∀ (R : List (List Nat)) (s : LSt) (B : List Nat), IsRecs N s R → IsRec N (s.through R) B → IsRecs N s (R ++ [B])
  | [], _, _, _, h => ⟨h, trivial⟩
  | A :: R, s, B, h, hb => ⟨h.1, IsRecs.snoc R _ B h.2 hb⟩
theorem IsRecs.sec {N : List ByteArray} : ∀ (R : List (List Nat)) (s : LSt), IsRecs N s R → ∀ i, s.used ≤ i → i < (s.through R).used → Elder (s.age + 1) (secAt N (s.f + i))
  | [], s, _, i, h1, h2 => by
    have : (s.through []).used = s.used := rfl
    omega
  | B :: R, s, h, i, h1, h2 => by
    have hu : (s.passed B.length).used = s.used + (1 + sectorsN B.length) := rfl
    by_cases hi : s.used + (1 + sectorsN B.length) ≤ i
    · exact IsRecs.sec R (s.passed B.length) h.2 i (by rw [hu]; exact hi) h2
    · obtain ⟨_, _, _, h4, h5, _⟩ := h.1
      by_cases e : i = s.used
      · subst e
        exact .inr ⟨s.age, s.number, B, Nat.lt_succ_self _, h5⟩
      · obtain ⟨j, rfl⟩ : ∃ j, i = s.used + 1 + j := ⟨i - s.used - 1, by omega⟩
        have hj : 511 * j < B.length := by unfold sectorsN at hi; omega
        have := (h4 j hj).2
        rw [show s.f + (s.used + 1 + j) = s.f + s.used + 1 + j by omega]
        unfold secAt
        rw [this]
        exact elder_bytes _ _
/-- where a log's records begin -/
def LSt.zero (s : LSt) : LSt := ⟨s.f, s.c, s.head, s.age, 0, 2⟩
structure LogOK (N : List ByteArray) (s : LSt) (R : List (List Nat)) : Prop where
  heads : Heads N s
  th : s = s.zero.through R
  recs : IsRecs N s.zero R
  old : ∀ i, s.used ≤ i → i < s.c → Elder s.age (secAt N (s.f + i))
  used : s.used ≤ s.c
  len : s.f + s.c ≤ N.length
  c3 : 3 ≤ s.c ∧ s.c ≤ 30000
theorem LogOK.two {N : List ByteArray} {s : LSt} {R : List (List Nat)} (h : LogOK N s R) : 2 ≤ s.used := by
  rw [h.th]
  exact (through_more R s.zero).1
theorem LogOK.open_ {N : List ByteArray} {s : LSt} {R : List (List Nat)} (h : LogOK N s R) (hsz : ∀ i, i < N.length → (secAt N i).length = 512) : Recs N s.zero R :=
  recs_of R _ h.recs (by rw [← h.th]; exact norec_elder hsz h.used h.c3.2 h.len h.heads.small (fun g => h.old _ (Nat.le_refl _) g))
theorem passed_zero (s : LSt) (n : Nat) : (s.passed n).zero = s.zero := rfl
theorem LogOK.append {N : List ByteArray} {s : LSt} {R : List (List Nat)} (h : LogOK N s R) (B : List Nat) (h256 : ∀ c ∈ B, c < 256) (hu : s.used + (1 + sectorsN B.length) ≤ s.c) (hnum : s.number ≤ 65536) : LogOK (appN N s B) (s.passed B.length) (R ++ [B]) := by
  have h2 := h.two
  have hl := appN_length N s B
  have hu' : (s.passed B.length).used = s.used + (1 + sectorsN B.length) := rfl
  refine ⟨h.heads.congr ⟨rfl, rfl, rfl⟩ (fun i d hi => appN_out N s B i d (.inl (by omega))), ?_, ?_, ?_, hu, by rw [hl]; exact h.len, h.c3⟩
  · rw [passed_zero, through_snoc, ← h.th]
  · rw [passed_zero]
    refine IsRecs.snoc R _ B (IsRecs.congr hl R _ h.recs (fun i d g1 g2 => appN_out N s B i d (.inl ?_))) ?_
    · rw [← h.th] at g2
      exact g2
    · rw [← h.th]
      exact isRec_app N s B h256 hu h.c3.2 h.len h.heads.small hnum
  · intro i g1 g2
    have g2' : i < s.c := g2
    rw [hu'] at g1
    show Elder s.age (secAt (appN N s B) (s.f + i))
    unfold secAt
    rw [appN_out N s B _ _ (.inr (by omega))]
    exact h.old i (by omega) g2'
theorem LogOK.torn {N D : List ByteArray} {s : LSt} {R : List (List Nat)} (h : LogOK N s R) (B : List Nat) (h256 : ∀ c ∈ B, c < 256) {K : Nat} (ht : Torn N D (s.f + s.used + 1) B K) : LogOK D s R := by
  obtain ⟨hl, ht⟩ := ht
  have h2 := h.two
  have hout : ∀ i d, i < s.f + s.used + 1 → D.getD i d = N.getD i d := fun i d hi => by
    rcases ht i with e | ⟨j, _, e, _⟩
    · by_cases hi : i < N.length
      · rw [List.getD_eq_getElem?_getD, List.getD_eq_getElem?_getD, List.getElem?_eq_getElem (by omega : i < D.length), List.getElem?_eq_getElem hi] at e ⊢
        exact e
      · rw [getD_past _ _ (by omega), getD_past _ _ (by omega)]
    · omega
  refine ⟨h.heads.congr ⟨rfl, rfl, rfl⟩ (fun i d hi => hout i d (by omega)), h.th, ?_, ?_, h.used, by rw [hl]; exact h.len, h.c3⟩
  · refine IsRecs.congr hl R _ h.recs (fun i d g1 g2 => hout i d ?_)
    rw [← h.th] at g2
    have : i < s.f + s.used := g2
    omega
  · intro i g1 g2
    unfold secAt
    rcases ht (s.f + i) with e | ⟨j, _, _, e⟩
    · rw [e]
      exact h.old i g1 g2
    · rw [e]
      exact elder_part _ B h256 j
theorem LogOK.cut {N : List ByteArray} {s : LSt} {R : List (List Nat)} (h : LogOK N s R) (ha : s.age + 1 < 4611686018427387904) : LogOK (N.set (s.f + (1 - s.head)) (bstr (headL ((s.age + 1 : Nat) : Int)))) s.cut [] := by
  have h2 := h.two
  have hl := h.len
  have hc := h.c3
  refine ⟨h.heads.cut (by omega) ha, rfl, trivial, ?_, by show 2 ≤ s.c; omega, by rw [List.length_set]; exact hl, hc⟩
  intro i g1 g2
  have g1' : 2 ≤ i := g1
  have g2' : i < s.c := g2
  show Elder (s.age + 1) (secAt _ (s.f + i))
  unfold secAt
  rw [getD_set_ne _ _ _ _ _ (by omega)]
  by_cases hi : i < s.used
  · refine IsRecs.sec R s.zero h.recs i g1' ?_
    rw [← h.th]
    exact hi
  · exact (h.old i (by omega) g2').more (Nat.le_succ _)
end Go.Proofs.YtcmnfbpmkndfkaaDoor
namespace Go.Proofs.YtcmnfbpmkndfkaaDoor
open Go.ChangeShapes Go.WideShapes Go.ChangeAt Go.RowKit
set_option linter.unusedVariables false
set_option maxRecDepth 100000

/-- a log whose records are R, on a disk all of whose changes last, that may be armed -/
structure Lc (w wr : World) (p g : Nat) (F : Nat → Prop) (s : LSt) (d : DSt) (R : List (List Nat)) (m : Nat) : Prop where
  log : LogAt wr g p s
  disk : DiskAt wr F p d
  fit : Fit d 18 m
  calm : Calm d
  ok : LogOK d.N s R
  notF : ¬ F g
  new : ∀ j, F j → w.heap.size ≤ j
  newG : w.heap.size ≤ g
  below : Below w.heap.size w wr
  at_ : s.f = 2 ∧ s.c = 14
  age : s.age ≤ m
  num : s.number + 2 ≤ s.used
theorem Lc.to {w wr wr' : World} {p g m : Nat} {F : Nat → Prop} {s : LSt} {d : DSt} {R : List (List Nat)} (h : Lc w wr p g F s d R m) (hb : Below wr.heap.size wr wr') : Lc w wr' p g F s d R m :=
  ⟨h.log.below hb, h.disk.below hb, h.fit, h.calm, h.ok, h.notF, h.new, h.newG, Below.step hb h.below h.below.size, h.at_, h.age, h.num⟩
theorem Lc.more {w wr : World} {p g m m' : Nat} {F : Nat → Prop} {s : LSt} {d : DSt} {R : List (List Nat)} (h : Lc w wr p g F s d R m) (hm : m ≤ m') : Lc w wr p g F s d R m' :=
  ⟨h.log, h.disk, h.fit.more hm, h.calm, h.ok, h.notF, h.new, h.newG, h.below, h.at_, Nat.le_trans h.age hm, h.num⟩
/-- a disk on which a call was broken off: a crash leaves the records R, or R' -/
structure Lb (w wr : World) (p : Nat) (F : Nat → Prop) (d : DSt) (s : LSt) (R : List (List Nat)) (s' : LSt) (R' : List (List Nat)) (m : Nat) : Prop where
  disk : DiskAt wr F p d
  fit : Fit d 18 m
  ok : ∀ pk, LogOK (crashS pk d).N s R ∨ LogOK (crashS pk d).N s' R'
  new : ∀ j, F j → w.heap.size ≤ j
  below : Below w.heap.size w wr
  at_ : s.f = 2 ∧ s.c = 14 ∧ s'.f = 2 ∧ s'.c = 14
  age : s.age ≤ m ∧ s'.age ≤ m
theorem ok_n18 : LogOK N18 s18 [] := by
  refine ⟨fmt_heads _ _ _ (by decide) (by rw [blank18_length]; decide), rfl, trivial, fun i g1 g2 => ?_, (by decide : (2 : Nat) ≤ 14), by rw [N18_length]; decide, (by decide : (3 : Nat) ≤ 14 ∧ (14 : Nat) ≤ 30000)⟩
  have g1' : 2 ≤ i := g1
  have g2' : i < 14 := g2
  refine .inl ?_
  show (bytesOf (N18.getD (2 + i) ⟨#[]⟩))[0]? ≠ some 72
  rw [N18_blank _ (by omega) (by omega), bytes_blank]
  decide
/-- a disk that nobody armed stays so, and does not end -/
def Qk (d : DSt) (r : Int) (d' : DSt) : Prop := d.armed = false → d.left = 0 → d.off = false → r ≠ 8 ∧ d'.armed = false ∧ d'.left = 0
def QS (x : DSt × Int) : Prop := x.1.armed = false ∧ x.1.left = 0 ∧ x.1.off = false ∧ x.2 = 0
theorem QS.chgE {x : DSt × Int} (h : QS x) : Go.Proofs.YtcmnfbpmkndfkaaDoor.chgE x.1 = 0 := by
  unfold Go.Proofs.YtcmnfbpmkndfkaaDoor.chgE
  rw [if_neg (by rw [h.1]; simp)]
theorem QS.chg {x : DSt × Int} (h : QS x) : (Go.Proofs.YtcmnfbpmkndfkaaDoor.chg x.1).armed = false ∧ (Go.Proofs.YtcmnfbpmkndfkaaDoor.chg x.1).left = 0 ∧ (Go.Proofs.YtcmnfbpmkndfkaaDoor.chg x.1).off = false := by
  unfold Go.Proofs.YtcmnfbpmkndfkaaDoor.chg
  rw [if_neg (by rw [h.1]; simp)]
  exact ⟨h.1, by show (if x.1.armed = true then _ else x.1.left) = 0; rw [h.1]; simpa using h.2.1, h.2.2.1⟩
theorem QS.stepW {x : DSt × Int} (h : QS x) (n : Nat) (b : ByteArray) : QS (Go.Proofs.YtcmnfbpmkndfkaaDoor.stepW x n b) := by
  have hc := h.chg
  unfold Go.Proofs.YtcmnfbpmkndfkaaDoor.stepW
  rw [if_pos h.2.2.2, if_neg (by rw [h.2.2.1]; decide), if_pos h.chgE]
  exact ⟨hc.1, hc.2.1, hc.2.2, rfl⟩
theorem QS.stepB {x : DSt × Int} (h : QS x) : QS (Go.Proofs.YtcmnfbpmkndfkaaDoor.stepB x) := by
  have hc := h.chg
  unfold Go.Proofs.YtcmnfbpmkndfkaaDoor.stepB
  rw [if_pos h.2.2.2, if_neg (by rw [h.2.2.1]; decide), if_pos h.chgE]
  exact ⟨hc.1, hc.2.1, hc.2.2, rfl⟩
theorem QS.partsG {x : DSt × Int} (h : QS x) (a : Nat) (B : List Nat) : ∀ k, QS (Go.Proofs.YtcmnfbpmkndfkaaDoor.partsG x a B k)
  | 0 => h
  | k + 1 => (QS.partsG h a B k).stepW _ _
theorem qk_app {d d' : DSt} {s : LSt} {B : List Nat} {r : Int} (h : appG (d, 0) s B = (d', r)) : Qk d r d' := fun h1 h2 h3 => by
  have hq : QS (d, (0 : Int)) := ⟨h1, h2, h3, rfl⟩
  have := (((hq.partsG (s.f + s.used + 1) B (sectorsN B.length)).stepB).stepW (s.f + s.used) (bstr (startL (s.age : Int) (s.number : Int) B))).stepB
  have this : QS (appG (d, 0) s B) := this
  rw [h] at this
  have e : r = 0 := this.2.2.2
  exact ⟨by rw [e]; decide, this.1, this.2.1⟩
theorem qk_cut {d d' : DSt} {s : LSt} {r : Int} (h : cutG (d, 0) s = (d', r)) : Qk d r d' := fun h1 h2 h3 => by
  have hq : QS (d, (0 : Int)) := ⟨h1, h2, h3, rfl⟩
  have := (hq.stepW (s.f + (1 - s.head)) (bstr (headL ((s.age + 1 : Nat) : Int)))).stepB
  have this : QS (cutG (d, 0) s) := this
  rw [h] at this
  have e : r = 0 := this.2.2.2
  exact ⟨by rw [e]; decide, this.1, this.2.1⟩
/-- what a call on a log changed: blocks of the disk and the log; the disk's new blocks are new -/
def Ext (w : World) (F : Nat → Prop) (g : Nat) (w' : World) (F' : Nat → Prop) : Prop := (∀ j, F' j → F j ∨ w.heap.size ≤ j) ∧ Only (fun j => F j ∨ j = g) w w'
theorem lc_append (w wr : World) (p g m n cap : Nat) (F : Nat → Prop) (a : Option Addr) (s : LSt) (d : DSt) (R : List (List Nat)) (B : List Nat) (h : Lc w wr p g F s d R m) (hB : ByteRow wr a n B) (hnc : n ≤ cap) (hcm : cap ≤ maxLen) (ha : 0 < n → ∀ x, a = some x → ¬ F x.block ∧ x.block ≠ g) (hn : n ≤ 16777216) (hm : m ≤ 500000) (ht : Cr.Tab w) :
    Calls Tryd.prog 8 #[.pointer (some ⟨g, 0, none⟩), .slice a n cap] wr fun e w' => ∃ r F' d', e = .returned (.int .i64 r) ∧ Ext wr F g w' F' ∧ Qk d r d' ∧ ((r = 0 ∧ s.used + (1 + sectorsN n) ≤ 14 ∧ Lc w w' p g F' (s.passed n) d' (R ++ [B]) (m + 20)) ∨ (r = 7 ∧ 14 < s.used + (1 + sectorsN n) ∧ Lc w w' p g F' s d' R m) ∨ (r = 8 ∧ Lb w w' p F' d' s R (s.passed n) (R ++ [B]) (m + 20))) := by
  obtain ⟨e1, e2⟩ := h.at_
  have hu := h.ok.used
  have h2 := h.ok.two
  have hnum := h.num
  have hage := h.age
  have hs := h.below.size
  have hBl := hB.1
  have h256 : ∀ c ∈ B, c < 256 := hB.2.2.1
  have hq : 0 < w.heap.size := cell_lt (ht 0 (by decide))
  have hNl : d.N.length = 18 := h.fit.good.2.1
  by_cases hroom : s.used + (1 + sectorsN n) ≤ s.c
  · have hfit : FitE (d, (0 : Int)) 18 m := ⟨h.fit, .inl rfl⟩
    have hG := FitE.appG hfit s B (by rw [hBl]; omega)
    have hK : sectorsN B.length ≤ 14 := by rw [hBl]; omega
    have hroomB : s.used + (1 + sectorsN B.length) ≤ s.c := by rw [hBl]; exact hroom
    refine (append_g wr F g p 18 m n cap a s (d, 0) B h.disk hfit h.log.e h.notF hB hnc hcm ha hroom (by omega) (by omega) (by decide) (by omega) (by omega) (by omega) (Cr.Tab.below ht h.below) (fun hF => by have := h.new _ hF; omega) (by have := h.newG; omega) hG.err).mono ?_
    rintro e w' ⟨rfl, hl', ⟨F', hq', hs'⟩, ho⟩
    have hon : ∀ j, (F j ∨ j = g) → w.heap.size ≤ j := fun j hj => by
      rcases hj with hj | hj
      · exact h.new j hj
      · rw [hj]; exact h.newG
    have hnew : ∀ j, F' j → w.heap.size ≤ j := fun j hj => by
      rcases (hs' j hj).1 with h1 | h1
      · exact h.new j h1
      · omega
    have hbl : Below w.heap.size w w' := h.below.trans (ho.below hs hon)
    have hext : Ext wr F g w' F' := ⟨fun j hj => (hs' j hj).1.imp id (fun h => h.1), ho⟩
    have hpl : (s.passed n).used = s.used + (1 + sectorsN n) := rfl
    rcases appG_run h.fit h.calm s B (by rw [hBl]; omega) with ⟨d', hr, hc', hN'⟩ | ⟨d', hr, _⟩
    · rw [hr] at hl' hq' hG
      refine ⟨0, F', d', by rw [hr], hext, qk_app hr, .inl ⟨rfl, by omega, ?_⟩⟩
      rw [if_pos rfl] at hl'
      have hok := h.ok.append B h256 hroomB (by omega)
      rw [hBl] at hok
      exact ⟨hl'.at0, hq', hG.fit.more (by omega), hc', by rw [hN']; exact hok, fun hg => (hs' _ hg).2 rfl, hnew, h.newG, hbl, h.at_, by show s.age ≤ _; omega, by show s.number + 1 + 2 ≤ s.used + (1 + sectorsN n); omega⟩
    · have hcr := appG_crash h.fit h.calm s B (by rw [hBl]; omega) hr
      rw [hr] at hl' hq' hG
      refine ⟨8, F', d', by rw [hr], hext, qk_app hr, .inr (.inr ⟨rfl, hq', hG.fit.more (by omega), fun pk => ?_, hnew, hbl, ⟨e1, e2, e1, e2⟩, by omega, by show s.age ≤ _; omega⟩)⟩
      rcases hcr pk with ht | ht
      · exact .inl (h.ok.torn B h256 ht)
      · right
        have hok := h.ok.append B h256 hroomB (by omega)
        rw [hBl] at hok
        rw [ht]
        exact hok
  · have hfull : roomL s < (n : Int) := by
      unfold roomL
      unfold sectorsN at hroom
      split
      · omega
      · omega
    refine (append_full wr g p n cap a s h.log hn (by omega) (by omega) hfull).mono ?_
    rintro e w' ⟨rfl, hb⟩
    exact ⟨7, F, d, rfl, ⟨fun j hj => .inl hj, Only.of_below hb⟩, fun h1 h2 h3 => ⟨by decide, h1, h2⟩, .inr (.inl ⟨rfl, by omega, h.to hb⟩)⟩
theorem lc_truncate (w wr : World) (p g m : Nat) (F : Nat → Prop) (s : LSt) (d : DSt) (R : List (List Nat)) (h : Lc w wr p g F s d R m) (hm : m ≤ 500000) (ht : Cr.Tab w) :
    Calls Tryd.prog 9 #[.pointer (some ⟨g, 0, none⟩)] wr fun e w' => ∃ r F' d', e = .returned (.int .i64 r) ∧ Ext wr F g w' F' ∧ Qk d r d' ∧ ((r = 0 ∧ Lc w w' p g F' s.cut d' [] (m + 20)) ∨ (r = 8 ∧ Lb w w' p F' d' s R s.cut [] (m + 20))) := by
  obtain ⟨e1, e2⟩ := h.at_
  have hage := h.age
  have hs := h.below.size
  have hh := h.ok.heads.head
  have hq : 0 < w.heap.size := cell_lt (ht 0 (by decide))
  have hfit : FitE (d, (0 : Int)) 18 m := ⟨h.fit, .inl rfl⟩
  have hG : FitE (cutG (d, 0) s) 18 (m + 1 + 1) := (hfit.stepW (s.f + (1 - s.head)) (by omega) _ (by rw [size_bstr, headL_length])).stepB
  have hcut := h.ok.cut (by omega)
  refine (truncate_g wr F g p 18 m s (d, 0) h.disk hfit h.log.e h.notF hh (by omega) (by decide) (by omega) (by omega) (Cr.Tab.below ht h.below) (fun hF => by have := h.new _ hF; omega)).mono ?_
  rintro e w' ⟨rfl, hl', ⟨F', hq', hs'⟩, ho⟩
  have hon : ∀ j, (F j ∨ j = g) → w.heap.size ≤ j := fun j hj => by
    rcases hj with hj | hj
    · exact h.new j hj
    · rw [hj]; exact h.newG
  have hnew : ∀ j, F' j → w.heap.size ≤ j := fun j hj => by
    rcases (hs' j hj).1 with h1 | h1
    · exact h.new j h1
    · omega
  have hbl : Below w.heap.size w w' := h.below.trans (ho.below hs hon)
  have hext : Ext wr F g w' F' := ⟨fun j hj => (hs' j hj).1.imp id (fun h => h.1), ho⟩
  rcases cutG_run h.fit h.calm s (by omega) (fun _ => true) with ⟨d', hr, hc', hN'⟩ | ⟨d', hr, _⟩
  · rw [hr] at hl' hq' hG
    refine ⟨0, F', d', by rw [hr], hext, qk_cut hr, .inl ⟨rfl, ?_⟩⟩
    rw [if_pos rfl] at hl'
    exact ⟨hl'.at0, hq', hG.fit.more (by omega), hc', by rw [hN']; exact hcut, fun hg => (hs' _ hg).2 rfl, hnew, h.newG, hbl, h.at_, by show s.age + 1 ≤ _; omega, (by decide : (0 : Nat) + 2 ≤ 2)⟩
  · rw [hr] at hl' hq' hG
    refine ⟨8, F', d', by rw [hr], hext, qk_cut hr, .inr ⟨rfl, hq', hG.fit.more (by omega), fun pk => ?_, hnew, hbl, ⟨e1, e2, e1, e2⟩, by omega, by show s.age + 1 ≤ _; omega⟩⟩
    rcases cutG_run h.fit h.calm s (by omega) pk with ⟨d'', hr', _⟩ | ⟨d'', hr', hN⟩
    · rw [hr] at hr'
      injection hr' with _ e
      exact absurd e (by decide)
    · rw [hr] at hr'
      injection hr' with e _
      subst e
      rcases hN with e | e
      · rw [e]; exact .inl h.ok
      · rw [e]; exact .inr hcut
end Go.Proofs.YtcmnfbpmkndfkaaDoor
namespace Go.Proofs.YtcmnfbpmkndfkaaDoor
open Go.ChangeShapes Go.WideShapes Go.ChangeAt Go.RowKit
set_option linter.unusedVariables false
set_option maxRecDepth 100000

theorem IntRow.nil' {w : World} (a : Option Addr) {l : List Int} (h : IntRow w a 0 l) (W : World) : IntRow W a 0 l := ⟨h.1, h.2.1, h.2.2.1, fun h => by omega⟩
theorem intRow_of {w : World} {a : Option Addr} {len cap : Nat} {zs : List Int} (h : Cr.IsRow .i64 w a len cap zs) : IntRow w a len (zs.take len) := by
  rcases h with ⟨rfl, rfl, rfl, rfl⟩ | ⟨x, rfl, h1, h2, h3, h4, h5⟩
  · exact ⟨rfl, Nat.zero_le _, (by intro z hz; cases hz), (by intro h; omega)⟩
  · refine ⟨by rw [List.length_take]; omega, by omega, fun z hz => ?_, fun h0 => ?_⟩
    · have := h5 z (List.mem_of_mem_take hz)
      simpa [Lit.wf, IntKind.min, IntKind.max, IntKind.signed, IntKind.bits] using this
    · obtain ⟨b, off, spot⟩ := x
      have hc0 := h4 0 (by omega)
      have hspot : spot = none := by simpa [Addr.add] using World.cell?_spot hc0
      subst hspot
      refine ⟨b, off, rfl, fun i hi => ?_⟩
      have hci := h4 i (by omega)
      have e1 : (⟨b, off, none⟩ : Addr).add i = ⟨b, off + i, none⟩ := by simp [Addr.add]
      rw [e1] at hci
      rw [hci]
      simp [List.getD, hi]
theorem intRow_block {w : World} {a : Option Addr} {n : Nat} {l : List Int} (h : IntRow w a n l) (h0 : 0 < n) : ∀ x, a = some x → x.block < w.heap.size := by
  obtain ⟨b, o, rfl, hc⟩ := h.2.2.2 h0
  intro x hx
  cases hx
  exact cell_lt (hc 0 h0)
theorem picks_gen (w : World) (F : Nat → Prop) (a : Option Addr) (n cap : Nat) (zs : List Int) (hz : IntRow w a n zs) (ha : 0 < n → ∀ x, a = some x → ¬ F x.block) (hF : ∀ k, F k → k < w.heap.size) : ∀ W, Only F (w.alloc (.cells #[.slice a n cap] 47)) W → W.cell? ⟨w.heap.size, 0, none⟩ = some (.slice a n cap) ∧ IntRow W a n zs := by
  by_cases h0 : 0 < n
  · exact picks_at w F a n cap zs hz (ha h0) hF
  · obtain rfl : n = 0 := by omega
    intro W h
    refine ⟨?_, IntRow.nil' a hz W⟩
    have e1 : (w.alloc (.cells #[.slice a 0 cap] 47)).heap[w.heap.size]? = some (.cells #[.slice a 0 cap] 47) := by
      show (w.heap.push _)[w.heap.size]? = _
      simp
    have e2 : (w.alloc (.cells #[.slice a 0 cap] 47)).heap.size = w.heap.size + 1 := by
      show (w.heap.push _).size = _
      simp
    have e3 := (h.block w.heap.size (by omega) (fun g => by have := hF _ g; omega)).trans e1
    simp [World.cell?, e3]
theorem IntRow.below {w W : World} {a : Option Addr} {n : Nat} {l : List Int} (h : IntRow w a n l) (hb : Below w.heap.size w W) : IntRow W a n l := by
  refine ⟨h.1, h.2.1, h.2.2.1, fun h0 => ?_⟩
  obtain ⟨b, o, rfl, hc⟩ := h.2.2.2 h0
  exact ⟨b, o, rfl, fun i hi => (World.cell?_of_block (hb.block b (cell_lt (hc i hi)))).trans (hc i hi)⟩
set_option maxRecDepth 100000 in
set_option maxHeartbeats 2000000 in
theorem crash_gen (w : World) (F : Nat → Prop) (p : Nat) (s : DSt) (h : DiskAt w F p s) (a : Option Addr) (n cap : Nat) (zs : List Int) (hz : IntRow w a n zs) (ha : 0 < n → ∀ x, a = some x → ¬ F x.block) :
    Calls Tryd.prog 20 #[.pointer (some ⟨p, 0, none⟩), .slice a n cap] w fun e w' => e = .returned (.tuple #[]) ∧ DiskAt w' F p (crashS (pkOf zs n) s) ∧ Only F w w' := by
  have HD := Lib.hid (DiskAt.keep h (Only.alloc (Only.refl (fun _ => False) w) (.cells #[.slice a n cap] 47)) (fun _ _ h => h))
  have hFl : ∀ k, F k → k < w.heap.size := by
    obtain ⟨lb, nb, lc, nc, wv, hR⟩ := h
    exact hR.2.2.2.2.2.2.2.2.2.2
  have HP := Lib.hid (picks_gen w F a n cap zs hz ha hFl)
  have HO := Lib.hid (Only.alloc (Only.refl F w) (.cells #[.slice a n cap] 47))
  clear h hz ha hFl
  go_enter Tryd.func20, Tryd.ntmps20
  go_wp2_with fail
  refine (settle_some _ F p s (pkOf zs n) w.heap.size HD.out (fun k W _ h => pick_any w.heap.size a n cap zs k W (HP.out W h).1 (HP.out W h).2)).mono ?_
  rintro e2 w2 ⟨rfl, hd, ho⟩
  have HD2 := Lib.hid hd
  have HO2 := Lib.hid ho
  obtain ⟨c3, c4, c5, c6, cf⟩ := hd.cells
  have f3 := cf 3
  have f4 := cf 4
  have f5 := cf 5
  clear hd ho cf c6
  go_wp2_with fail
  go_end0
  exact ⟨rfl, ((HD2.out.armed_ false).left_ 0).off_ false, (((HO.out.trans HO2.out).setCell (p := ⟨p, 3, none⟩) HD2.out.self _).setCell (p := ⟨p, 4, none⟩) HD2.out.self _).setCell (p := ⟨p, 5, none⟩) HD2.out.self _⟩
theorem through_num : ∀ (R : List (List Nat)) (s : LSt), s.used + R.length ≤ (s.through R).used
  | [], s => Nat.le_refl _
  | B :: R, s => by
    have h := through_num R (s.passed B.length)
    have hu : (s.passed B.length).used = s.used + (1 + sectorsN B.length) := rfl
    show s.used + (B :: R).length ≤ ((s.passed B.length).through R).used
    rw [List.length_cons]
    omega
theorem LogOK.num {N : List ByteArray} {s : LSt} {R : List (List Nat)} (h : LogOK N s R) : s.number + 2 ≤ s.used := by
  have h1 := (through_more R s.zero).2.2.2.2.2
  have h2 := through_num R s.zero
  rw [← h.th] at h1 h2
  have e1 : s.zero.number = 0 := rfl
  have e2 : s.zero.used = 2 := rfl
  omega
theorem good_sizes {d : DSt} {k m : Nat} (h : Fit d k m) : ∀ i, i < d.N.length → (secAt d.N i).length = 512 := fun i hi => by
  unfold secAt
  rw [bytesOf_length]
  exact good_at h.good i (by rw [← h.good.2.1]; exact hi)
/-- a disk that nobody armed, all of whose changes last, with a log's records -/
structure Lq (w wr : World) (p : Nat) (F : Nat → Prop) (s : LSt) (d : DSt) (R : List (List Nat)) (m : Nat) : Prop where
  disk : DiskAt wr F p d
  fit : Fit d 18 m
  calm : Calm d
  quiet : d.armed = false ∧ d.left = 0
  ok : LogOK d.N s R
  new : ∀ j, F j → w.heap.size ≤ j
  below : Below w.heap.size w wr
  at_ : s.f = 2 ∧ s.c = 14
  age : s.age ≤ m
theorem Lq.qd {w wr : World} {p m : Nat} {F : Nat → Prop} {s : LSt} {d : DSt} {R : List (List Nat)} (h : Lq w wr p F s d R m) : Qd wr F p d.N m :=
  ⟨d, h.disk, rfl, h.calm.off, h.quiet.1, h.quiet.2, by rw [h.fit.good.2.1]; exact h.fit.good, h.fit.app, h.fit.st.1, h.fit.st.2, h.fit.wl⟩
theorem lb_crash {w wr : World} {p m : Nat} {F : Nat → Prop} {d : DSt} {s s' : LSt} {R R' : List (List Nat)} (h : Lb w wr p F d s R s' R' m) (a : Option Addr) (n cap : Nat) (zs : List Int) (hz : IntRow wr a n zs) (ha : 0 < n → ∀ x, a = some x → ¬ F x.block) :
    Calls Tryd.prog 20 #[.pointer (some ⟨p, 0, none⟩), .slice a n cap] wr fun e w' => e = .returned (.tuple #[]) ∧ ∃ s1 d1 R1, ((s1 = s ∧ R1 = R) ∨ (s1 = s' ∧ R1 = R')) ∧ Lq w w' p F s1 d1 R1 m ∧ Only F wr w' := by
  refine (crash_gen wr F p d h.disk a n cap zs hz ha).mono ?_
  rintro e w' ⟨rfl, hd, ho⟩
  have hb : Below w.heap.size w w' := h.below.trans (ho.below h.below.size h.new)
  obtain ⟨a1, a2, a3, a4⟩ := h.at_
  refine ⟨rfl, ?_⟩
  rcases h.ok (pkOf zs n) with ok | ok
  · exact ⟨s, _, R, .inl ⟨rfl, rfl⟩, ⟨hd, h.fit.crash _, crash_calm h.fit _, ⟨rfl, rfl⟩, ok, h.new, hb, ⟨a1, a2⟩, h.age.1⟩, ho⟩
  · exact ⟨s', _, R', .inr ⟨rfl, rfl⟩, ⟨hd, h.fit.crash _, crash_calm h.fit _, ⟨rfl, rfl⟩, ok, h.new, hb, ⟨a3, a4⟩, h.age.2⟩, ho⟩
theorem crash_same {d : DSt} {k m : Nat} (hf : Fit d k m) (hc : Calm d) (pk : Nat → Bool) : (crashS pk d).N = d.N := by
  rw [← (crash_calm hf pk).ln]
  show lastsK pk d.L d.W d.W.length = d.N
  rw [hc.w, hc.ln]
  rfl
theorem lc_crash {w wr : World} {p g m : Nat} {F : Nat → Prop} {d : DSt} {s : LSt} {R : List (List Nat)} (h : Lc w wr p g F s d R m) (a : Option Addr) (n cap : Nat) (zs : List Int) (hz : IntRow wr a n zs) (ha : 0 < n → ∀ x, a = some x → ¬ F x.block) :
    Calls Tryd.prog 20 #[.pointer (some ⟨p, 0, none⟩), .slice a n cap] wr fun e w' => e = .returned (.tuple #[]) ∧ ∃ d1, Lq w w' p F s d1 R m ∧ Only F wr w' := by
  refine (crash_gen wr F p d h.disk a n cap zs hz ha).mono ?_
  rintro e w' ⟨rfl, hd, ho⟩
  exact ⟨rfl, _, ⟨hd, h.fit.crash _, crash_calm h.fit _, ⟨rfl, rfl⟩, by rw [crash_same h.fit h.calm]; exact h.ok, h.new, h.below.trans (ho.below h.below.size h.new), h.at_, h.age⟩, ho⟩
theorem lq_open {w wr : World} {p m : Nat} {F : Nat → Prop} {d : DSt} {s : LSt} {R : List (List Nat)} (h : Lq w wr p F s d R m) (ht : Cr.Tab w) :
    Calls Tryd.prog 14 #[.pointer (some ⟨p, 0, none⟩), .int .i64 2, .int .i64 14] wr fun e w' => ∃ v, e = .returned (.tuple #[.pointer (some ⟨wr.heap.size, 0, none⟩), v, .int .i64 0]) ∧ RowsOf w' wr.heap.size v R ∧ Lc w w' p wr.heap.size F s d R m ∧ Below wr.heap.size wr w' := by
  obtain ⟨e1, e2⟩ := h.at_
  have hs := h.below.size
  have ho := open_heads wr F p m s d.N R h.qd h.ok.heads h.ok.c3.1 h.ok.c3.2 h.ok.len (by rw [h.fit.good.2.1]; decide) (Cr.Tab.below ht h.below) (h.ok.open_ (good_sizes h.fit))
  rw [e1, e2] at ho
  refine ho.mono ?_
  rintro e w' ⟨v, rfl, hl, hr, hb⟩
  have hth : LSt.through ⟨2, 14, s.head, s.age, 0, 2⟩ R = s := by
    have := h.ok.th
    unfold LSt.zero at this
    rw [e1, e2] at this
    exact this.symm
  rw [hth] at hl
  exact ⟨v, rfl, hr, ⟨hl, h.disk.below hb, h.fit, h.calm, h.ok, fun hg => by have := h.disk.lts _ hg; omega, h.new, hs, Below.step hb h.below hs, h.at_, h.age, h.ok.num⟩, hb⟩
theorem lc_arm {w wr : World} {p g m : Nat} {F : Nat → Prop} {d : DSt} {s : LSt} {R : List (List Nat)} (h : Lc w wr p g F s d R m) (q : Nat) (hq : q ≤ 1000) :
    Calls Tryd.prog 19 #[.pointer (some ⟨p, 0, none⟩), .int .i64 (q : Int)] wr fun e w' => e = .returned (.tuple #[]) ∧ ∃ d1, Lc w w' p g F s d1 R m ∧ Only F wr w' := by
  refine (arm_any wr F p d (q : Int) h.disk (by omega)).mono ?_
  rintro e w' ⟨rfl, hd, ho⟩
  exact ⟨rfl, _, ⟨h.log.keep ho h.notF, hd, ⟨h.fit.good, h.fit.app, h.fit.st, ⟨by show (0 : Int) ≤ (q : Int); omega, by show (q : Int) < _; omega⟩, h.fit.wl⟩, ⟨h.calm.ln, h.calm.w, h.calm.off⟩, h.ok, h.notF, h.new, h.newG, h.below.trans (ho.below h.below.size h.new), h.at_, h.age, h.num⟩, ho⟩
end Go.Proofs.YtcmnfbpmkndfkaaDoor
namespace Go.Proofs.YtcmnfbpmkndfkaaDoor
open Go.ChangeShapes Go.WideShapes Go.ChangeAt Go.RowKit
set_option linter.unusedVariables false
set_option maxRecDepth 100000

/-- a disk that nobody armed, all of whose changes last -/
def Qc (w : World) (F : Nat → Prop) (p : Nat) (N : List ByteArray) (m : Nat) : Prop := ∃ s, DiskAt w F p s ∧ Fit s N.length m ∧ Calm s ∧ s.N = N ∧ s.armed = false ∧ s.left = 0
theorem Qc.keep {w w' : World} {F G : Nat → Prop} {p m : Nat} {N : List ByteArray} (h : Qc w F p N m) (ho : Only G w w') (hd : ∀ k, F k → ¬ G k) : Qc w' F p N m := by
  obtain ⟨s, hs, r⟩ := h
  exact ⟨s, hs.keep ho hd, r⟩
theorem Qc.below {w w' : World} {F : Nat → Prop} {p m : Nat} {N : List ByteArray} (h : Qc w F p N m) (hb : Below w.heap.size w w') : Qc w' F p N m := by
  obtain ⟨s, hs, r⟩ := h
  exact ⟨s, hs.below hb, r⟩
theorem Qc.more {w : World} {F : Nat → Prop} {p m m' : Nat} {N : List ByteArray} (h : Qc w F p N m) (hm : m ≤ m') : Qc w F p N m' := by
  obtain ⟨s, hs, h2, r⟩ := h
  exact ⟨s, hs, h2.more hm, r⟩
theorem Qc.qd {w : World} {F : Nat → Prop} {p m : Nat} {N : List ByteArray} (h : Qc w F p N m) : Qd w F p N m := by
  obtain ⟨s, h1, h2, h3, h4, h5, h6⟩ := h
  exact ⟨s, h1, h4, h3.off, h5, h6, h2.good, h2.app, h2.st.1, h2.st.2, h2.wl⟩
theorem qbarrier_c (w : World) (F : Nat → Prop) (p m : Nat) (N : List ByteArray) (h : Qd w F p N m) (hm : m < 900000) :
    Calls Tryd.prog 49 #[.pointer (some ⟨p, 0, none⟩)] w fun e w' => e = .returned (.int .i64 0) ∧ Qc w' F p N (m + 1) ∧ Only F w w' := by
  obtain ⟨s, hs, rfl, ho, hu, hl, hg, hap, h1, h2, h3⟩ := h
  obtain ⟨c1, c2⟩ := chg_un hu
  refine (barrier_ok w F p s hs ho ⟨h1, by omega⟩ ⟨by omega, by omega⟩ c2).mono ?_
  rintro e w' ⟨rfl, hd, hon⟩
  rw [app_barrier hap] at hd
  have hfit : Fit s s.N.length m := ⟨hg, hap, ⟨h1, h2⟩, ⟨by omega, by omega⟩, h3⟩
  have hst := hfit.stepB (e := 0)
  rw [stepB_ok ho c2 hap] at hst
  exact ⟨rfl, ⟨_, hd, hst, ⟨rfl, rfl, chg_stay ho c2⟩, rfl, by show (chg s).armed = false; rw [c1]; exact hu, by show (chg s).left = 0; rw [c1]; exact hl⟩, hon⟩
theorem dbarrier_c (w : World) (F : Nat → Prop) (p m v : Nat) (N : List ByteArray) (h : Qd w F p N m) (hd : DevAt w v p) (hv : ¬ F v) (hm : m < 900000) :
    Calls Tryd.prog 26 #[.pointer (some ⟨v, 0, none⟩)] w fun e w' => e = .returned (.tuple #[]) ∧ Qc w' F p N (m + 1) ∧ Only F w w' := by
  have H := Lib.hid (qbarrier_c w F p m N h hm)
  have HD := Lib.hid hd
  obtain ⟨c0, c1, _⟩ := hd.cells
  have hlt := hd.lt
  clear h hd
  go_enter Tryd.func26, Tryd.ntmps26
  go_wp2_with (go_at_call 49; refine H.out.mono ?_; rintro e w1 ⟨rfl, hq, hon⟩; have HQ := Lib.hid hq; have HO := Lib.hid hon; have HD1 := Lib.hid (HD.out.keep hon hv); obtain ⟨d0, d1, df⟩ := HD1.out.cells; clear hq hon)
  go_end0
  have HP := HD1.out.put (Only.refl (fun _ => False) w1)
  exact ⟨rfl, HQ.out.keep HP (fun _ _ g => g), HD1.out.put HO.out⟩
set_option maxHeartbeats 1000000 in
theorem format_c (w : World) (F : Nat → Prop) (p m f c : Nat) (N : List ByteArray) (h : Qd w F p N m) (h3 : 3 ≤ c) (hl : f + c ≤ N.length) (hN : N.length ≤ 65536) (hm : m + c + 5 < 900000) (ht : Cr.Tab w) (hF : ¬ F 0) :
    Calls Tryd.prog 32 #[.pointer (some ⟨p, 0, none⟩), .int .i64 (f : Int), .int .i64 (c : Int)] w fun e w' => e = .returned (.int .i64 0) ∧ (∃ F', Qc w' F' p (fmtN N f c) (m + c + 3) ∧ ∀ k, F' k → Gr F w w' k) ∧ Only F w w' := by
  have HQ := Lib.hid h
  have HFI := Lib.hid (fun W (hW : w = W) => by subst hW; exact fits_any w F p m f c N h h3 hl hN)
  have HT := Lib.hid ht
  clear h ht
  go_enter Tryd.func32, Tryd.ntmps32
  go_wp2_with (go_at_call 33; refine (HFI.out _ rfl).mono ?_; rintro e w1 ⟨rfl, rfl⟩)
  obtain ⟨w1, hw1⟩ : ∃ w1, w1 = w.alloc (.cells #[.pointer (some ⟨p, 0, none⟩), .int .i64 0] 61) := ⟨_, rfl⟩
  have HB1 : Hid (Below w.heap.size w w1) := Lib.hid (by rw [hw1]; exact (Below.refl _ _).alloc (Nat.le_refl _) _)
  have HD1 : Hid (DevAt w1 w.heap.size p) := Lib.hid (by
    rw [hw1]
    refine ⟨#[.pointer (some ⟨p, 0, none⟩), .int .i64 0], 61, ?_, rfl, rfl⟩
    show (w.heap.push _)[w.heap.size]? = _
    simp)
  rw [← hw1]
  have HV : Hid (¬ F w.heap.size) := Lib.hid (fun g => by have := HQ.out.lts _ g; omega)
  have HVl : Hid (w.heap.size < w1.heap.size) := Lib.hid HD1.out.lt
  have HQ1 := Lib.hid (HQ.out.below HB1.out)
  have HT1 := Lib.hid (Cr.Tab.below HT.out HB1.out)
  have HO1 : Hid (Only F w w1) := Lib.hid (Only.of_below HB1.out)
  have HS1 : Hid (w.heap.size ≤ w1.heap.size) := Lib.hid HB1.out.size
  have HFl : Hid (∀ k, F k → k < w1.heap.size) := Lib.hid HQ1.out.lts
  clear hw1 HB1 HFI HQ HT
  obtain ⟨v, hv⟩ : ∃ v, v = w.heap.size := ⟨_, rfl⟩
  rw [← hv] at HV HVl HD1 ⊢
  clear hv
  go_loopw [8] (fun i wr => ∃ k : Nat, i = .int .i64 ((f : Int) + 1 + (k : Int)) ∧ k + 1 ≤ c ∧ Qd wr (Gr F w1 wr) p (noughtK N f k) (m + k) ∧ Only F w1 wr) (fun i _ => f + c - (intOf i).toNat)
  case atStart => exact ⟨0, by simp, by omega, by rw [gr_self]; exact HQ1.out, Only.refl _ _⟩
  case round =>
    obtain ⟨k, rfl, hk, hq, ho⟩ := hrel
    have HQr := Lib.hid hq
    have HOr := Lib.hid ho
    have HDr := Lib.hid (HD1.out.keep ho HV.out)
    clear hq ho HQ1
    by_cases g : k + 1 < c
    · have hW : Hid (∀ W, Below wr.heap.size wr W → ByteRow W (some ⟨wr.heap.size, 0, none⟩) 512 (List.replicate 512 0) → Calls Tryd.prog 24 #[.pointer (some ⟨v, 0, none⟩), .int .i64 ((f : Int) + 1 + (k : Int)), .slice (some ⟨wr.heap.size, 0, none⟩) 512 512] W fun e w' => e = .returned (.tuple #[]) ∧ Qd w' (Gr (Gr F w1 wr) W w') p (noughtK N f (k + 1)) (m + k + 1) ∧ Only (Gr F w1 wr) W w') := Lib.hid (fun W hb hr => by
        have h := dwrite W (Gr F w1 wr) p (m + k) (f + 1 + k) v (noughtK N f k) (some ⟨wr.heap.size, 0, none⟩) 512 (List.replicate 512 0) (HQr.out.below hb) (HDr.out.below hb) (gr_new HV.out HVl.out) (by omega) (by rw [noughtK_length]; omega) hr (fun x hx => by
          obtain rfl := Option.some.inj hx
          intro g
          have := HQr.out.lts _ g
          exact absurd this (Nat.lt_irrefl _))
        rw [show ((f + 1 + k : Nat) : Int) = (f : Int) + 1 + (k : Int) by omega] at h
        exact h)
      go_wp2_with (first
        | (go_at_call 47; refine (sector_nil _).mono ?_; rintro e w2 ⟨rfl, hR, hb⟩; have HR2 := Lib.hid hR; have HB2 := Lib.hid hb; clear hR hb)
        | (go_at_call 24; refine (hW.out _ HB2.out HR2.out).mono ?_; rintro e w3 ⟨rfl, hq, ho⟩; have HQ3 := Lib.hid hq; have HO3 := Lib.hid ho; clear hq ho))
      go_roundw
      case rel => exact ⟨k + 1, by go_num, by omega, HQ3.out.wider (gr_step HOr.out.size HB2.out.size HO3.out.size) (gr_lt HFl.out (Nat.le_trans HOr.out.size (Nat.le_trans HB2.out.size HO3.out.size))), only_gr (HOr.out.trans (Only.of_below HB2.out)) HO3.out (gr_mono HB2.out.size)⟩
      case measure => simp [intOf]; omega
    · obtain rfl : c = k + 1 := by omega
      have hBa := Lib.hid (dbarrier wr (Gr F w1 wr) p (m + k) v (noughtK N f k) HQr.out HDr.out (gr_new HV.out HVl.out) (by omega))
      have hG1 : Hid (¬ Gr F w1 wr v) := Lib.hid (gr_new HV.out HVl.out)
      have hTr := Lib.hid (tab_only HT1.out HOr.out hF)
      have hGq : Hid (¬ Gr F w1 wr 0) := Lib.hid (gr_new hF (cell_lt (HT1.out 0 (by decide))))
      go_wp2_with (first
        | (go_at_call 26; refine hBa.out.mono ?_; rintro e w2 ⟨rfl, hq, ho⟩; have HQ2 := Lib.hid hq; have HO2 := Lib.hid ho; have HD2 := Lib.hid (HDr.out.keep ho hG1.out); have HT2 := Lib.hid (tab_only hTr.out ho hGq.out); clear hq ho))
      clear hBa
      go_wp2_with (first
        | (go_at_call 29; refine (headSector_any 1 (by decide) (by decide) w2 HT2.out).mono ?_; rintro e w3 ⟨gh, rfl, hR, hg, hb⟩; have HQ3 := Lib.hid (HQ2.out.below hb); have HD3 := Lib.hid (HD2.out.below hb); have HB3 := Lib.hid hb; have HW := Lib.hid (dwrite w3 (Gr F w1 wr) p (m + k + 1) f v (noughtK N f k) (some ⟨gh, 0, none⟩) 512 (headL 1) HQ3.out HD3.out hG1.out (by omega) (by rw [noughtK_length]; omega) hR (fun x hx => by
            obtain rfl := Option.some.inj hx
            intro g
            have g1 := HQr.out.lts _ g
            have g2 := HO2.out.size
            dsimp only at g1
            omega)); clear hR hb hg)
        | (go_at_call 24; refine HW.out.mono ?_; rintro e w4 ⟨rfl, hq, ho⟩; have HQ4 := Lib.hid hq; have HO4 := Lib.hid ho; have HD4 := Lib.hid (HD3.out.keep ho hG1.out); have HBa := Lib.hid (dbarrier_c w4 (Gr (Gr F w1 wr) w3 w4) p (m + k + 2) v _ HQ4.out HD4.out (gr_new hG1.out (Nat.lt_of_lt_of_le HVl.out (Nat.le_trans HOr.out.size (Nat.le_trans HO2.out.size HB3.out.size)))) (by omega)); clear hq ho)
        | (go_at_call 26; refine HBa.out.mono ?_; rintro e w5 ⟨rfl, hq, ho⟩; have HQ5 := Lib.hid hq; have HO5 := Lib.hid ho; have HD5 := Lib.hid (HD4.out.keep ho (gr_new hG1.out (Nat.lt_of_lt_of_le HVl.out (Nat.le_trans HOr.out.size (Nat.le_trans HO2.out.size HB3.out.size))))); obtain ⟨d0, d1, df⟩ := HD5.out.cells; clear hq ho))
      go_ret
      have s1 := HOr.out.size
      have s2 := HO2.out.size
      have s3 := HB3.out.size
      have s4 := HO4.out.size
      have s5 := HO5.out.size
      refine ⟨rfl, ⟨_, (show Qc w5 (Gr (Gr F w1 wr) w3 w4) p (fmtN N f (k + 1)) (m + k + 3) from HQ5.out).more (by omega), fun j hj => ?_⟩, ?_⟩
      · rcases hj with (hj | ⟨h4, h5⟩) | ⟨h4, h5⟩
        · exact .inl hj
        · exact .inr ⟨by have := HS1.out; omega, by omega⟩
        · exact .inr ⟨by have := HS1.out; omega, by omega⟩
      · have o1 := only_gr HOr.out HO2.out (fun j hj => hj)
        have o2 := only_gr (o1.trans (Only.of_below HB3.out)) HO4.out (gr_mono (by omega))
        have o3 := only_gr o2 HO5.out (gr_gr' s1 s2 s3 s4)
        exact HO1.out.trans o3
set_option maxHeartbeats 1000000 in
theorem fresh_c (w : World) (ht : Cr.Tab w) :
    Calls Tryd.prog 12 #[] w fun e w' => ∃ p g F, e = .returned (.tuple #[.pointer (some ⟨p, 0, none⟩), .pointer (some ⟨g, 0, none⟩), .bool true]) ∧ Fresh w w' p g F ∧ ∃ d, Lc w w' p g F s18 d [] 17 ∧ d.armed = false ∧ d.left = 0 := by
  have HN := Lib.hid (qnew 18 w (by decide) (by decide))
  have HT := Lib.hid ht
  have hq : 0 < w.heap.size := cell_lt (ht 0 (by decide))
  clear ht
  go_enter Tryd.func12, Tryd.ntmps12
  go_wp2_with (go_at_call 31; refine HN.out.mono ?_; rintro e w1 ⟨p, rfl, hq1, hb⟩; have HQ1 := Lib.hid hq1; have HB1 := Lib.hid hb; clear hq1 hb)
  have hF1 : ¬ Gr (fun _ => False) w w1 0 := gr_new (fun h => h) hq
  have HFm := Lib.hid (format_c w1 (Gr (fun _ => False) w w1) p 0 2 14 blank18 HQ1.out (by decide) (by rw [blank18_length]; decide) (by rw [blank18_length]; decide) (by decide) (Cr.Tab.below HT.out HB1.out) hF1)
  go_wp2_with (first
    | (go_at_call 32; refine HFm.out.mono ?_; rintro e w2 ⟨rfl, ⟨F2, hq2, hs2⟩, ho2⟩; have HQ2 := Lib.hid hq2; have HS2 := Lib.hid hs2; have HB2 : Hid (Below w.heap.size w w2) := Lib.hid (HB1.out.trans (ho2.below HB1.out.size (fun k hk => by rcases hk with hk | hk; exact hk.elim; exact hk.1))); clear hq2 hs2 ho2)
    | (go_at_call 14; refine (open_heads w2 F2 p 17 s18 N18 [] HQ2.out.qd (fmt_heads _ _ _ (by decide) (by rw [blank18_length]; decide)) (by decide) (by decide) (by rw [N18_length]; decide) (by rw [N18_length]; decide) (Cr.Tab.below HT.out HB2.out) (fmt_norec _ _ _ (by decide) (by rw [blank18_length]; decide))).mono ?_; rintro e w3 ⟨v, rfl, hl, hr, hb⟩; obtain ⟨_, _, _, hv⟩ := hr; obtain rfl := hv rfl; have HL3 := Lib.hid hl; have HQ3 := Lib.hid (HQ2.out.below hb); have HB3 := Lib.hid (Below.step hb HB2.out HB2.out.size); clear hl hb))
  go_ret3
  have hfr : Fresh w w3 p w2.heap.size F2 := by
    refine ⟨HQ3.out.qd, HL3.out, fun h => Nat.lt_irrefl _ (HQ2.out.qd.lts _ h), fun k hk => ?_, HB3.out, HB2.out.size⟩
    rcases HS2.out k hk with h | h
    · rcases h with h | h
      · exact h.elim
      · exact h.1
    · have := HB1.out.size
      omega
  obtain ⟨d, h1, h2, h3, h4, h5, h6⟩ := HQ3.out
  obtain ⟨_, _⟩ := And.intro h5 h6
  exact ⟨p, w2.heap.size, F2, rfl, hfr, d, ⟨hfr.log, h1, by have e : (fmtN blank18 2 14).length = 18 := N18_length; rw [e] at h2; exact h2, h3, by rw [h4]; exact ok_n18, hfr.notF, hfr.new, hfr.newG, hfr.below, ⟨rfl, rfl⟩, (by decide : (1 : Nat) ≤ 17), (by decide : (0 : Nat) + 2 ≤ 2)⟩, h5, h6⟩
end Go.Proofs.YtcmnfbpmkndfkaaDoor
namespace Go.Proofs.YtcmnfbpmkndfkaaDoor
open Go.ChangeShapes Go.WideShapes Go.ChangeAt Go.RowKit
set_option linter.unusedVariables false
set_option maxRecDepth 100000

def BRows (w : World) (a : Option Addr) (R : List (List Nat)) : Prop := ∀ k, k < R.length → ∃ g gb cb, a = some ⟨g, 0, none⟩ ∧ w.cell? ⟨g, k, none⟩ = some (.slice gb (R.getD k []).length cb) ∧ ByteRow w gb (R.getD k []).length (R.getD k [])
def TRows (w : World) (a : Option Addr) (S : List (List Nat)) : Prop := ∀ k, k < S.length → ∃ g, a = some ⟨g, 0, none⟩ ∧ w.cell? ⟨g, k, none⟩ = some (.string (bstr (S.getD k []))) ∧ ∀ c ∈ S.getD k [], c < 256
theorem idx_brow (g n c k : Nat) (hk : k < n) (W : World) : (Instr.indexAt 38 (.slice (some ⟨g, 0, none⟩) n c) (.int .i64 (k : Int))).run Tryd.prog W = .ok (.pointer (some ⟨g, k, none⟩)) W := by
  have h1 : (0 : Int) ≤ (k : Int) := by omega
  have h2 : (k : Int) < (n : Int) := by omega
  go_simp
theorem idx_trow (g n c k : Nat) (hk : k < n) (W : World) : (Instr.indexAt 33 (.slice (some ⟨g, 0, none⟩) n c) (.int .i64 (k : Int))).run Tryd.prog W = .ok (.pointer (some ⟨g, k, none⟩)) W := by
  have h1 : (0 : Int) ≤ (k : Int) := by omega
  have h2 : (k : Int) < (n : Int) := by omega
  go_simp
theorem same_any (w : World) (a b : Option Addr) (ca cb : Nat) (R S : List (List Nat)) (hR : BRows w a R) (hS : TRows w b S) (hl : R.length ≤ 100000) (hl2 : S.length ≤ 100000) :
    Calls Tryd.prog 15 #[.slice a R.length ca, .slice b S.length cb] w fun e w' => e = .returned (.bool (decide (R = S))) ∧ Below w.heap.size w w' := by
  have HR := Lib.hid hR
  have HS := Lib.hid hS
  clear hR hS
  obtain ⟨q, hq⟩ : ∃ q, q = decide (R = S) := ⟨_, rfl⟩
  rw [← hq]
  by_cases hlen : R.length = S.length
  · obtain ⟨L, hL⟩ : ∃ L, L = R.length := ⟨_, rfl⟩
    have hL2 : S.length = L := by omega
    rw [hL2, ← hL]
    have HL := Lib.hid hL
    have HL2 := Lib.hid hL2
    have HLen := Lib.hid hlen
    have hL5 : L ≤ 100000 := by omega
    clear hL hL2 hlen hl hl2
    go_enter Tryd.func15, Tryd.ntmps15
    go_wp2_with fail
    go_loopw [5] (fun i wr => ∃ k : Nat, i = .int .i64 (k : Int) ∧ k ≤ L ∧ (∀ j, j < k → R.getD j [] = S.getD j []) ∧ Below w.heap.size w wr) (fun i _ => L - (intOf i).toNat)
    case atStart => exact ⟨0, rfl, Nat.zero_le _, fun j hj => by omega, Below.refl _ _⟩
    case round =>
      obtain ⟨k, rfl, hk, he, hbel⟩ := hrel
      by_cases g : k < L
      · have gi : (k : Int) < (L : Int) := by omega
        obtain ⟨g1, gb, cb1, rfl, hc1, hr1⟩ := HR.out k (by rw [← HL.out]; exact g)
        obtain ⟨g2, rfl, hc2, h256⟩ := HS.out k (by rw [HL2.out]; exact g)
        have hx1 := idx_brow g1 L ca k g
        have hx2 := idx_trow g2 L cb k g
        have hC : ∀ W, Gl wr.drew W → W.cell? ⟨g1, k, none⟩ = some (.slice gb (R.getD k []).length cb1) ∧ W.cell? ⟨g2, k, none⟩ = some (.string (bstr (S.getD k []))) ∧ (convert 34 9 (.slice gb (R.getD k []).length cb1)).run Tryd.prog W = .ok (.string (bstr (R.getD k []))) W := fun W hW => by
          have hb := Below.step hW.undrew hbel hbel.size
          exact ⟨(hb.cell (cell_lt hc1)).trans hc1, (hb.cell (cell_lt hc2)).trans hc2, conv_row cb1 (hr1.below hb)⟩
        have ht := texts_dec hr1.2.2.1 h256
        have hBC : R.getD k [] = S.getD k [] → ∀ j, j < k + 1 → R.getD j [] = S.getD j [] := fun hb j hj => by
          by_cases e : j = k
          · rw [e]; exact hb
          · exact he j (by omega)
        have hBD : ¬ (R.getD k [] = S.getD k []) → decide (R = S) = false := fun hb => decide_eq_false (fun e => hb (by rw [e]))
        have HBC := Lib.hid hBC
        have HBD := Lib.hid hBD
        have HC := Lib.hid hC
        clear hr1 hBC hBD he h256 hC hc1 hc2
        generalize R.getD k [] = B at *
        generalize S.getD k [] = C at *
        generalize bstr B = bB at *
        generalize bstr C = bC at *
        generalize B.length = nB at *
        by_cases hb : B = C
        · rw [decide_eq_true hb] at ht
          go_wp2_with fail
          refine wp_region_inv_lit [.is (.slice (some ⟨g1, 0, none⟩) L ca), .is (.int .i64 (k : Int)), .is (.pointer (some ⟨g1, k, none⟩)), .is (.slice gb nB cb1), .is (.string bB), .is (.slice (some ⟨g2, 0, none⟩) L cb), .is (.int .i64 (k : Int)), .is (.pointer (some ⟨g2, k, none⟩)), .is (.string bC), .is (.bool false)] (by kernel_rfl) (by kernel_rfl) ?_
          repeat1' (refine wpInv_is ?_ ?_; (focus (intro W hW hF K hK; clear hF; obtain ⟨d1, d2, d3⟩ := HC.out W hW; go_simp; exact hK _ _ (Gl.refl _) rfl)); simp only [Act.put, List.setIfInBounds_toArray, List.set_cons_zero, List.set_cons_succ])
          refine wpInv_end ?_
          intro w7 hW hF
          have hb7 := Below.step hW.undrew hbel hbel.size
          clear hW hF
          go_wp2_with fail
          go_roundw
          case rel => exact ⟨k + 1, by go_num, by omega, HBC.out hb, hb7⟩
          case measure => simp [intOf]; omega
        · rw [decide_eq_false hb] at ht
          rw [HBD.out hb] at hq
          subst hq
          go_wp2_with fail
          refine wp_region_inv_lit [.is (.slice (some ⟨g1, 0, none⟩) L ca), .is (.int .i64 (k : Int)), .is (.pointer (some ⟨g1, k, none⟩)), .is (.slice gb nB cb1), .is (.string bB), .is (.slice (some ⟨g2, 0, none⟩) L cb), .is (.int .i64 (k : Int)), .is (.pointer (some ⟨g2, k, none⟩)), .is (.string bC), .is (.bool true)] (by kernel_rfl) (by kernel_rfl) ?_
          repeat1' (refine wpInv_is ?_ ?_; (focus (intro W hW hF K hK; clear hF; obtain ⟨d1, d2, d3⟩ := HC.out W hW; go_simp; exact hK _ _ (Gl.refl _) rfl)); simp only [Act.put, List.setIfInBounds_toArray, List.set_cons_zero, List.set_cons_succ])
          refine wpInv_end ?_
          intro w7 hW hF
          have hb7 := Below.step hW.undrew hbel hbel.size
          clear hW hF
          go_wp2_with fail
          go_ret
          exact ⟨rfl, hb7⟩
      · have gi : ¬ ((k : Int) < (L : Int)) := by omega
        have hRS : decide (R = S) = true := decide_eq_true (by
          apply List.ext_getElem HLen.out
          intro j h1 h2
          have := he j (by have := HL.out; omega)
          rw [List.getD_eq_getElem?_getD, List.getD_eq_getElem?_getD, List.getElem?_eq_getElem h1, List.getElem?_eq_getElem h2] at this
          exact this)
        rw [hRS] at hq; subst hq
        go_wp2_with fail
        go_ret
        exact ⟨rfl, hbel⟩
  · have hleni : ¬ ((R.length : Int) = (S.length : Int)) := by omega
    have hRS : decide (R = S) = false := decide_eq_false (fun e => hlen (by rw [e]))
    rw [hRS] at hq; subst hq
    go_enter Tryd.func15, Tryd.ntmps15
    go_wp2_with fail
    go_ret
    exact ⟨rfl, Below.refl _ _⟩
end Go.Proofs.YtcmnfbpmkndfkaaDoor
namespace Go.Proofs.YtcmnfbpmkndfkaaDoor
open Go.ChangeShapes Go.WideShapes Go.ChangeAt Go.RowKit
set_option linter.unusedVariables false
set_option maxRecDepth 100000

theorem RowsOf.brows {W : World} {base : Nat} {v : Value} {R : List (List Nat)} (h : RowsOf W base v R) : ∃ a c, v = .slice a R.length c ∧ BRows W a R := by
  obtain ⟨vs, h1, h2, h3⟩ := h
  cases R with
  | nil => exact ⟨none, 0, h3 rfl, fun k hk => absurd hk (Nat.not_lt_zero _)⟩
  | cons B R =>
    have h1' : W.ownsRow base 34 1 v (R.length + 1) vs := h1
    obtain ⟨rg, cap, rfl⟩ := ownsRow_succ h1'
    refine ⟨some ⟨rg, 0, none⟩, cap, rfl, fun k hk => ?_⟩
    obtain ⟨gb, cb, e, b⟩ := h2.get k hk
    exact ⟨rg, some ⟨gb, 0, none⟩, cb, rfl, (h1'.cellAt k (by rw [Nat.mul_one]; exact hk)).trans e, b⟩
/-- a []string of the call's own -/
def TextsOf (W : World) (base : Nat) (v : Value) (S : List (List Nat)) : Prop := W.ownsRow base 9 1 v S.length (strs (S.map bstr)) ∧ (∀ B ∈ S, ∀ c ∈ B, c < 256) ∧ (S = [] → v = .slice none 0 0)
theorem TextsOf.trows {W : World} {base : Nat} {v : Value} {S : List (List Nat)} (h : TextsOf W base v S) : ∃ a c, v = .slice a S.length c ∧ TRows W a S := by
  obtain ⟨h1, h2, h3⟩ := h
  cases S with
  | nil =>
    exact ⟨none, 0, h3 rfl, fun k hk => absurd hk (Nat.not_lt_zero _)⟩
  | cons B S =>
    have h1' : W.ownsRow base 9 1 v (S.length + 1) (strs ((B :: S).map bstr)) := h1
    obtain ⟨rg, cap, rfl⟩ := ownsRow_succ h1'
    refine ⟨some ⟨rg, 0, none⟩, cap, rfl, fun k hk => ⟨rg, rfl, ?_, fun c hc => ?_⟩⟩
    · refine (h1'.cellAt k (by rw [Nat.mul_one]; exact hk)).trans ?_
      have hk' : k < ((B :: S).map bstr).length := by rw [List.length_map]; exact hk
      rw [strs_get _ _ hk', List.getD_eq_getElem?_getD, List.getD_eq_getElem?_getD, List.getElem?_map, List.getElem?_eq_getElem hk]
      rfl
    · rw [List.getD_eq_getElem?_getD, List.getElem?_eq_getElem hk] at hc
      exact h2 _ (List.getElem_mem hk) c hc
theorem texts_none (W : World) (base : Nat) : TextsOf W base (.slice none 0 0) [] := ⟨⟨rfl, .inl ⟨rfl, rfl⟩⟩, fun _ h => (List.not_mem_nil h).elim, fun _ => rfl⟩
end Go.Proofs.YtcmnfbpmkndfkaaDoor
namespace Go.Proofs.YtcmnfbpmkndfkaaDoor
open Go.ChangeShapes Go.WideShapes Go.ChangeAt Go.RowKit Go.Deep
set_option linter.unusedVariables false
set_option maxRecDepth 100000

theorem own_to {w w' : World} {base : Nat} {e : TypeId} {size : Nat} {v : Value} {n : Nat} {xs : List Value} (h : w.ownsRow base e size v n xs) (hk : ∀ k, v.ownBlock = some k → w'.heap[k]? = w.heap[k]?) : w'.ownsRow base e size v n xs := by
  obtain ⟨h1, h2⟩ := h
  refine ⟨h1, ?_⟩
  rcases h2 with h2 | ⟨g, cap, cur, rfl, hb, hg, r⟩
  · exact .inl h2
  · exact .inr ⟨g, cap, cur, rfl, hb, (hk g rfl).trans hg, r⟩
theorem own_le {w : World} {base base' : Nat} {e : TypeId} {size : Nat} {v : Value} {n : Nat} {xs : List Value} (h : w.ownsRow base e size v n xs) (hb : base' ≤ base) : w.ownsRow base' e size v n xs := by
  obtain ⟨h1, h2⟩ := h
  refine ⟨h1, ?_⟩
  rcases h2 with h2 | ⟨g, cap, cur, rfl, hb', r⟩
  · exact .inl h2
  · exact .inr ⟨g, cap, cur, rfl, Nat.le_trans hb hb', r⟩
theorem TextsOf.to {W W' : World} {base : Nat} {v : Value} {S : List (List Nat)} (h : TextsOf W base v S) (hk : ∀ k, v.ownBlock = some k → W'.heap[k]? = W.heap[k]?) : TextsOf W' base v S := ⟨own_to h.1 hk, h.2⟩
theorem TextsOf.below {W W' : World} {base : Nat} {v : Value} {S : List (List Nat)} (h : TextsOf W base v S) (hb : Below W.heap.size W W') : TextsOf W' base v S := h.to (fun k hk => hb.block k (h.1.lt k hk).2)
theorem TextsOf.le {W : World} {base base' : Nat} {v : Value} {S : List (List Nat)} (h : TextsOf W base v S) (hb : base' ≤ base) : TextsOf W base' v S := ⟨own_le h.1 hb, h.2⟩
theorem TextsOf.ext {W W' : World} {F F' : Nat → Prop} {g base : Nat} {v : Value} {S : List (List Nat)} (h : TextsOf W base v S) (he : Ext W F g W' F') (hv : ∀ k, v.ownBlock = some k → ¬ F k ∧ k ≠ g) : TextsOf W' base v S :=
  h.to (fun k hk => he.2.block k (h.1.lt k hk).2 (fun e => by rcases e with e | e; exact (hv k hk).1 e; exact (hv k hk).2 e))
theorem TextsOf.only {W W' : World} {F : Nat → Prop} {base : Nat} {v : Value} {S : List (List Nat)} (h : TextsOf W base v S) (he : Only F W W') (hv : ∀ k, v.ownBlock = some k → ¬ F k) : TextsOf W' base v S :=
  h.to (fun k hk => he.block k (h.1.lt k hk).2 (hv k hk))
theorem TextsOf.slice {W : World} {base : Nat} {v : Value} {S : List (List Nat)} (h : TextsOf W base v S) : ∃ a c, v = .slice a S.length c ∧ TRows W a S := h.trows

/-- append([]string{}, have...) -/
theorem run_copy_texts (W : World) (ty : TypeId) (base b2 g0 : Nat) (hv : Value) (S : List (List Nat)) (h0 : W.ownsRow base 9 1 (.slice (some ⟨g0, 0, none⟩) 0 0) 0 []) (hS : TextsOf W b2 hv S) (hl : S.length ≤ 1000) (hbase : base ≤ W.heap.size) :
    ∃ v' W', (Builtin.append_ #[33, 33] ty #[.slice (some ⟨g0, 0, none⟩) 0 0, hv]).run Tryd.prog W = .ok v' W' ∧ W'.ownsRow base 9 1 v' S.length (strs (S.map bstr)) ∧ Gl W W' := by
  obtain ⟨i0, hi, hz0, hz1, hz2⟩ := info_parts info9
  cases S with
  | nil =>
    obtain rfl := hS.2.2 rfl
    exact ⟨_, W, run_append_owned_none (P := Tryd.prog) W base 33 ty 9 i0 1 Tryd.underlying33 hi _ 0 [] h0, h0, Gl.refl W⟩
  | cons B S =>
    have h1' : W.ownsRow b2 9 1 hv (S.length + 1) (strs ((B :: S).map bstr)) := hS.1
    obtain ⟨rg, cap, rfl⟩ := ownsRow_succ h1'
    have hll : (strs ((B :: S).map bstr)).length = (S.length + 1) * 1 := by rw [strs_length, List.length_map, List.length_cons]; omega
    have hn : ∀ (j : Nat) v, (strs ((B :: S).map bstr))[j]? = some v → W.cell? ((⟨rg, 0, none⟩ : Addr).add j) = some v := h1'.cells (g := rg) rfl
    have hl' : S.length + 1 ≤ 1000 := hl
    have hr := run_append_grow (P := Tryd.prog) W 33 ty 9 i0 _ Tryd.underlying33 hi hz0 ⟨g0, 0, none⟩ 0 0 [] (by simp) (fun j v h => by simp at h) ⟨rg, 0, none⟩ (S.length + 1) cap (strs ((B :: S).map bstr)) (by rw [hll, hz1]) hn (by omega) (by omega) (growslice_fits (by omega) (by rw [hz2]; omega))
    rw [Nat.zero_add] at hr
    refine ⟨_, _, hr, ?_, (Gl.drew W).trans (Gl.alloc W.drew _)⟩
    have hge := grownCap_ge W (S.length + 1) 0 9
    have hcm : grownCap W (S.length + 1) 0 9 ≤ maxLen := grownCap_le_maxLen W (S.length + 1) 0 9 (by unfold maxLen; omega)
    refine ⟨hll, .inr ⟨W.heap.size, _, _, rfl, hbase, heap_alloc_new W.drew _, hge, hcm, ?_, ?_⟩⟩
    · simp only [Array.size_append, List.size_toArray, size_zeroCells, hll, List.length_nil, Value.cells]
      simp
      omega
    · simp only [Array.toList_append, List.nil_append]
      show ((strs ((B :: S).map bstr)) ++ _).take ((S.length + 1) * 1) = _
      rw [← hll]
      exact List.take_left
/-- a row of one text -/
def OneT (b : ByteArray) (v : Value) (W : World) : Prop := ∃ g, v = .slice (some ⟨g, 0, none⟩) 1 1 ∧ W.cell? ⟨g, 0, none⟩ = some (.string b)
theorem oneT_stable (b : ByteArray) : Stable (OneT b) := fun v W W' hb h => by
  obtain ⟨g, e, hc⟩ := h
  exact ⟨g, e, (hb.cell (cell_lt hc)).trans hc⟩
def OwnT (base n : Nat) (xs : List Value) (v : Value) (W : World) : Prop := W.ownsRow base 9 1 v n xs
theorem ownT_stable (base n : Nat) (xs : List Value) : Stable (OwnT base n xs) := fun v W W' hb h => own_below h hb
def EmptyT (base : Nat) (v : Value) (W : World) : Prop := ∃ g, v = .slice (some ⟨g, 0, none⟩) 0 0 ∧ W.ownsRow base 9 1 v 0 []
theorem emptyT_stable (base : Nat) : Stable (EmptyT base) := fun v W W' hb h => by
  obtain ⟨g, e, hc⟩ := h
  exact ⟨g, e, own_below hc hb⟩
theorem run_snoc_texts (W : World) (ty : TypeId) (base g : Nat) (v : Value) (S : List (List Nat)) (B : List Nat) (h0 : W.ownsRow base 9 1 v S.length (strs (S.map bstr))) (hS : ∀ B ∈ S, ∀ c ∈ B, c < 256) (hB : ∀ c ∈ B, c < 256) (hg : W.cell? ⟨g, 0, none⟩ = some (.string (bstr B))) (hl : S.length ≤ 1000) (hbase : base ≤ W.heap.size) :
    ∃ v' W', (Builtin.append_ #[33, 33] ty #[v, .slice (some ⟨g, 0, none⟩) 1 1]).run Tryd.prog W = .ok v' W' ∧ TextsOf W' base v' (S ++ [B]) ∧ Below base W W' := by
  obtain ⟨i0, hi, hz0, hz1, hz2⟩ := info_parts info9
  obtain ⟨v', W', hr, ho, hgr, hnil⟩ := run_append_own (P := Tryd.prog) W base 33 ty 9 i0 _ 1 16 Tryd.underlying33 hi hz0 hz1 hz2 rfl (by decide) v S.length (strs (S.map bstr)) h0 ⟨g, 0, none⟩ 1 1 [.string (bstr B)] rfl (fun j u hu => by
    cases j with
    | zero =>
      obtain rfl := Option.some.inj hu
      exact hg
    | succ j => simp at hu) (fun u hu => by
      rw [List.mem_singleton] at hu
      subst hu
      rfl) (by unfold maxLen; omega) (by omega) hbase
  refine ⟨v', W', hr, ⟨?_, ?_, fun e => by simp at e⟩, (Below.refl _ W).grown hgr hbase (fun k hk => own_base h0 hk)⟩
  · have e1 : (S ++ [B]).length = S.length + 1 := by simp
    have e2 : strs ((S ++ [B]).map bstr) = strs (S.map bstr) ++ [.string (bstr B)] := by simp [strs]
    rw [e1, e2]
    exact ho
  · intro C hC
    rcases List.mem_append.1 hC with h | h
    · exact hS C h
    · rw [List.mem_singleton] at h
      subst h
      exact hB

structure Ent where
  what : Int
  a : Option Addr
  n : Nat
  c : Nat
  L : List Nat
  by_ : Int
/-- entries that came in, all their cells -/
def Ents (w : World) (a : Option Addr) (n : Nat) (ts : Nat → Ent) : Prop :=
  n ≤ maxLen ∧ (0 < n → ∃ b o, a = some ⟨b, o, none⟩ ∧ ∀ i, i < n → w.cell? ⟨b, o + i * 3, none⟩ = some (.int .i64 (ts i).what) ∧ w.cell? ⟨b, o + i * 3 + 1, none⟩ = some (.slice (ts i).a (ts i).n (ts i).c) ∧ w.cell? ⟨b, o + i * 3 + 2, none⟩ = some (.int .i64 (ts i).by_) ∧ ByteRow w (ts i).a (ts i).n (ts i).L ∧ (ts i).n ≤ (ts i).c ∧ (ts i).c ≤ maxLen)
theorem int_of_trod {H : Type} {enc : TypeId × Value → H} {w : World} {n : Nat} {v : Value} {y : DataW H × List MemPlace} (h : DataW.trod enc Tryd.prog w 0 (fun _ => true) true n 3 [v] = some y) : ∃ z, v = .int .i64 z := by
  obtain ⟨z, e, _⟩ := DataW.trod_int Tryd.underlying3 h
  exact ⟨z, by simpa using e⟩
theorem ents_of {H : Type} {enc : TypeId × Value → H} {w : World} {a : Option Addr} {len cap : Nat} {fuel : Nat} {x : DataW H × List MemPlace} (hf : DataW.trod enc Tryd.prog w 0 (fun _ => true) true fuel 22 [.slice a len cap] = some x) : ∃ ts, Ents w a len ts := by
  rcases open_slice Tryd.underlying22 hf with ⟨hcs, _⟩ | ⟨x, l, c, m, n, D, Pl, hcs, _, hl, hm, hmm, _, hi⟩
  · simp at hcs
    obtain ⟨rfl, rfl, rfl⟩ := hcs
    exact ⟨fun _ => ⟨0, none, 0, 0, [], 0⟩, Nat.zero_le _, fun h => by omega⟩
  · simp at hcs
    obtain ⟨rfl, rfl, rfl⟩ := hcs
    simp only [if_true] at hmm
    subst hmm
    have hC : Tryd.prog.cellsOf 36 = 3 := by kernel_rfl
    rw [hC] at hi
    have hall : ∀ i, i < len → ∃ t : Ent, w.cell? (x.add (i * 3)) = some (.int .i64 t.what) ∧ w.cell? ((x.add (i * 3)).add 1) = some (.slice t.a t.n t.c) ∧ w.cell? ((x.add (i * 3)).add 2) = some (.int .i64 t.by_) ∧ ByteRow w t.a t.n t.L ∧ t.n ≤ t.c ∧ t.c ≤ maxLen := by
      intro i hil
      obtain ⟨cs', hc, ht⟩ := hi i (by omega)
      have hF := fields_of Tryd.underlying36 (hone_of (by kernel_rfl)) hc ht
      obtain ⟨v0, y0, n0, c0, t0⟩ := hF 0 _ rfl
      obtain ⟨v1, y1, n1, c1, t1⟩ := hF 1 _ rfl
      obtain ⟨v2, y2, n2, c2, t2⟩ := hF 2 _ rfl
      obtain ⟨z0, rfl⟩ := int_of_trod t0
      obtain ⟨z2, rfl⟩ := int_of_trod t2
      obtain ⟨t, rfl, h1, h2, h3⟩ := row_of_trod t1
      exact ⟨⟨z0, t.1, t.2.1, t.2.2.1, t.2.2.2, z2⟩, by simpa [Addr.add] using c0, c1, c2, h1, h2, h3⟩
    obtain ⟨ts, hts⟩ : ∃ ts : Nat → Ent, ∀ i, i < len → w.cell? (x.add (i * 3)) = some (.int .i64 (ts i).what) ∧ w.cell? ((x.add (i * 3)).add 1) = some (.slice (ts i).a (ts i).n (ts i).c) ∧ w.cell? ((x.add (i * 3)).add 2) = some (.int .i64 (ts i).by_) ∧ ByteRow w (ts i).a (ts i).n (ts i).L ∧ (ts i).n ≤ (ts i).c ∧ (ts i).c ≤ maxLen :=
      ⟨fun i => if h : i < len then Classical.choose (hall i h) else ⟨0, none, 0, 0, [], 0⟩, fun i h => by
        simp only [dif_pos h]
        exact Classical.choose_spec (hall i h)⟩
    refine ⟨ts, by omega, fun h0 => ?_⟩
    obtain ⟨b, off, spot⟩ := x
    have hc0 := (hts 0 h0).1
    have hspot : spot = none := by simpa [Addr.add] using World.cell?_spot hc0
    subst hspot
    refine ⟨b, off, rfl, fun i hil => ?_⟩
    obtain ⟨c0, c1, c2, h1, h2, h3⟩ := hts i hil
    have e1 : (⟨b, off, none⟩ : Addr).add (i * 3) = ⟨b, off + i * 3, none⟩ := Cr.addr_add b off (i * 3)
    rw [e1] at c0 c1 c2
    exact ⟨c0, by simpa [Addr.add] using c1, by simpa [Addr.add] using c2, h1, h2, h3⟩
theorem Ents.at_ {w : World} {a : Option Addr} {n : Nat} {ts : Nat → Ent} (h : Ents w a n ts) {k : Nat} (hk : k < n) :
    ∃ b o : Nat, b < w.heap.size ∧ w.cell? ⟨b, o, none⟩ = some (.int .i64 (ts k).what) ∧ w.cell? ⟨b, o + 1, none⟩ = some (.slice (ts k).a (ts k).n (ts k).c) ∧ w.cell? ⟨b, o + 2, none⟩ = some (.int .i64 (ts k).by_) ∧ ByteRow w (ts k).a (ts k).n (ts k).L ∧ (ts k).n ≤ (ts k).c ∧ (ts k).c ≤ maxLen ∧ ∀ (cap : Nat) (W : World), (Instr.indexAt 22 (.slice a n cap) (.int .i64 (k : Int))).run Tryd.prog W = .ok (.pointer (some ⟨b, o, none⟩)) W := by
  obtain ⟨_, h4⟩ := h
  obtain ⟨b, o, rfl, hc⟩ := h4 (by omega)
  obtain ⟨c0, c1, c2, h1, h2, h3⟩ := hc k hk
  refine ⟨b, o + k * 3, cell_lt c0, c0, c1, c2, h1, h2, h3, fun cap W => ?_⟩
  have g1 : (0 : Int) ≤ (k : Int) := by omega
  have g2 : (k : Int) < (n : Int) := by omega
  clear hc h4 c0 c1 c2 h1 h2 h3
  go_simp
end Go.Proofs.YtcmnfbpmkndfkaaDoor
namespace Go.Proofs.YtcmnfbpmkndfkaaDoor
open Go.ChangeShapes Go.WideShapes Go.ChangeAt Go.RowKit Go.Deep
set_option linter.unusedVariables false
set_option maxRecDepth 100000

theorem step_append {P : Program} {ops : Array Oper} {o : Oper} {A : Act} {W : World} {K : Value → World → Prop} (hgd : o.guard = none) (s x : Operand) (t : TypeId) (ho : o.op = .call { callee := .builtin .append, args := #[s, x], argTypes := #[t, t] }) {v xv v' : Value} {W' : World} (hs : A.eval s = v) (hx : A.eval x = xv) (hr : (Builtin.append_ #[t, t] o.type #[v, xv]).run P W = .ok v' W') (h : K v' W') :
    if Region.wanted o (yielded ops A.tmps) = true then invUpon P K ((execOp A.eval o).run P W) else K undef W := by
  have hw : Region.wanted o (yielded ops A.tmps) = true := by simp [Region.wanted, hgd]
  rw [if_pos hw]
  have e : (execOp A.eval o).run P W = .ok (.value v') W' := by
    unfold execOp
    simp only [ho, resolve, invoke, builtin, Sem.run_bind, Sem.run_pure, Result.andThen_ok, List.map_toArray, List.map_cons, List.map_nil, hs, hx, hr]
  rw [e]
  exact h
theorem BRows.below {w W : World} {a : Option Addr} {R : List (List Nat)} (h : BRows w a R) (hb : Below w.heap.size w W) : BRows W a R := fun k hk => by
  obtain ⟨g, gb, cb, e, hc, hr⟩ := h k hk
  exact ⟨g, gb, cb, e, (hb.cell (cell_lt hc)).trans hc, hr.below hb⟩
theorem TRows.below {w W : World} {a : Option Addr} {R : List (List Nat)} (h : TRows w a R) (hb : Below w.heap.size w W) : TRows W a R := fun k hk => by
  obtain ⟨g, e, hc, hr⟩ := h k hk
  exact ⟨g, e, (hb.cell (cell_lt hc)).trans hc, hr⟩
/-- an owned row of texts beside a log -/
def Ow (W : World) (base : Nat) (F : Nat → Prop) (g : Nat) (v : Value) (S : List (List Nat)) : Prop := TextsOf W base v S ∧ ∀ k, v.ownBlock = some k → ¬ F k ∧ k ≠ g
theorem Ow.below {W W' : World} {base g : Nat} {F : Nat → Prop} {v : Value} {S : List (List Nat)} (h : Ow W base F g v S) (hb : Below W.heap.size W W') : Ow W' base F g v S := ⟨h.1.below hb, h.2⟩
theorem Ow.ext {W W' : World} {base g : Nat} {F F' : Nat → Prop} {v : Value} {S : List (List Nat)} (h : Ow W base F g v S) (he : Ext W F g W' F') : Ow W' base F' g v S :=
  ⟨h.1.ext he h.2, fun k hk => ⟨fun hF => by
    have hl := (h.1.1.lt k hk).2
    rcases he.1 k hF with e | e
    · exact (h.2 k hk).1 e
    · omega, (h.2 k hk).2⟩⟩
theorem Ow.only {W W' : World} {base g : Nat} {F : Nat → Prop} {v : Value} {S : List (List Nat)} (h : Ow W base F g v S) (he : Only F W W') : Ow W' base F g v S := ⟨h.1.only he (fun k hk => (h.2 k hk).1), h.2⟩
theorem Ow.opened {W W' : World} {base g : Nat} {F : Nat → Prop} {v : Value} {S : List (List Nat)} (h : Ow W base F g v S) (hb : Below W.heap.size W W') : Ow W' base F W.heap.size v S :=
  ⟨h.1.below hb, fun k hk => ⟨(h.2 k hk).1, fun e => by have := (h.1.1.lt k hk).2; omega⟩⟩
theorem ow_none (W : World) (base : Nat) (F : Nat → Prop) (g : Nat) : Ow W base F g (.slice none 0 0) [] := ⟨texts_none W base, fun k hk => by cases hk⟩
theorem Ow.new {W' : World} {base base' g : Nat} {F : Nat → Prop} {v : Value} {S : List (List Nat)} (h : TextsOf W' base' v S) (hb : base ≤ base') (hF : ∀ j, F j → j < base') (hg : g < base') : Ow W' base F g v S :=
  ⟨h.le hb, fun k hk => by
    have h1 := (h.1.lt k hk).1
    exact ⟨fun e => by have := hF k e; omega, by omega⟩⟩
/-- a box beside a log -/
def Bx (W : World) (F : Nat → Prop) (g k : Nat) (cs : Array Value) (t : TypeId) : Prop := W.heap[k]? = some (.cells cs t (0, 0)) ∧ ¬ F k ∧ k ≠ g
theorem Bx.lt {W : World} {F : Nat → Prop} {g k : Nat} {cs : Array Value} {t : TypeId} (h : Bx W F g k cs t) : k < W.heap.size := by
  rcases Nat.lt_or_ge k W.heap.size with h' | h'
  · exact h'
  · have := h.1
    rw [Array.getElem?_eq_none h'] at this
    cases this
theorem Bx.cell {W : World} {F : Nat → Prop} {g k : Nat} {cs : Array Value} {t : TypeId} (h : Bx W F g k cs t) (i : Nat) (v : Value) (hv : cs[i]? = some v) : W.cell? ⟨k, i, none⟩ = some v := (cell_of_row W k i cs t (0, 0) h.1).trans hv
theorem Bx.below {W W' : World} {F : Nat → Prop} {g k : Nat} {cs : Array Value} {t : TypeId} (h : Bx W F g k cs t) (hb : Below W.heap.size W W') : Bx W' F g k cs t := ⟨(hb.block k h.lt).trans h.1, h.2⟩
theorem Bx.ext {W W' : World} {F F' : Nat → Prop} {g k : Nat} {cs : Array Value} {t : TypeId} (h : Bx W F g k cs t) (he : Ext W F g W' F') : Bx W' F' g k cs t :=
  ⟨(he.2.block k h.lt (fun e => by rcases e with e | e; exact h.2.1 e; exact h.2.2 e)).trans h.1, fun e => by
    have hl := h.lt
    rcases he.1 k e with e | e
    · exact h.2.1 e
    · omega, h.2.2⟩
theorem Bx.only {W W' : World} {F : Nat → Prop} {g k : Nat} {cs : Array Value} {t : TypeId} (h : Bx W F g k cs t) (he : Only F W W') : Bx W' F g k cs t := ⟨(he.block k h.lt h.2.1).trans h.1, h.2⟩
theorem Bx.opened {W W' : World} {F : Nat → Prop} {g k : Nat} {cs : Array Value} {t : TypeId} (h : Bx W F g k cs t) (hb : Below W.heap.size W W') : Bx W' F W.heap.size k cs t := ⟨(hb.block k h.lt).trans h.1, h.2.1, fun e => by have := h.lt; omega⟩
theorem bx_new {W W' : World} (F : Nat → Prop) (g : Nat) (cs : Array Value) (t : TypeId) (hb : Below (W.alloc (.cells cs t)).heap.size (W.alloc (.cells cs t)) W') (hF : ∀ j, F j → j < W.heap.size) (hg : g < W.heap.size) : Bx W' F g W.heap.size cs t :=
  ⟨(hb.block W.heap.size (by rw [size_alloc']; omega)).trans (heap_alloc_new W _), fun e => by have := hF _ e; omega, by omega⟩
theorem same_of {W : World} {base base2 g : Nat} {F : Nat → Prop} {v rv : Value} {R S : List (List Nat)} (hR : RowsOf W base rv R) (hS : Ow W base2 F g v S) (hr : R.length ≤ 1000) (hs : S.length ≤ 1000) :
    ∀ W', Below W.heap.size W W' → Calls Tryd.prog 15 #[rv, v] W' fun e w' => e = .returned (.bool (decide (R = S))) ∧ Below W'.heap.size W' w' := by
  intro W' hb
  obtain ⟨a, c, rfl, h1⟩ := hR.brows
  obtain ⟨b, d, rfl, h2⟩ := hS.1.trows
  exact same_any W' a b c d R S (h1.below hb) (h2.below hb) (by omega) (by omega)
theorem LogOK.few {N : List ByteArray} {s : LSt} {R : List (List Nat)} (h : LogOK N s R) : R.length + 2 ≤ s.used := by
  have h2 := through_num R s.zero
  rw [← h.th] at h2
  have e2 : s.zero.used = 2 := rfl
  omega
theorem Lc.few {w wr : World} {p g m : Nat} {F : Nat → Prop} {s : LSt} {d : DSt} {R : List (List Nat)} (h : Lc w wr p g F s d R m) : R.length ≤ 12 := by
  have h1 := h.ok.few
  have h2 := h.ok.used
  have h3 := h.at_
  omega
theorem Lq.few {w wr : World} {p m : Nat} {F : Nat → Prop} {s : LSt} {d : DSt} {R : List (List Nat)} (h : Lq w wr p F s d R m) : R.length ≤ 12 := by
  have h1 := h.ok.few
  have h2 := h.ok.used
  have h3 := h.at_
  omega
/-- what a call on the log answered, and left -/
def Answer (w w' : World) (p g : Nat) (F : Nat → Prop) (s : LSt) (d : DSt) (S S' : List (List Nat)) (m : Nat) (r : Int) : Prop :=
  (r = 0 ∧ ∃ s', Lc w w' p g F s' d S' m) ∨ (r = 7 ∧ Lc w w' p g F s d S m) ∨ (r = 8 ∧ ∃ s', Lb w w' p F d s S s' S' m)
theorem answer_append (w wr : World) (p g m n cap : Nat) (F : Nat → Prop) (a : Option Addr) (s : LSt) (d : DSt) (R : List (List Nat)) (B : List Nat) (h : Lc w wr p g F s d R m) (hB : ByteRow wr a n B) (hnc : n ≤ cap) (hcm : cap ≤ maxLen) (ha : 0 < n → ∀ x, a = some x → ¬ F x.block ∧ x.block ≠ g) (hn : n ≤ 16777216) (hm : m ≤ 500000) (ht : Cr.Tab w) :
    Calls Tryd.prog 8 #[.pointer (some ⟨g, 0, none⟩), .slice a n cap] wr fun e w' => ∃ r F' s' d', e = .returned (.int .i64 r) ∧ Ext wr F g w' F' ∧ Answer w w' p g F' s' d' R (R ++ [B]) (m + 20) r := by
  refine (lc_append w wr p g m n cap F a s d R B h hB hnc hcm ha hn hm ht).mono ?_
  rintro e w' ⟨r, F', d', rfl, hx, hqk, h1 | h1 | h1⟩
  · exact ⟨r, F', s, d', rfl, hx, .inl ⟨h1.1, _, h1.2.2⟩⟩
  · have h2 := h1.2.2
    exact ⟨r, F', s, d', rfl, hx, .inr (.inl ⟨h1.1, h2.more (by omega)⟩)⟩
  · exact ⟨r, F', s, d', rfl, hx, .inr (.inr ⟨h1.1, _, h1.2⟩)⟩
theorem answer_truncate (w wr : World) (p g m : Nat) (F : Nat → Prop) (s : LSt) (d : DSt) (R : List (List Nat)) (h : Lc w wr p g F s d R m) (hm : m ≤ 500000) (ht : Cr.Tab w) :
    Calls Tryd.prog 9 #[.pointer (some ⟨g, 0, none⟩)] wr fun e w' => ∃ r F' s' d', e = .returned (.int .i64 r) ∧ Ext wr F g w' F' ∧ Answer w w' p g F' s' d' R [] (m + 20) r := by
  refine (lc_truncate w wr p g m F s d R h hm ht).mono ?_
  rintro e w' ⟨r, F', d', rfl, hx, hqk, h1 | h1⟩
  · exact ⟨r, F', s, d', rfl, hx, .inl ⟨h1.1, _, h1.2⟩⟩
  · exact ⟨r, F', s, d', rfl, hx, .inr (.inr ⟨h1.1, _, h1.2⟩)⟩
end Go.Proofs.YtcmnfbpmkndfkaaDoor
namespace Go.Proofs.YtcmnfbpmkndfkaaDoor
open Go.ChangeShapes Go.WideShapes Go.ChangeAt Go.RowKit Go.Deep
set_option linter.unusedVariables false
set_option maxRecDepth 100000

theorem bstr_cat (l m : List Nat) : bstr l ++ bstr m = bstr (l ++ m) := Wr.bstr_append l m
theorem refNum (n : Int) (h1 : -9223372036854775808 ≤ n) (h2 : n ≤ 9223372036854775807) (w : World) :
    Calls Tryd.prog 43 #[.int .i64 n] w fun e w' => e = .returned (.string (bstr (Wr.code n))) ∧ Below w.heap.size w w' := Wr.refNum_any n h1 h2 w
theorem refSum (l : List Nat) (h256 : ∀ c ∈ l, c < 256) (hl : l.length ≤ 20000000) (w : World) :
    Calls Tryd.prog 44 #[.string (bstr l)] w fun e w' => e = .returned (.int .u32 (Cr.sum l : Nat)) ∧ w = w' := by
  have h := Cr.refSum_any (bstr l) w (by rw [size_bstr]; unfold maxLen; omega)
  have e : Cr.nums (bstr l) = l := bytesOf_bstr l h256
  rw [e] at h
  exact h
theorem four_cells (w : World) (S : Nat) (hS : S < 4294967296) :
    (convert 34 9 (.slice (some ⟨w.heap.size, 0, none⟩) 4 4)).run Tryd.prog (w.alloc (.cells #[.int .u8 ((S : Int) % 256), .int .u8 ((S : Int) / 256 % 256), .int .u8 ((S : Int) / 65536 % 256), .int .u8 ((S : Int) / 16777216)] 5)) =
      .ok (.string (bstr (Cr.four S))) (w.alloc (.cells #[.int .u8 ((S : Int) % 256), .int .u8 ((S : Int) / 256 % 256), .int .u8 ((S : Int) / 65536 % 256), .int .u8 ((S : Int) / 16777216)] 5)) := by
  refine conv_row 4 ⟨rfl, by decide, Cr.four_lt S hS, fun _ => ⟨w.heap.size, 0, rfl, fun i hi => ?_⟩⟩
  rw [Nat.zero_add]
  have e : i = 0 ∨ i = 1 ∨ i = 2 ∨ i = 3 := by omega
  rcases e with rfl | rfl | rfl | rfl <;> exact Cr.cell_new w _ _ _ _ _ _ rfl rfl
theorem refFour (S : Nat) (hS : S < 4294967296) (w : World) :
    Calls Tryd.prog 64 #[.int .u32 (S : Int)] w fun e w' => e = .returned (.string (bstr (Cr.four S))) ∧ Below w.heap.size w w' := by
  have hcv := four_cells w S hS
  go_enter Tryd.func64, Tryd.ntmps64
  go_wp2_with fail
  go_ret
  exact ⟨rfl, (Below.refl _ _).alloc (Nat.le_refl _) _⟩
theorem refPad (l : List Nat) (h256 : ∀ c ∈ l, c < 256) (hl : l.length ≤ 512) (w : World) :
    Calls Tryd.prog 38 #[.string (bstr l)] w fun e w' => e = .returned (.string (bstr (padL l))) ∧ Below w.heap.size w w' := by
  obtain ⟨m, hm⟩ : ∃ m, m = 512 - l.length := ⟨_, rfl⟩
  have hap : bstr l ++ bstr (List.replicate m 0) = bstr (padL l) := by rw [bstr_cat, hm]; rfl
  have hs : (bstr l).size = l.length := size_bstr _
  have hs2 : (bstr (List.replicate m 0)).size = m := by rw [size_bstr, List.length_replicate]
  have hmi : (512 : Int) - (l.length : Int) = (m : Int) := by omega
  have hmk := fun u => make_len m (by omega) u
  have hcv := conv_row m (made_row m (by unfold maxLen; omega) w)
  have h1 : m ≤ 512 := by omega
  clear hm
  generalize bstr (padL l) = R at *
  generalize bstr (List.replicate m 0) = Z at *
  generalize bstr l = L at *
  go_enter Tryd.func38, Tryd.ntmps38
  go_wp2_with fail
  go_ret
  exact ⟨rfl, (Below.refl _ _).alloc (Nat.le_refl _) _⟩
theorem refClosed (l : List Nat) (h256 : ∀ c ∈ l, c < 256) (hl : l.length ≤ 3000) (w : World) :
    Calls Tryd.prog 42 #[.string (bstr l)] w fun e w' => e = .returned (.string (bstr (closedL l))) ∧ Below w.heap.size w w' := by
  have hap : bstr l ++ bstr (Cr.four (Cr.sum l)) = bstr (closedL l) := by rw [bstr_cat]; rfl
  have hs : (bstr l).size = l.length := size_bstr _
  have hs2 : (bstr (Cr.four (Cr.sum l))).size = 4 := by rw [size_bstr]; rfl
  have HS := Lib.hid (refSum l h256 (by omega) w)
  have HF := Lib.hid (refFour (Cr.sum l) (sum_lt l h256) w)
  clear h256
  generalize bstr (closedL l) = R at *
  generalize Cr.sum l = S at *
  generalize bstr (Cr.four S) = Z at *
  generalize bstr l = L at *
  go_enter Tryd.func42, Tryd.ntmps42
  go_wp2_with fail
  refine HS.out.mono ?_
  rintro e w1 ⟨rfl, rfl⟩
  go_wp2_with fail
  refine HF.out.mono ?_
  rintro e w2 ⟨rfl, hb⟩
  go_wp2_with fail
  go_ret
  exact ⟨rfl, hb⟩
theorem refHead (n : Int) (h1 : -9223372036854775808 ≤ n) (h2 : n ≤ 9223372036854775807) (w : World) :
    Calls Tryd.prog 22 #[.int .i64 n] w fun e w' => e = .returned (.string (bstr (headL n))) ∧ Below w.heap.size w w' := by
  have hl := Wr.code_len n
  have h256 : ∀ c ∈ (76 :: 71 :: Wr.code n), c < 256 := fun c hc => by
    rcases List.mem_cons.1 hc with rfl | hc
    · decide
    · rcases List.mem_cons.1 hc with rfl | hc
      · decide
      · exact code_lt n c hc
  have HC := Lib.hid (fun w => refClosed (76 :: 71 :: Wr.code n) h256 (by simp; omega) w)
  have HP := Lib.hid (fun w => refPad (closedL (76 :: 71 :: Wr.code n)) (closedL_lt _ h256) (by rw [closedL_length]; simp; omega) w)
  have hap : (⟨#[76, 71]⟩ : ByteArray) ++ bstr (Wr.code n) = bstr (76 :: 71 :: Wr.code n) := bstr_cat [76, 71] (Wr.code n)
  have hs : (bstr (Wr.code n)).size = (Wr.code n).length := size_bstr _
  have HN := Lib.hid (refNum n h1 h2 w)
  have e : bstr (padL (closedL (76 :: 71 :: Wr.code n))) = bstr (headL n) := rfl
  rw [e] at HP
  clear e h256
  generalize bstr (headL n) = R at *
  generalize bstr (closedL (76 :: 71 :: Wr.code n)) = R2 at *
  generalize bstr (76 :: 71 :: Wr.code n) = R3 at *
  generalize bstr (Wr.code n) = R4 at *
  generalize (Wr.code n).length = k at *
  go_enter Tryd.func22, Tryd.ntmps22
  go_wp2_with fail
  refine HN.out.mono ?_
  rintro e w1 ⟨rfl, hb1⟩
  have HB1 := Lib.hid hb1
  clear hb1
  go_wp2_with fail
  refine (HC.out _).mono ?_
  rintro e w2 ⟨rfl, hb2⟩
  have HB2 := Lib.hid (Below.step hb2 HB1.out HB1.out.size)
  clear hb2
  go_wp2_with fail
  refine (HP.out _).mono ?_
  rintro e w3 ⟨rfl, hb3⟩
  have HB3 := Lib.hid (Below.step hb3 HB2.out HB2.out.size)
  clear hb3
  go_wp2_with fail
  go_ret
  exact ⟨rfl, HB3.out⟩
theorem refFirst (a n : Int) (l : List Nat) (h1 : -9223372036854775808 ≤ a ∧ a ≤ 9223372036854775807) (h2 : -9223372036854775808 ≤ n ∧ n ≤ 9223372036854775807) (h256 : ∀ c ∈ l, c < 256) (hl : l.length ≤ 20000000) (w : World) :
    Calls Tryd.prog 21 #[.int .i64 a, .int .i64 n, .string (bstr l)] w fun e w' => e = .returned (.string (bstr (startL a n l))) ∧ Below w.heap.size w w' := by
  have hS := sum_lt l h256
  have hlr := recL_len a n l
  have hr256 : ∀ c ∈ recL a n l, c < 256 := fun c hc => by
    unfold recL at hc
    simp only [List.mem_append] at hc
    rcases hc with ((h | h) | h) | h <;> exact code_lt _ c h
  have h256' : ∀ c ∈ (72 :: closedL (recL a n l)), c < 256 := fun c hc => by
    rcases List.mem_cons.1 hc with rfl | hc
    · decide
    · exact closedL_lt _ hr256 c hc
  have HC := Lib.hid (fun w => refClosed (recL a n l) hr256 (by omega) w)
  have HP := Lib.hid (fun w => refPad (72 :: closedL (recL a n l)) h256' (by rw [List.length_cons, closedL_length]; omega) w)
  have hap1 : bstr (Wr.code a) ++ bstr (Wr.code n) = bstr (Wr.code a ++ Wr.code n) := bstr_cat _ _
  have hap2 : bstr (Wr.code a ++ Wr.code n) ++ bstr (Wr.code (l.length : Int)) = bstr (Wr.code a ++ Wr.code n ++ Wr.code (l.length : Int)) := bstr_cat _ _
  have hap3 : bstr (Wr.code a ++ Wr.code n ++ Wr.code (l.length : Int)) ++ bstr (Wr.code ((Cr.sum l : Nat) : Int)) = bstr (recL a n l) := bstr_cat _ _
  have hap4 : (⟨#[72]⟩ : ByteArray) ++ bstr (closedL (recL a n l)) = bstr (72 :: closedL (recL a n l)) := bstr_cat [72] _
  have s1 : (bstr (Wr.code a)).size ≤ 10 := by rw [size_bstr]; exact Wr.code_len _
  have s2 : (bstr (Wr.code n)).size ≤ 10 := by rw [size_bstr]; exact Wr.code_len _
  have s3 : (bstr (Wr.code (l.length : Int))).size ≤ 10 := by rw [size_bstr]; exact Wr.code_len _
  have s4 : (bstr (Wr.code ((Cr.sum l : Nat) : Int))).size ≤ 10 := by rw [size_bstr]; exact Wr.code_len _
  have s5 : (bstr (Wr.code a ++ Wr.code n)).size ≤ 20 := by
    have := Wr.code_len a
    have := Wr.code_len n
    rw [size_bstr, List.length_append]; omega
  have s6 : (bstr (Wr.code a ++ Wr.code n ++ Wr.code (l.length : Int))).size ≤ 30 := by
    have := Wr.code_len a
    have := Wr.code_len n
    have := Wr.code_len (l.length : Int)
    rw [size_bstr, List.length_append, List.length_append]; omega
  have s7 : (bstr (closedL (recL a n l))).size ≤ 44 := by rw [size_bstr, closedL_length]; omega
  have hs : (bstr l).size = l.length := size_bstr _
  have HN1 := Lib.hid (fun w => refNum a h1.1 h1.2 w)
  have HN2 := Lib.hid (fun w => refNum n h2.1 h2.2 w)
  have HN3 := Lib.hid (fun w => refNum (l.length : Int) (by omega) (by omega) w)
  have HN4 := Lib.hid (fun w => refNum ((Cr.sum l : Nat) : Int) (by omega) (by omega) w)
  have HS := Lib.hid (fun w => refSum l h256 hl w)
  have e : bstr (padL (72 :: closedL (recL a n l))) = bstr (startL a n l) := rfl
  rw [e] at HP
  clear e h256 h256' hr256 hlr
  generalize bstr (startL a n l) = R at *
  generalize bstr (72 :: closedL (recL a n l)) = R1 at *
  generalize bstr (closedL (recL a n l)) = R2 at *
  generalize bstr (recL a n l) = R3 at *
  generalize bstr (Wr.code a ++ Wr.code n ++ Wr.code (l.length : Int)) = R4 at *
  generalize bstr (Wr.code a ++ Wr.code n) = R5 at *
  generalize bstr (Wr.code a) = R6 at *
  generalize bstr (Wr.code n) = R7 at *
  generalize bstr (Wr.code (l.length : Int)) = R8 at *
  generalize Cr.sum l = S at *
  generalize bstr (Wr.code ((S : Nat) : Int)) = R9 at *
  generalize bstr l = L at *
  go_enter Tryd.func21, Tryd.ntmps21
  go_wp2_with fail
  refine (HN1.out _).mono ?_
  rintro e w1 ⟨rfl, hb⟩
  have HB1 := Lib.hid hb
  clear hb
  go_wp2_with fail
  refine (HN2.out _).mono ?_
  rintro e w2 ⟨rfl, hb⟩
  have HB2 := Lib.hid (Below.step hb HB1.out HB1.out.size)
  clear hb
  go_wp2_with fail
  refine (HN3.out _).mono ?_
  rintro e w3 ⟨rfl, hb⟩
  have HB3 := Lib.hid (Below.step hb HB2.out HB2.out.size)
  clear hb
  go_wp2_with fail
  refine (HS.out _).mono ?_
  rintro e w4 ⟨rfl, rfl⟩
  go_wp2_with fail
  refine (HN4.out _).mono ?_
  rintro e w5 ⟨rfl, hb⟩
  have HB5 := Lib.hid (Below.step hb HB3.out HB3.out.size)
  clear hb
  go_wp2_with fail
  refine (HC.out _).mono ?_
  rintro e w6 ⟨rfl, hb⟩
  have HB6 := Lib.hid (Below.step hb HB5.out HB5.out.size)
  clear hb
  go_wp2_with fail
  refine (HP.out _).mono ?_
  rintro e w7 ⟨rfl, hb⟩
  have HB7 := Lib.hid (Below.step hb HB6.out HB6.out.size)
  clear hb
  go_wp2_with fail
  go_ret
  exact ⟨rfl, HB7.out⟩
end Go.Proofs.YtcmnfbpmkndfkaaDoor
