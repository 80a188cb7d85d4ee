/-
  The law CrcOpens: the walk.
-/
import Derived.Test.YtkplkfhkablelaaDoorCrcL
import Derived.ArgAppend
namespace Go.Proofs.YtkplkfhkablelaaDoor
open Go.ChangeShapes Go.WideShapes Go.ChangeAt Go.RowKit
set_option linter.unusedVariables false

def ov : List Nat → Nat → List Nat → List Nat
  | m, _, [] => m
  | m, o, c :: r => ov (m.set o c) (o + 1) r
theorem mine_sets {base g n cap : Nat} : ∀ (l : List Nat) (o : Nat) (w : World) (m : List Nat), Mine w base g n cap m → o + l.length ≤ n → (∀ c ∈ l, c < 256) → Mine (w.setCells g o (vals l)) base g n cap (ov m o l)
  | [], _, _, _, h, _, _ => h
  | c :: r, o, w, m, h, ho, hl => by
    have ho' : o + (r.length + 1) ≤ n := ho
    exact mine_sets r (o + 1) _ _ (h.set o c (by omega) (hl c (List.mem_cons_self ..))) (by omega) (fun x hx => hl x (List.mem_cons_of_mem _ hx))
theorem below_sets {B g : Nat} {a : World} (hg : B ≤ g) : ∀ (l : List Nat) (o : Nat) (w : World), Below B a w → Below B a (w.setCells g o (vals l))
  | [], _, _, h => h
  | c :: r, o, w, h => below_sets hg r (o + 1) _ (h.setCell (p := ⟨g, o, none⟩) hg _)
theorem ov_rep : ∀ (l p : List Nat), ov (p ++ List.replicate (l.length + 9) 0) p.length l = p ++ l ++ List.replicate 9 0
  | [], p => by simp [ov]
  | c :: r, p => by
    have e : (p ++ List.replicate ((c :: r).length + 9) 0).set p.length c = (p ++ [c]) ++ List.replicate (r.length + 9) 0 := by
      have e9 : (c :: r).length + 9 = (r.length + 9) + 1 := by rw [List.length_cons]
      rw [e9, List.replicate_succ]
      simp
    have h := ov_rep r (p ++ [c])
    show ov ((p ++ List.replicate ((c :: r).length + 9) 0).set p.length c) (p.length + 1) r = _
    rw [e]
    rw [show p.length + 1 = (p ++ [c]).length by simp, h]
    simp
theorem mine_new (w : World) (n : Nat) (hn : n ≤ 4000) : Mine (w.alloc (.cells (madeCells #[.int .u8 0] n) 5)) w.heap.size w.heap.size n n (List.replicate n 0) := by
  refine ⟨Nat.le_refl _, Nat.le_refl _, by unfold maxLen; omega, List.length_replicate, fun c hc => by rw [List.eq_of_mem_replicate hc]; decide, madeCells #[.int .u8 0] n, ?_, ?_, fun i hi => ?_⟩
  · show (w.heap.push _)[w.heap.size]? = _
    rw [Array.getElem?_push, if_pos rfl]
  · simp [madeCells]
  · simp [madeCells, hi, Nat.mod_one, List.getD]
theorem bytes_own {w : World} {base n : Nat} {v : Value} {l : List Nat} (h : w.ownsRow base 5 1 v n (vals l)) (hl : ∀ c ∈ l, c < 256) (hm : n ≤ maxLen) :
    ∃ a cap, v = .slice a n cap ∧ ByteRow w a n l ∧ n ≤ cap ∧ (∀ x, a = some x → base ≤ x.block ∧ x.block < w.heap.size) := by
  have hlt := h.lt
  obtain ⟨h1, h2⟩ := h
  rw [vals_length, Nat.mul_one] at h1
  rcases h2 with ⟨rfl, rfl⟩ | ⟨g, cap, cur, rfl, hb, hh, hn, hmx, hs, ht⟩
  · obtain rfl : l = [] := List.eq_nil_of_length_eq_zero h1
    exact ⟨none, 0, rfl, ByteRow.nil w none, Nat.le_refl _, (fun x h => by cases h)⟩
  · refine ⟨some ⟨g, 0, none⟩, cap, rfl, ⟨h1, hm, hl, fun _ => ⟨g, 0, rfl, fun i hi => ?_⟩⟩, hn, fun x hx => ?_⟩
    · have e2 := vals_get l i (by omega)
      rw [← ht, List.getElem?_take, if_pos (by omega)] at e2
      rw [Nat.zero_add]
      simp only [World.cell?, hh]
      simpa using e2
    · cases hx
      exact hlt g rfl
theorem ownsRow_belowM {w w' : World} {base : Nat} {e : TypeId} {size : Nat} {v : Value} {n : Nat} {xs : List Value} (h : w.ownsRow base e size v n xs) (hb : Below w.heap.size w w') : w'.ownsRow base e size v n xs := by
  have hl := h.lt
  obtain ⟨h1, h2⟩ := h
  refine ⟨h1, ?_⟩
  rcases h2 with h2 | ⟨g, cap, cur, rfl, hbs, hh, r⟩
  · exact .inl h2
  · exact .inr ⟨g, cap, cur, rfl, hbs, by rw [hb.block g (hl g rfl).2]; exact hh, r⟩
theorem row_block {w : World} {a : Option Addr} {n : Nat} {l : List Nat} (h : ByteRow w a n l) : 0 < n → ∀ x, a = some x → x.block < w.heap.size := fun h0 x hx => by
  obtain ⟨b, o, rfl, hc⟩ := h.2.2.2 h0
  cases hx
  exact cell_lt (a := ⟨b, o + 0, none⟩) (hc 0 h0)
theorem ByteRow.belowB {w w' : World} {a : Option Addr} {n B : Nat} {l : List Nat} (h : ByteRow w a n l) (hb : Below B w w') (hx : 0 < n → ∀ x, a = some x → x.block < B) : ByteRow w' a n l := by
  refine ⟨h.1, h.2.1, h.2.2.1, fun h0 => ?_⟩
  obtain ⟨b, o, rfl, hc⟩ := h.2.2.2 h0
  exact ⟨b, o, rfl, fun i hi => (hb.cell (p := ⟨b, o + i, none⟩) (hx h0 ⟨b, o, none⟩ rfl)).trans (hc i hi)⟩
theorem zero_tail (l : List Nat) (N k : Nat) (hl : l.length = N) (h1 : N ≤ k) (h2 : k < N + 9) : (l ++ List.replicate 9 0).getD k 0 = 0 := by
  rw [List.getD_eq_getElem?_getD, List.getElem?_append_right (by omega), List.getElem?_replicate]
  split <;> rfl
theorem Mine.short {w : World} {base g n cap : Nat} {l m : List Nat} (h : Mine w base g n cap (l ++ m)) (k : Nat) (hk : l.length = k) : Mine w base g k cap l := by
  obtain ⟨h0, h1, h2, h3, h4, cur, hh, h5, h6⟩ := h
  rw [List.length_append] at h3
  refine ⟨h0, by omega, h2, hk, fun c hc => h4 c (List.mem_append_left _ hc), cur, hh, h5, fun i hi => ?_⟩
  rw [h6 i (by omega)]
  simp [List.getD, List.getElem?_append_left (show i < l.length by omega)]

theorem open_short (g n cap : Nat) (w : World) (hn : n < 4) :
    Calls Tryd.prog 15 #[.slice (some ⟨g, 0, none⟩) n cap] w fun e w' => e = .returned (.tuple #[.slice none 0 0, .bool false]) ∧ w = w' := by
  have h4 : (n : Int) < 4 := by omega
  go_enter Tryd.func15, Tryd.ntmps15
  go_wp2_with fail
  go_ret2
  exact ⟨rfl, rfl⟩
theorem open_any (base g n cap : Nat) (l : List Nat) (w : World) (hM : Mine w base g n cap l) (hn : n ≤ 3000) (ht : Tab w) :
    Calls Tryd.prog 15 #[.slice (some ⟨g, 0, none⟩) n cap] w fun e w' => ∃ (A : Option Addr) (c : Nat), e = .returned (.tuple #[.slice A (openS l).1.length c, .bool (openS l).2]) ∧ ByteRow w' A (openS l).1.length (openS l).1 ∧ Below w.heap.size w w' := by
  have hl : l.length = n := hM.2.2.2.1
  by_cases h4 : n < 4
  · have e : openS l = ([], false) := if_neg (fun hh => by omega)
    rw [e]
    refine (open_short g n cap w h4).mono ?_
    rintro e w' ⟨rfl, rfl⟩
    exact ⟨none, 0, rfl, ByteRow.nil _ _, Below.refl _ _⟩
  · obtain ⟨N, rfl⟩ : ∃ N, n = N + 4 := ⟨n - 4, by omega⟩
    have hN : l.length - 4 = N := by omega
    by_cases g : stored l N = sum (l.take N)
    · have hc : 4 ≤ l.length ∧ stored l (l.length - 4) = sum (l.take (l.length - 4)) := by rw [hN]; exact ⟨by omega, g⟩
      have e : openS l = (l.take N, true) := by unfold openS; rw [if_pos hc, hN]
      rw [e]
      refine (open_yes base _ N cap l w hM (by omega) ht (by rw [g]; simp)).mono ?_
      rintro e w' ⟨v, rfl, hown, hb⟩
      obtain ⟨A, c, rfl, hr, _, _⟩ := bytes_own hown (fun c hc => hM.2.2.2.2.1 c (List.mem_of_mem_take hc)) (by unfold maxLen; omega)
      have hlen : (l.take N).length = N := by rw [List.length_take]; omega
      refine ⟨A, c, by rw [hlen], ?_, hb⟩
      dsimp only
      rw [hlen]
      exact hr
    · have hc : ¬ (4 ≤ l.length ∧ stored l (l.length - 4) = sum (l.take (l.length - 4))) := by rw [hN]; exact fun hh => g hh.2
      have e : openS l = ([], false) := if_neg hc
      rw [e]
      refine (open_no base _ N cap l w hM (by omega) ht (by simp; omega)).mono ?_
      rintro e w' ⟨rfl, hb⟩
      exact ⟨none, 0, rfl, ByteRow.nil _ _, hb⟩
theorem openS_lt {l : List Nat} (h : ∀ c ∈ l, c < 256) : ∀ c ∈ (openS l).1, c < 256 := by
  unfold openS
  split
  · exact fun c hc => h c (List.mem_of_mem_take hc)
  · intro c hc; cases hc

set_option maxRecDepth 100000 in
set_option maxHeartbeats 2000000 in
theorem opens_walk (a : Option Addr) (len cap N : Nat) (l : List Nat) (w : World) (hN : N = min len 3000) (hr : ByteRow w a N l) (hc : len ≤ cap) (hm : cap ≤ maxLen) (ht : Tab w) (ha : a = none → len = 0 ∧ cap = 0) :
    Calls Tryd.prog 4 #[.slice a len cap] w fun e w' => e = .returned (.bool true) ∧ Below w.heap.size w w' := by
  obtain ⟨i0, hi, hz0, hz1, hz2⟩ := info_parts info5
  have hN3 : N ≤ 3000 := by omega
  have hNc : N ≤ cap := by omega
  have HBY := Lib.hid (fun W => bytes_any a len cap W hc hm)
  rw [← hN] at HBY
  have HR := Lib.hid hr
  have HT := Lib.hid ht
  have HA := Lib.hid ha
  have HLEN : Hid (l.length = N) := Lib.hid hr.1
  have HMIN := Lib.hid hN
  have HLT : Hid (∀ c ∈ l, c < 256) := Lib.hid hr.2.2.1
  clear hr ht ha hN hc hm
  have hmk : ∀ u : World, (Instr.makeSlice 22 (.int .i64 0) (.int .i64 ((N : Int) + 9))).run Tryd.prog u =
      .ok (.slice (some ⟨u.heap.size, 0, none⟩) 0 (N + 9)) (u.alloc (.cells (madeCells #[.int .u8 0] (N + 9)) 5)) := fun u => by
    have h := run_make (P := Tryd.prog) u 22 5 i0 (.int .u8 0) Tryd.underlying22 hi hz0 .i64 .i64 0 ((N : Int) + 9) (by omega) (by omega) (by rw [hz2]; omega) (by omega)
    have e : ((N : Int) + 9).toNat = N + 9 := by omega
    rw [e] at h
    simpa [hz1, Value.cells] using h
  have hmk1 := hmk w
  have HM0 := Lib.hid (mine_new w (N + 9) (by omega))
  have HB0 := Lib.hid ((Below.refl w.heap.size w).alloc (Nat.le_refl _) (.cells (madeCells #[.int .u8 0] (N + 9)) 5))
  have HOWN := Lib.hid (owns_made w w.heap.size w.heap.size (N + 9) (by unfold maxLen; omega) (Nat.le_refl _) rfl)
  clear hmk
  generalize hW : (w.alloc (.cells (madeCells #[.int .u8 0] (N + 9)) 5)) = w1 at *
  clear hW
  have HOV : Hid (ov (List.replicate (N + 9) 0) 0 l = l ++ List.replicate 9 0) := Lib.hid (by
    have h := ov_rep l []
    rw [HLEN.out] at h
    simpa using h)
  go_enter Tryd.func4, Tryd.ntmps4
  go_upto_region 2 with (go_at_call 9; refine (HBY.out w).mono ?_; rintro e w' ⟨rfl, rfl⟩)
  go_cut [3] (fun v wx => v = .slice (some ⟨w.heap.size, 0, none⟩) N (N + 9) ∧ Hid (Mine wx w.heap.size w.heap.size (N + 9) (N + 9) (l ++ List.replicate 9 0)) ∧ Below w.heap.size w wx)
  case first =>
    cases a with
    | none =>
      obtain ⟨h0, hcap0⟩ := HA.out rfl
      have hN0 := HMIN.out
      rw [h0] at hN0
      obtain rfl : N = 0 := by omega
      clear hN0 h0
      subst hcap0
      obtain rfl : l = [] := List.eq_nil_of_length_eq_zero HLEN.out
      have hmk2 : (Instr.makeSlice 22 (.int .i64 0) (.int .i64 9)).run Tryd.prog w = .ok (.slice (some ⟨w.heap.size, 0, none⟩) 0 9) w1 := hmk1
      clear hmk1
      go_wp2_with (at_builtin; refine wpList_append_own_none rfl (.tmp 19) (.tmp 20) 22 rfl w.heap.size 5 i0 1 Tryd.underlying22 hi (.slice (some ⟨w.heap.size, 0, none⟩) 0 9) 0 (vals []) rfl HOWN.out rfl ?_)
      go_meet
      exact ⟨rfl, Lib.hid HM0.out, HB0.out⟩
    | some x =>
      have HSRC := Lib.hid (Src.of HR.out)
      have HM1 := Lib.hid (mine_sets l 0 _ _ HM0.out (by rw [HLEN.out]; omega) HLT.out)
      rw [HOV.out] at HM1
      have HB1 := Lib.hid (below_sets (Nat.le_refl w.heap.size) l 0 _ HB0.out)
      go_wp2_with (at_builtin; refine wpList_append_arg _ rfl (.tmp 19) (.tmp 20) 22 rfl 5 i0 (.int .u8 0) 1 1 Tryd.underlying22 hi hz0 hz1 hz2 rfl (by decide) w.heap.size 0 0 (N + 9) [] rfl rfl ?c1 x N cap (vals l) rfl ?c2 ?c3 ?c4 ?c5 ?c6 ?c7 (fun _ => ?_) (fun h => absurd h (by omega)))
      case c1 => intro j u hj; cases hj
      case c2 => rw [vals_length, HLEN.out]; omega
      case c3 => exact HSRC.out _ HB0.out
      case c4 => exact vals_one l
      case c5 => 
        intro _ j hj
        rw [vals_length, HLEN.out] at hj
        have hcl := HM0.out.cell j (by omega)
        refine ⟨?_, ?_⟩
        · rw [show 0 + 0 * 1 + j = j by omega, hcl]; rfl
        · rw [show 0 + 0 * 1 + j = j by omega]; exact HM0.out.frozen j
      case c6 => unfold maxLen; omega
      case c7 => omega
      go_meet
      exact ⟨rfl, HM1, HB1.out⟩
  case rest =>
    obtain ⟨rfl, HIN, hb⟩ := hcut
    have HB := Lib.hid hb
    have HTI := Lib.hid (HT.out.below HB.out)
    have HRI := Lib.hid (HR.out.below HB.out)
    clear hb HM0 HB0 hmk1 HOV HOWN HBY HMIN
    obtain ⟨I, hI⟩ : ∃ I, I = w.heap.size := ⟨_, rfl⟩
    have HMI : Hid (Mine wc w.heap.size I N (N + 9) l) := Lib.hid (by rw [hI]; exact HIN.out.short N HLEN.out)
    have HMF : Hid (Mine wc w.heap.size I (N + 9) (N + 9) (l ++ List.replicate 9 0)) := Lib.hid (by rw [hI]; exact HIN.out)
    rw [← hI]
    clear HIN hI
    have HCL := Lib.hid (close_some ⟨I, 0, none⟩ N (N + 9) l wc HMI.out.row hN3 HTI.out)
    go_wp2_with fail
    refine HCL.out.mono ?_
    rintro e w4 ⟨g, cap2, rfl, hmc, hb⟩
    have HMC := Lib.hid hmc
    have HB4 := Lib.hid hb
    have HW4 := Lib.hid (HB.out.trans (hb.mono HB.out.size))
    have hg4 : g < w4.heap.size := hmc.lt
    have HMI4 := Lib.hid (HMI.out.below hb)
    have hI4 : I < w4.heap.size := HMI4.out.lt
    have HMF4 := Lib.hid (HMF.out.below hb)
    have HT4 := Lib.hid (HTI.out.below hb)
    have HR4 := Lib.hid (HRI.out.below hb)
    have HA4 := Lib.hid (row_block HR4.out)
    clear hmc hb HCL HMI HMF HTI HRI HT HR
    have HSUM : Hid (sum l < 4294967296) := Lib.hid (more_lt _ _ (by decide) HLT.out)
    have HOC := Lib.hid (open_yes wc.heap.size g N cap2 (l ++ four (sum l)) w4 HMC.out hN3 HT4.out (by
      have h1 := stored_four l (sum l)
      rw [HLEN.out] at h1
      have h2 : (l ++ four (sum l)).take N = l := by rw [← HLEN.out, List.take_left]
      rw [h1, h2]
      simp))
    have HTK : Hid ((l ++ four (sum l)).take N = l) := Lib.hid (by rw [← HLEN.out, List.take_left])
    rw [HTK.out] at HOC
    clear HTK
    go_wp2_with fail
    refine HOC.out.mono ?_
    rintro e w5 ⟨v5, rfl, hown, hb⟩
    have HOW := Lib.hid hown
    have HW5 := Lib.hid (HW4.out.trans (hb.mono HW4.out.size))
    have HV5 := Lib.hid hb
    have HMC5 := Lib.hid (HMC.out.below hb)
    have HMI5 := Lib.hid (HMI4.out.below hb)
    have HMF5 := Lib.hid (HMF4.out.below hb)
    have HT5 := Lib.hid (HT4.out.below hb)
    have HR5 := Lib.hid (HR4.out.below hb)
    obtain ⟨A5, c5, rfl, hr5, hnc5, hx5⟩ := bytes_own hown HLT.out (by unfold maxLen; omega)
    have HRO := Lib.hid hr5
    clear hown hb hr5 hnc5 hx5 HOC HMC HMI4 HMF4 HT4 HR4
    go_wp2_with fail
    refine (open_any w.heap.size I N (N + 9) l w5 HMI5.out hN3 HT5.out).mono ?_
    rintro e w6 ⟨A6, c6, rfl, hr6, hb⟩
    have HRX := Lib.hid hr6
    have HW6 := Lib.hid (HW5.out.trans (hb.mono HW5.out.size))
    have HV6 := Lib.hid (HV5.out.trans (hb.mono HV5.out.size))
    have HMC6 := Lib.hid (HMC5.out.below hb)
    have HMI6 := Lib.hid (HMI5.out.below hb)
    have HMF6 := Lib.hid (HMF5.out.below hb)
    have HT6 := Lib.hid (HT5.out.below hb)
    have HR6 := Lib.hid (HR5.out.below hb)
    have HRO6 := Lib.hid (HRO.out.below hb)
    have HOW6 := Lib.hid (ownsRow_belowM HOW.out hb)
    clear hr6 hb HMC5 HMI5 HMF5 HT5 HR5 HRO HOW
    have hcb6 := conv_tx cap HR6.out
    have HRF := Lib.hid (refOpen_any l (by rw [HLEN.out]; exact hN3) HLT.out)
    go_wp2_with fail
    refine (HRF.out w6).mono ?_
    rintro e w7 ⟨rfl, hb⟩
    have HW7 := Lib.hid (HW6.out.trans (hb.mono HW6.out.size))
    have HV7 := Lib.hid (HV6.out.trans (hb.mono HV6.out.size))
    have HMC7 := Lib.hid (HMC6.out.below hb)
    have HMI7 := Lib.hid (HMI6.out.below hb)
    have HMF7 := Lib.hid (HMF6.out.below hb)
    have HT7 := Lib.hid (HT6.out.below hb)
    have HR7 := Lib.hid (HR6.out.below hb)
    have HRO7 := Lib.hid (HRO6.out.below hb)
    have HRX7 := Lib.hid (HRX.out.below hb)
    have HOW7 := Lib.hid (ownsRow_belowM HOW6.out hb)
    clear hb hcb6 HRF HMC6 HMI6 HMF6 HT6 HR6 HRO6 HRX HOW6
    have HCV : Hid (∀ W, Below w7.heap.size w7 W → (convert 22 9 (.slice (some ⟨g, 0, none⟩) (N + 4) cap2)).run Tryd.prog W = .ok (.string (tx (l ++ four (sum l)))) W ∧ (convert 22 9 (.slice a N cap)).run Tryd.prog W = .ok (.string (tx l)) W ∧ (convert 22 9 (.slice A5 N c5)).run Tryd.prog W = .ok (.string (tx l)) W ∧ (convert 22 9 (.slice A6 (openS l).1.length c6)).run Tryd.prog W = .ok (.string (tx (openS l).1)) W) :=
      Lib.hid (fun W hW => ⟨conv_tx _ (HMC7.out.below hW).row, conv_tx _ (HR7.out.below hW), conv_tx _ (HRO7.out.below hW), conv_tx _ (HRX7.out.below hW)⟩)
    have HS7 : Hid (∀ W, Below w7.heap.size w7 W → Calls Tryd.prog 11 #[] W fun e w' => e = .returned (.bool true) ∧ Below W.heap.size W w') := Lib.hid (fun W b => sums_any W (HT7.out.below b))
    have HRS : Hid (∀ W, Calls Tryd.prog 10 #[.string (tx l)] W fun e w' => e = .returned (.int .u32 ((sum l : Nat) : Int)) ∧ W = w') := Lib.hid (fun W => by
      have h := refSum_any (tx l) W (by rw [tx_size, HLEN.out]; unfold maxLen; omega)
      rw [nums_tx l HLT.out] at h
      exact h)
    have HFO : Hid (∀ W, Calls Tryd.prog 17 #[.int .u32 ((sum l : Nat) : Int)] W fun e w' => e = .returned (.string (tx (four (sum l)))) ∧ Below W.heap.size W w') := Lib.hid (fun W => fourRef_any _ HSUM.out W)
    have hcat := tx_append l (four (sum l))
    have hsz1 : (tx l).size ≤ 3000 := by rw [tx_size, HLEN.out]; exact hN3
    have hsz2 : (tx (four (sum l))).size = 4 := by rw [tx_size]; rfl
    have hlim : ¬ (9223372036854775807 < (tx l).size + 4) := by omega
    have HCM : Hid (Mine w7 wc.heap.size g (N + 4) cap2 (l ++ four (sum l))) := HMC7
    clear HMC7
    generalize tx (l ++ four (sum l)) = C at *
    generalize tx (four (sum l)) = F at *
    generalize hB : tx l = B at *
    generalize sum l = S at *
    generalize tx (openS l).1 = Y at *
    generalize (openS l).1.length = ly at *
    generalize (openS l).2 = kb at *
    go_upto_region 7 with fail
    go_cut [75] (fun v wx => v = .bool false ∧ Below w7.heap.size w7 wx)
    case first =>
      refine wp_region_inv_lit [.is (.bool true), .is (.bool false), .is (.bool false), .is (.slice (some ⟨g, 0, none⟩) (N + 4) cap2), .is (.string C), .is (.slice a N cap), .is (.string B), .is (.slice a N cap), .is (.string B), .is (.int .u32 S), .is (.string F), .is (.string C), .is (.bool false), .is (.bool false), .is (.bool false),
        .is (.bool true), .is (.bool false), .is (.bool false), .is (.bool false), .is (.slice A5 N c5), .is (.string B), .is (.slice a N cap), .is (.string B), .is (.bool false), .is (.bool false), .is (.bool false),
        .is (.slice A6 ly c6), .is (.string Y), .is (.string Y), .is (.bool false), .is (.bool false), .is (.bool false), .is (.bool kb), .is (.bool kb), .is (.bool false), .is (.bool false)] (by kernel_rfl) (by kernel_rfl) ?_
      refine wpInv_is ?_ ?_
      · intro W hW hF K hK
        clear hF
        go_simp
        refine (HS7.out W hW.undrew).mono ?_
        rintro e w1 ⟨rfl, hb⟩
        exact ⟨_, rfl, hK _ _ hb rfl⟩
      simp only [Act.put, List.setIfInBounds_toArray, List.set_cons_zero, List.set_cons_succ]
      repeat1' (refine wpInv_is ?_ ?_; (focus (intro W hW hF K hK; clear hF; obtain ⟨c1, c2, c3, c4⟩ := HCV.out W hW.undrew; go_simp; exact hK _ _ (Gl.refl _) rfl)); simp only [Act.put, List.setIfInBounds_toArray, List.set_cons_zero, List.set_cons_succ])
      refine wpInv_is ?_ ?_
      · intro W hW hF K hK
        clear hF
        go_simp
        refine (HRS.out W).mono ?_
        rintro e w1 ⟨rfl, rfl⟩
        exact ⟨_, rfl, hK _ _ (Gl.refl _) rfl⟩
      simp only [Act.put, List.setIfInBounds_toArray, List.set_cons_zero, List.set_cons_succ]
      refine wpInv_is ?_ ?_
      · intro W hW hF K hK
        clear hF
        go_simp
        refine (HFO.out W).mono ?_
        rintro e w1 ⟨rfl, hb⟩
        exact ⟨_, rfl, hK _ _ hb rfl⟩
      simp only [Act.put, List.setIfInBounds_toArray, List.set_cons_zero, List.set_cons_succ]
      repeat1' (refine wpInv_is ?_ ?_; (focus (intro W hW hF K hK; clear hF; obtain ⟨c1, c2, c3, c4⟩ := HCV.out W hW.undrew; go_simp; exact hK _ _ (Gl.refl _) rfl)); simp only [Act.put, List.setIfInBounds_toArray, List.set_cons_zero, List.set_cons_succ])
      refine wpInv_end ?_
      intro W hW hF
      clear hF
      have HWW := Lib.hid hW.undrew
      clear hW
      go_wp2_with fail
      go_meet
      exact ⟨rfl, HWW.out⟩
    case rest =>
      obtain ⟨rfl, hb8⟩ := hcut
      have HW8 := Lib.hid (HW7.out.trans (hb8.mono HW7.out.size))
      have HV8 : Hid (w4.heap.size ≤ wc.heap.size) := Lib.hid (Nat.le_trans HV7.out.size hb8.size)
      have HMF8 := Lib.hid (HMF7.out.below hb8)
      have HCM8 := Lib.hid ((HCM.out.below hb8).short N HLEN.out)
      have HMI8 := Lib.hid (HMI7.out.below hb8)
      have HR8 := Lib.hid (HR7.out.below hb8)
      have HOW8 := Lib.hid (ownsRow_belowM HOW7.out hb8)
      have HC2 : Hid (N ≤ cap2) := Lib.hid (Nat.le_trans (Nat.le_add_right N 4) HCM.out.2.1)
      clear hb8 HMF7 HCM HMI7 HR7 HOW7 HCV HS7 HRS HFO HRO7 HRX7 HT7 HW7 HV7
      have s9 : ∀ W, (Instr.slice 22 (.slice (some ⟨I, 0, none⟩) N (N + 9)) none (some (.int .i64 ((N : Int) + 9))) none).run Tryd.prog W = .ok (.slice (some ⟨I, 0, none⟩) (N + 9) (N + 9)) W := fun W => by
        have h := slice_to (some ⟨I, 0, none⟩) N (N + 9) (N + 9) (Nat.le_refl _) W
        rw [show ((N + 9 : Nat) : Int) = (N : Int) + 9 by omega] at h
        exact h
      go_wp2_with fail
      go_loop [12] (fun i => ∃ k : Nat, N ≤ k ∧ k ≤ N + 9 ∧ i = .int .i64 k) (fun i => N + 9 - (intOf i).toNat)
      case atStart => exact ⟨N, Nat.le_refl _, by omega, rfl⟩
      case round =>
        obtain ⟨k, hk1, hk2, rfl⟩ := hrel
        by_cases hlt : k < N + 9
        · have hcell := HMF8.out.cell k hlt
          rw [zero_tail l N k HLEN.out hk1 hlt] at hcell
          have hcell0 : wc.cell? ⟨I, k, none⟩ = some (.int .u8 0) := hcell
          have hk0 : (0 : Int) ≤ (k : Int) := by omega
          have hkn : (k : Int) < (N : Int) + 9 := by omega
          clear hcell
          go_wp2_with fail
          go_round
          case rel => exact ⟨k + 1, by omega, by omega, by go_num⟩
          case measure => simp [intOf]; omega
        · have hkn : ¬ ((k : Int) < (N : Int) + 9) := by omega
          have HMO : Hid (0 < N → ∃ go lo, A5 = some ⟨go, 0, none⟩ ∧ Mine wc w4.heap.size go N c5 lo) := Lib.hid (fun h0 => by
            obtain ⟨go, co, e, hm⟩ := Mine.of HOW8.out (fun e => by injection e with _ e _; omega) HLT.out
            injection e with e1 _ e3
            subst e3
            exact ⟨go, l, e1, hm⟩)
          clear HOW8 HMF8
          go_wp2_with fail
          go_loopw [13] (fun i wr => ∃ j : Nat, i = .int .i64 j ∧ j ≤ N ∧ Hid (0 < N → ∃ go lo, A5 = some ⟨go, 0, none⟩ ∧ Mine wr w4.heap.size go N c5 lo) ∧ Below w4.heap.size wc wr) (fun i _ => N - (intOf i).toNat)
          case atStart => exact ⟨0, rfl, Nat.zero_le _, HMO, Below.refl _ _⟩
          case round =>
            clear HMO
            obtain ⟨j, rfl, hj, HMO, hb⟩ := hrel
            have HB9 := Lib.hid hb
            clear hb
            by_cases hlt2 : j < N
            · obtain ⟨go, lo, rfl, hm⟩ := HMO.out (by omega)
              have hcell := hm.cell j hlt2
              have hfr := hm.frozen j
              have HMS := Lib.hid (hm.set j 119 hlt2 (by decide))
              have hgo : w4.heap.size ≤ go := hm.1
              have HGO := Lib.hid hgo
              have hj0 : (0 : Int) ≤ (j : Int) := by omega
              have hjn : (j : Int) < (N : Int) := by omega
              clear hm hgo
              go_wp2_with fail
              go_roundw
              case rel => exact ⟨j + 1, by go_num, by omega, Lib.hid (fun _ => ⟨go, _, rfl, HMS.out⟩), HB9.out.setCell (p := ⟨go, j, none⟩) HGO.out _⟩
              case measure => simp [intOf]; omega
            · have hjn : ¬ ((j : Int) < (N : Int)) := by omega
              have HCV2 : Hid (∀ W, Below wr.heap.size wr W → (convert 22 9 (.slice (some ⟨g, 0, none⟩) N cap2)).run Tryd.prog W = .ok (.string B) W ∧ (convert 22 9 (.slice a N cap)).run Tryd.prog W = .ok (.string B) W ∧ (convert 22 9 (.slice (some ⟨I, 0, none⟩) N (N + 9))).run Tryd.prog W = .ok (.string B) W) := Lib.hid (fun W hW => by
                rw [← hB]
                exact ⟨conv_tx _ ((HCM8.out.row.belowB HB9.out (fun _ x hx => by cases hx; exact hg4)).below hW), conv_tx _ ((HR8.out.belowB HB9.out HA4.out).below hW), conv_tx _ ((HMI8.out.row.belowB HB9.out (fun _ x hx => by cases hx; exact hI4)).below hW)⟩)
              have s10 := slice_to (some ⟨g, 0, none⟩) (N + 4) cap2 N HC2.out
              have HEND : Hid (Below w.heap.size w wr) := Lib.hid (HW8.out.trans (HB9.out.mono HW4.out.size))
              clear HCM8 HR8 HMI8 HB9 HMO
              go_upto_region 19 with fail
              refine wp_region_inv_lit [.is (.slice (some ⟨g, 0, none⟩) (N + 4) cap2), .is (.slice a N cap), .is (.int .i64 N), .is (.slice (some ⟨g, 0, none⟩) N cap2), .is (.string B), .is (.slice a N cap), .is (.string B), .is (.bool true), .is (.bool true),
                .is (.slice (some ⟨I, 0, none⟩) N (N + 9)), .is (.string B), .is (.slice a N cap), .is (.string B), .is (.bool true), .is (.bool true), .is (.bool true)] (by kernel_rfl) (by kernel_rfl) ?_
              repeat1' (refine wpInv_is ?_ ?_; (focus (intro W hW hF K hK; clear hF; obtain ⟨c1, c2, c3⟩ := HCV2.out W hW.undrew; go_simp; exact hK _ _ (Gl.refl _) rfl)); simp only [Act.put, List.setIfInBounds_toArray, List.set_cons_zero, List.set_cons_succ])
              refine wpInv_end ?_
              intro W hW hF
              clear hF
              have HWW := Lib.hid (Below.step hW.undrew HEND.out)
              clear hW
              go_wp2_with fail
              go_ret
              exact ⟨rfl, HWW.out⟩
theorem crcOpens_law {w : World} (a : Option Addr) (len cap : Nat) (zs : List Int) (w0 : IsRow .u8 w a len cap zs) (ht : Tab w) :
    Calls Tryd.prog 4 #[.slice a len cap] w fun e w' => e = .returned (.bool true) ∧ Below w.heap.size w w' := by
  obtain ⟨l, hr, h1, h2⟩ := row_bytes w0
  refine opens_walk a len cap _ _ w rfl (hr.take (min len 3000) (by omega)) h1 h2 ht (fun e => ?_)
  subst e
  rcases w0 with ⟨_, h3, h4, _⟩ | ⟨x, hx, _⟩
  · exact ⟨h3, h4⟩
  · cases hx
end Go.Proofs.YtkplkfhkablelaaDoor
