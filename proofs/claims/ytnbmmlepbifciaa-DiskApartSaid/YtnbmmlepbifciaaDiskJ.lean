/-
  The law DiskSteps: the walk.
-/
import Derived.Test.YtnbmmlepbifciaaDiskI
namespace Go.Proofs.Ytnbmmlepbifciaa
open Go.ChangeShapes Go.WideShapes Go.ChangeAt Go.RowKit Go.Deep
set_option linter.unusedVariables false

theorem mod_cut (c : Int) (m : Nat) (h : 0 < m) (h7 : m ≤ 7000) : ∃ q : Nat, q < m ∧ wrap64 ((IntKind.u64.wrap c).tmod (m : Int)) = (q : Int) := by
  rw [IntKind.wrap_u64]
  have h1 : 0 ≤ c % 18446744073709551616 := by omega
  generalize c % 18446744073709551616 = x at *
  rw [Int.tmod_eq_emod_of_nonneg h1]
  have h2 : 0 ≤ x % (m : Int) := Int.emod_nonneg _ (by omega)
  have h3 : x % (m : Int) < (m : Int) := Int.emod_lt_of_pos _ (by omega)
  generalize x % (m : Int) = y at *
  refine ⟨y.toNat, by omega, ?_⟩
  unfold wrap64
  omega

/-- how the law's disk stands, behind m changes of n, at round i -/
structure Stand (s : DSt) (n m i : Nat) : Prop where
  good : Good s 4
  armed : s.armed = true
  steps : s.steps = (m : Int)
  waits : s.W.length ≤ i
  le : m ≤ n
  state : (s.off = false ∧ s.left = ((n - m : Nat) : Int)) ∨ (s.off = true ∧ m = n ∧ s.left = 0)
  mi : m ≤ i
theorem Stand.wr {s : DSt} {n m i : Nat} (h : Stand s n m i) (ho : s.off = false) (hm : m < n) (j : Nat) (hj : j < 4) (x : ByteArray) (hx : x.size = 512) : Stand (Go.Proofs.Ytnbmmlepbifciaa.wr s j x) n (m + 1) (i + 1) ∧ chgE s = 0 := by
  have hl : s.left = ((n - m : Nat) : Int) := by
    rcases h.state with ⟨_, e⟩ | ⟨e, _⟩
    · exact e
    · rw [ho] at e; cases e
  have hne : ¬ (s.armed = true ∧ s.left = 0) := fun hh => by have := hh.2; omega
  have e : chg s = { s with left := s.left - 1, steps := s.steps + 1 } := by unfold chg; rw [if_neg hne, if_pos h.armed]
  refine ⟨⟨good_wr h.good j hj x hx, ?_, ?_, ?_, by omega, ?_, by have := h.mi; omega⟩, if_neg hne⟩
  · unfold Go.Proofs.Ytnbmmlepbifciaa.wr; rw [e]; exact h.armed
  · unfold Go.Proofs.Ytnbmmlepbifciaa.wr; rw [e]; dsimp only; rw [h.steps]; omega
  · unfold Go.Proofs.Ytnbmmlepbifciaa.wr; dsimp only; rw [List.length_append]; have := h.waits; simp; omega
  · refine .inl ⟨?_, ?_⟩
    · unfold Go.Proofs.Ytnbmmlepbifciaa.wr; rw [e]; exact ho
    · unfold Go.Proofs.Ytnbmmlepbifciaa.wr; rw [e]; dsimp only; rw [hl]; omega
theorem Stand.barrier {s : DSt} {n m i : Nat} (h : Stand s n m i) (ho : s.off = false) (hm : m < n) : Stand (settleS (fun _ => true) (chg s)) n (m + 1) (i + 1) ∧ chgE s = 0 := by
  have hl : s.left = ((n - m : Nat) : Int) := by
    rcases h.state with ⟨_, e⟩ | ⟨e, _⟩
    · exact e
    · rw [ho] at e; cases e
  have hne : ¬ (s.armed = true ∧ s.left = 0) := fun hh => by have := hh.2; omega
  have e : chg s = { s with left := s.left - 1, steps := s.steps + 1 } := by unfold chg; rw [if_neg hne, if_pos h.armed]
  refine ⟨⟨good_settle (good_chg h.good) _, ?_, ?_, ?_, by omega, ?_, by have := h.mi; omega⟩, if_neg hne⟩
  · rw [e]; exact h.armed
  · rw [e]; show s.steps + 1 = _; rw [h.steps]; omega
  · exact Nat.zero_le _
  · refine .inl ⟨?_, ?_⟩
    · rw [e]; exact ho
    · rw [e]; show s.left - 1 = _; rw [hl]; omega
theorem Stand.down {s : DSt} {n m i : Nat} (h : Stand s n m i) (ho : s.off = false) (hm : ¬ m < n) : Stand (chg s) n m (i + 1) ∧ chgE s = 8 ∧ (chg s).off = true := by
  have hle := h.le
  have hl : s.left = ((n - m : Nat) : Int) := by
    rcases h.state with ⟨_, e⟩ | ⟨e, _⟩
    · exact e
    · rw [ho] at e; cases e
  have h0 : s.left = 0 := by omega
  have e : chg s = { s with off := true } := by unfold chg; rw [if_pos ⟨h.armed, h0⟩]
  refine ⟨⟨good_chg h.good, ?_, ?_, ?_, hle, ?_, by have := h.mi; omega⟩, if_pos ⟨h.armed, h0⟩, by rw [e]⟩
  · rw [e]; exact h.armed
  · rw [e]; exact h.steps
  · rw [e]; have := h.waits; dsimp only; omega
  · rw [e]; exact .inr ⟨rfl, by omega, h0⟩
theorem Stand.offm {s : DSt} {n m i : Nat} (h : Stand s n m i) (ho : s.off = true) : m = n := by
  rcases h.state with ⟨e, _⟩ | ⟨_, e, _⟩
  · rw [ho] at e; cases e
  · exact e
theorem Stand.more {s : DSt} {n m i : Nat} (h : Stand s n m i) : Stand s n m (i + 1) :=
  ⟨h.good, h.armed, h.steps, by have := h.waits; omega, h.le, h.state, by have := h.mi; omega⟩
theorem Stand.bounds {s : DSt} {n m i : Nat} (h : Stand s n m i) (hn : n < 20) (hi : i ≤ 40) : (0 ≤ s.steps ∧ s.steps < 4611686018427387904) ∧ (0 ≤ s.left ∧ s.left < 4611686018427387904) ∧ s.W.length < 1000000 := by
  have h1 := h.steps
  have h2 := h.le
  have h3 := h.waits
  refine ⟨by omega, ?_, by omega⟩
  rcases h.state with ⟨_, e⟩ | ⟨_, _, e⟩ <;> omega

theorem crash_good {s : DSt} {n m i : Nat} (h : Stand s n m i) (hi : i ≤ 40) (pk : Nat → Bool) : (0 ≤ (crashS pk s).steps ∧ (crashS pk s).steps < 4611686018427387904) ∧ (0 ≤ (crashS pk s).left ∧ (crashS pk s).left < 4611686018427387904) ∧ chgE (crashS pk s) = 0 := by
  have h1 := h.steps
  have h2 := h.mi
  have e : (crashS pk s).steps = s.steps := rfl
  have e2 : (crashS pk s).left = 0 := rfl
  exact ⟨by rw [e]; omega, by rw [e2]; decide, if_neg (fun hh => Bool.noConfusion hh.1)⟩
theorem chg_off_keep' {s : DSt} (ho : s.off = false) (hc : chgE s = 0) : (chg s).off = false := by
  unfold chgE at hc
  unfold chg
  split at hc
  · cases hc
  · rename_i h
    rw [if_neg h]
    exact ho
theorem chg_off_keep {s : DSt} (ho : s.off = false) (hc : chgE s = 0) {j : Nat} {x : ByteArray} : (Go.Proofs.Ytnbmmlepbifciaa.wr s j x).off = false := chg_off_keep' ho hc

set_option maxRecDepth 100000 in
set_option maxHeartbeats 8000000 in
theorem steps_walk (c : Int) (a : Option Addr) (n cap : Nat) (zs : Nat → Bool) (w : World) (hz : BoolRow w a n zs) :
    Calls Try.prog 4 #[.int .i64 c, .slice a n cap] w fun e w' => e = .returned (.bool true) ∧ Below w.heap.size w w' := by
  obtain ⟨q, hq, hqe⟩ := mod_cut c 20 (by decide) (by decide)
  have hqe' : wrap64 ((IntKind.u64.wrap c).tmod 20) = (q : Int) := hqe
  have HZ := Lib.hid hz
  clear hz hqe
  go_enter Try.func4, Try.ntmps4
  go_wp2_with fail
  rw [hqe']
  have HQE := Lib.hid hqe'
  clear hqe'
  refine (new_any 4 w (by decide) (by decide)).mono ?_
  rintro e w1 ⟨p, rfl, hd, hb⟩
  have HD := Lib.hid hd
  have HF := Lib.hid (gr_from (F := fun _ => False) (B := w.heap.size) (w := w) (w' := w1) (fun k hk => hk.elim) (Nat.le_refl _))
  have HB := Lib.hid hb
  clear hd hb
  obtain ⟨F, hFF⟩ : ∃ F, F = Gr (fun _ => False) w w1 := ⟨_, rfl⟩
  rw [← hFF] at HD HF
  clear hFF
  go_wp2_with fail
  refine (lasts_any w1).mono ?_
  rintro e w2 ⟨rfl, hb⟩
  have HD2 := Lib.hid (HD.out.below hb)
  have HB2 := Lib.hid (HB.out.trans (hb.mono HB.out.size))
  clear hb HD HB
  go_wp2_with fail
  refine (arm_any w2 F p _ (q : Int) HD2.out (by omega)).mono ?_
  rintro e w3 ⟨rfl, hd, ho⟩
  have HD3 := Lib.hid hd
  have HB3 := Lib.hid (HB2.out.trans (ho.below HB2.out.size HF.out))
  clear hd ho HD2 HB2
  go_wp2_with fail
  go_loopw [7, 8] (fun mv iv wr => ∃ (i m : Nat) (F : Nat → Prop) (s : DSt), iv = .int .i64 i ∧ mv = .int .i64 m ∧ i ≤ 40 ∧ Hid (Stand s q m i) ∧ DiskAt wr F p s ∧ Hid (∀ k, F k → w.heap.size ≤ k) ∧ Below w.heap.size w wr) (fun _ iv _ => 40 - (intOf iv).toNat)
  case atStart => exact ⟨0, 0, F, ⟨List.replicate 4 blank, List.replicate 4 blank, [], true, (q : Int), false, 0⟩, rfl, rfl, by omega, Lib.hid ⟨good_new 4, rfl, rfl, Nat.le_refl _, Nat.zero_le _, .inl ⟨rfl, rfl⟩, Nat.le_refl _⟩, HD3.out, HF, HB3.out⟩
  case round =>
    obtain ⟨i, m, F, s, rfl, rfl, hi, HST, hd, HF4, hb⟩ := hrel
    have HD4 := Lib.hid hd
    have HB4 := Lib.hid hb
    clear hd hb HD3 HB3 HF
    by_cases g1 : i < n
    · by_cases g2 : i < 40
      · obtain ⟨pp, hpp, hcl, hix⟩ := HZ.out.at_ g1
        have hcell := (HB4.out.cell hpp).trans hcl
        have hix1 := hix cap
        clear hix hcl
        generalize zs i = b at *
        have hmi := HST.out.mi
        have hle := HST.out.le
        cases hof : s.off with
        | true =>
          have HOF := Lib.hid hof
          have HMQ : Hid (m = q) := Lib.hid (HST.out.offm hof)
          have hmq : q ≤ m := by have := HMQ.out; omega
          clear hof
          cases b with
          | true =>
            go_wp2_with fail
            refine (full_any i (by omega) wr).mono ?_
            rintro e f5 ⟨g5, rfl, hrow, hg, hb⟩
            have HD5 := Lib.hid (HD4.out.below hb)
            have HR5 := Lib.hid hrow
            have HG5 : Hid (¬ F g5) := Lib.hid (fun h => by have := HD4.out.lts _ h; omega)
            have HB5 := Lib.hid (HB4.out.trans (hb.mono HB4.out.size))
            clear hrow hg hb HD4 HB4
            have hm4 : i % 4 < 4 := Nat.mod_lt _ (by decide)
            have HBD := Lib.hid (HST.out.bounds hq (by omega))
            go_wp2_with fail
            have hmod : ((i : Int) % 4) = ((i % 4 : Nat) : Int) := by omega
            rw [hmod]
            generalize i % 4 = j at *
            clear hmod
            refine (write_off f5 F p s (j : Int) (some ⟨g5, 0, none⟩) 512 512 HD5.out HOF.out).mono ?_
            rintro e w5 ⟨rfl, rfl⟩
            have HS5 := Lib.hid HST.out.more
            
            have hoffc : Hid (∀ W, DiskAt W F p s → Calls Try.prog 14 #[.pointer (some ⟨p, 0, none⟩)] W fun e w' => e = .returned (.bool true) ∧ W = w') := Lib.hid (fun W h => by
              have hh := off_any W F p s h
              rw [HOF.out] at hh
              exact hh)
            have hstc : Hid (∀ W, DiskAt W F p s → Calls Try.prog 15 #[.pointer (some ⟨p, 0, none⟩)] W fun e w' => e = .returned (.int .i64 (m : Int)) ∧ W = w') := Lib.hid (fun W h => by
              have hh := steps_any W F p s h
              rw [HS5.out.steps] at hh
              exact hh)
            have hrd := Lib.hid (read_down f5 F p s 0 HD5.out HOF.out)
            go_wp2_with (first
              | (go_at_call 12; refine hrd.out.mono ?_; rintro e6 w6 ⟨rfl, rfl⟩)
              | (go_at_call 14; refine (hoffc.out _ HD5.out).mono ?_; rintro e7 w7 ⟨rfl, rfl⟩)
              | (go_at_call 15; refine (hstc.out _ HD5.out).mono ?_; rintro e7 w7 ⟨rfl, rfl⟩))
            go_roundw
            case rel => exact ⟨i + 1, m, F, s, by go_num, by go_num, by omega, HS5, HD5.out, HF4, HB5.out⟩
            case measure => simp [intOf]; omega
          | false =>
            go_wp2_with fail
            refine (barrier_off wr F p s HD4.out HOF.out).mono ?_
            rintro e w5 ⟨rfl, rfl⟩
            have HS5 := Lib.hid HST.out.more
            
            have hoffc : Hid (∀ W, DiskAt W F p s → Calls Try.prog 14 #[.pointer (some ⟨p, 0, none⟩)] W fun e w' => e = .returned (.bool true) ∧ W = w') := Lib.hid (fun W h => by
              have hh := off_any W F p s h
              rw [HOF.out] at hh
              exact hh)
            have hstc : Hid (∀ W, DiskAt W F p s → Calls Try.prog 15 #[.pointer (some ⟨p, 0, none⟩)] W fun e w' => e = .returned (.int .i64 (m : Int)) ∧ W = w') := Lib.hid (fun W h => by
              have hh := steps_any W F p s h
              rw [HS5.out.steps] at hh
              exact hh)
            have hrd := Lib.hid (read_down wr F p s 0 HD4.out HOF.out)
            go_wp2_with (first
              | (go_at_call 12; refine hrd.out.mono ?_; rintro e6 w6 ⟨rfl, rfl⟩)
              | (go_at_call 14; refine (hoffc.out _ HD4.out).mono ?_; rintro e7 w7 ⟨rfl, rfl⟩)
              | (go_at_call 15; refine (hstc.out _ HD4.out).mono ?_; rintro e7 w7 ⟨rfl, rfl⟩))
            go_roundw
            case rel => exact ⟨i + 1, m, F, s, by go_num, by go_num, by omega, HS5, HD4.out, HF4, HB4.out⟩
            case measure => simp [intOf]; omega
        | false =>
          by_cases hmq : m < q
          · cases b with
            | true =>
              go_wp2_with fail
              refine (full_any i (by omega) wr).mono ?_
              rintro e f5 ⟨g5, rfl, hrow, hg, hb⟩
              have HD5 := Lib.hid (HD4.out.below hb)
              have HR5 := Lib.hid hrow
              have HG5 : Hid (¬ F g5) := Lib.hid (fun h => by have := HD4.out.lts _ h; omega)
              have HB5 := Lib.hid (HB4.out.trans (hb.mono HB4.out.size))
              clear hrow hg hb HD4 HB4
              have hm4 : i % 4 < 4 := Nat.mod_lt _ (by decide)
              have HBD := Lib.hid (HST.out.bounds hq (by omega))
              go_wp2_with fail
              have hmod : ((i : Int) % 4) = ((i % 4 : Nat) : Int) := by omega
              rw [hmod]
              generalize i % 4 = j at *
              clear hmod
              have HW5 := Lib.hid (HST.out.wr hof hmq j hm4 (bstr (fullL i)) (bstr_full_size i))
              refine (writeF_ok f5 F p s j g5 i HD5.out hof (by rw [HST.out.good.1]; exact hm4) HR5.out HG5.out w.heap.size HF4.out HB5.out.size HBD.out.1 HBD.out.2.1 HBD.out.2.2 HW5.out.2).mono ?_
              rintro e w5 ⟨rfl, F5, hd, hf, hb⟩
              have HD6a := Lib.hid hd
              have HF5 := Lib.hid hf
              have HB6a := Lib.hid (HB5.out.trans hb)
              have HS5 := Lib.hid HW5.out.1
              have HOF : Hid ((Go.Proofs.Ytnbmmlepbifciaa.wr s j (bstr (fullL i))).off = false) := Lib.hid (chg_off_keep hof HW5.out.2)
              clear hd hf hb HD5 HR5 HG5 HB5 HW5
              generalize Go.Proofs.Ytnbmmlepbifciaa.wr s j (bstr (fullL i)) = s5 at *
              
              have hoffc : Hid (∀ W, DiskAt W F5 p s5 → Calls Try.prog 14 #[.pointer (some ⟨p, 0, none⟩)] W fun e w' => e = .returned (.bool false) ∧ W = w') := Lib.hid (fun W h => by
                have hh := off_any W F5 p s5 h
                rw [HOF.out] at hh
                exact hh)
              have hstc : Hid (∀ W, DiskAt W F5 p s5 → Calls Try.prog 15 #[.pointer (some ⟨p, 0, none⟩)] W fun e w' => e = .returned (.int .i64 ((m + 1) : Int)) ∧ W = w') := Lib.hid (fun W h => by
                have hh := steps_any W F5 p s5 h
                rw [HS5.out.steps] at hh
                exact hh)
              have hrd := Lib.hid (read_ok w5 F5 p s5 0 HD6a.out HOF.out (by rw [HS5.out.good.1]; decide) (by rw [good_at HS5.out.good 0 (by decide)]; decide))
              go_wp2_with (first
                | (go_at_call 12; refine hrd.out.mono ?_; rintro e6 w6 ⟨g6, c6, rfl, hrow, hg, hb⟩; have HD6 := Lib.hid (HD6a.out.below hb); have HB6 := Lib.hid (HB6a.out.trans (hb.mono HB6a.out.size)); clear hrow hg hb)
                | (go_at_call 14; refine (hoffc.out _ HD6.out).mono ?_; rintro e7 w7 ⟨rfl, rfl⟩)
                | (go_at_call 15; refine (hstc.out _ HD6.out).mono ?_; rintro e7 w7 ⟨rfl, rfl⟩))
              go_roundw
              case rel => exact ⟨i + 1, (m + 1), F5, s5, by go_num, by go_num, by omega, HS5, HD6.out, HF5, HB6.out⟩
              case measure => simp [intOf]; omega
            | false =>
              go_wp2_with fail
              have HBD := Lib.hid (HST.out.bounds hq (by omega))
              have HW5 := Lib.hid (HST.out.barrier hof hmq)
              refine (barrier_ok wr F p s HD4.out hof HBD.out.1 HBD.out.2.1 HW5.out.2).mono ?_
              rintro e w5 ⟨rfl, hd, ho⟩
              have HD6a := Lib.hid hd
              have HB6a := Lib.hid (HB4.out.trans (ho.below HB4.out.size HF4.out))
              have HS5 := Lib.hid HW5.out.1
              have HOF : Hid ((settleS (fun _ => true) (chg s)).off = false) := Lib.hid (by show (chg s).off = false; exact chg_off_keep' hof HW5.out.2)
              clear hd ho HD4 HB4 HW5
              generalize settleS (fun _ => true) (chg s) = s5 at *
              
              have hoffc : Hid (∀ W, DiskAt W F p s5 → Calls Try.prog 14 #[.pointer (some ⟨p, 0, none⟩)] W fun e w' => e = .returned (.bool false) ∧ W = w') := Lib.hid (fun W h => by
                have hh := off_any W F p s5 h
                rw [HOF.out] at hh
                exact hh)
              have hstc : Hid (∀ W, DiskAt W F p s5 → Calls Try.prog 15 #[.pointer (some ⟨p, 0, none⟩)] W fun e w' => e = .returned (.int .i64 ((m + 1) : Int)) ∧ W = w') := Lib.hid (fun W h => by
                have hh := steps_any W F p s5 h
                rw [HS5.out.steps] at hh
                exact hh)
              have hrd := Lib.hid (read_ok w5 F p s5 0 HD6a.out HOF.out (by rw [HS5.out.good.1]; decide) (by rw [good_at HS5.out.good 0 (by decide)]; decide))
              go_wp2_with (first
                | (go_at_call 12; refine hrd.out.mono ?_; rintro e6 w6 ⟨g6, c6, rfl, hrow, hg, hb⟩; have HD6 := Lib.hid (HD6a.out.below hb); have HB6 := Lib.hid (HB6a.out.trans (hb.mono HB6a.out.size)); clear hrow hg hb)
                | (go_at_call 14; refine (hoffc.out _ HD6.out).mono ?_; rintro e7 w7 ⟨rfl, rfl⟩)
                | (go_at_call 15; refine (hstc.out _ HD6.out).mono ?_; rintro e7 w7 ⟨rfl, rfl⟩))
              go_roundw
              case rel => exact ⟨i + 1, (m + 1), F, s5, by go_num, by go_num, by omega, HS5, HD6.out, HF4, HB6.out⟩
              case measure => simp [intOf]; omega
          · have hmq' : q ≤ m := by omega
            cases b with
            | true =>
              go_wp2_with fail
              refine (full_any i (by omega) wr).mono ?_
              rintro e f5 ⟨g5, rfl, hrow, hg, hb⟩
              have HD5 := Lib.hid (HD4.out.below hb)
              have HR5 := Lib.hid hrow
              have HG5 : Hid (¬ F g5) := Lib.hid (fun h => by have := HD4.out.lts _ h; omega)
              have HB5 := Lib.hid (HB4.out.trans (hb.mono HB4.out.size))
              clear hrow hg hb HD4 HB4
              have hm4 : i % 4 < 4 := Nat.mod_lt _ (by decide)
              have HBD := Lib.hid (HST.out.bounds hq (by omega))
              go_wp2_with fail
              have hmod : ((i : Int) % 4) = ((i % 4 : Nat) : Int) := by omega
              rw [hmod]
              generalize i % 4 = j at *
              clear hmod
              have HW5 := Lib.hid (HST.out.down hof hmq)
              refine (write_down f5 F p s j (some ⟨g5, 0, none⟩) 512 HD5.out hof (by rw [HST.out.good.1]; exact hm4) HBD.out.1 HBD.out.2.1 HW5.out.2.1).mono ?_
              rintro e w5 ⟨rfl, hd, ho⟩
              have HD6a := Lib.hid hd
              have HB6a := Lib.hid (HB5.out.trans (ho.below HB5.out.size HF4.out))
              have HS5 := Lib.hid HW5.out.1
              have HOF := Lib.hid HW5.out.2.2
              clear hd ho HD5 HR5 HG5 HB5 HW5
              generalize chg s = s5 at *
              
              have hoffc : Hid (∀ W, DiskAt W F p s5 → Calls Try.prog 14 #[.pointer (some ⟨p, 0, none⟩)] W fun e w' => e = .returned (.bool true) ∧ W = w') := Lib.hid (fun W h => by
                have hh := off_any W F p s5 h
                rw [HOF.out] at hh
                exact hh)
              have hstc : Hid (∀ W, DiskAt W F p s5 → Calls Try.prog 15 #[.pointer (some ⟨p, 0, none⟩)] W fun e w' => e = .returned (.int .i64 (m : Int)) ∧ W = w') := Lib.hid (fun W h => by
                have hh := steps_any W F p s5 h
                rw [HS5.out.steps] at hh
                exact hh)
              have hrd := Lib.hid (read_down w5 F p s5 0 HD6a.out HOF.out)
              go_wp2_with (first
                | (go_at_call 12; refine hrd.out.mono ?_; rintro e6 w6 ⟨rfl, rfl⟩)
                | (go_at_call 14; refine (hoffc.out _ HD6a.out).mono ?_; rintro e7 w7 ⟨rfl, rfl⟩)
                | (go_at_call 15; refine (hstc.out _ HD6a.out).mono ?_; rintro e7 w7 ⟨rfl, rfl⟩))
              go_roundw
              case rel => exact ⟨i + 1, m, F, s5, by go_num, by go_num, by omega, HS5, HD6a.out, HF4, HB6a.out⟩
              case measure => simp [intOf]; omega
            | false =>
              go_wp2_with fail
              have HBD := Lib.hid (HST.out.bounds hq (by omega))
              have HW5 := Lib.hid (HST.out.down hof hmq)
              refine (barrier_down wr F p s HD4.out hof HBD.out.1 HBD.out.2.1 HW5.out.2.1).mono ?_
              rintro e w5 ⟨rfl, hd, ho⟩
              have HD6a := Lib.hid hd
              have HB6a := Lib.hid (HB4.out.trans (ho.below HB4.out.size HF4.out))
              have HS5 := Lib.hid HW5.out.1
              have HOF := Lib.hid HW5.out.2.2
              clear hd ho HD4 HB4 HW5
              generalize chg s = s5 at *
              
              have hoffc : Hid (∀ W, DiskAt W F p s5 → Calls Try.prog 14 #[.pointer (some ⟨p, 0, none⟩)] W fun e w' => e = .returned (.bool true) ∧ W = w') := Lib.hid (fun W h => by
                have hh := off_any W F p s5 h
                rw [HOF.out] at hh
                exact hh)
              have hstc : Hid (∀ W, DiskAt W F p s5 → Calls Try.prog 15 #[.pointer (some ⟨p, 0, none⟩)] W fun e w' => e = .returned (.int .i64 (m : Int)) ∧ W = w') := Lib.hid (fun W h => by
                have hh := steps_any W F p s5 h
                rw [HS5.out.steps] at hh
                exact hh)
              have hrd := Lib.hid (read_down w5 F p s5 0 HD6a.out HOF.out)
              go_wp2_with (first
                | (go_at_call 12; refine hrd.out.mono ?_; rintro e6 w6 ⟨rfl, rfl⟩)
                | (go_at_call 14; refine (hoffc.out _ HD6a.out).mono ?_; rintro e7 w7 ⟨rfl, rfl⟩)
                | (go_at_call 15; refine (hstc.out _ HD6a.out).mono ?_; rintro e7 w7 ⟨rfl, rfl⟩))
              go_roundw
              case rel => exact ⟨i + 1, m, F, s5, by go_num, by go_num, by omega, HS5, HD6a.out, HF4, HB6a.out⟩
              case measure => simp [intOf]; omega
      · go_wp2_with fail
        have hcr := fun (W : World) (hD : DiskAt W F p s) => crash_any W F p s hD none 0 0 [] ⟨rfl, Nat.zero_le _, (fun z hz => by cases hz), (fun h => by omega)⟩ (fun x hx => by cases hx)
        refine (hcr wr HD4.out).mono ?_
        rintro e w5 ⟨rfl, hd, ho⟩
        have HD5 := Lib.hid hd
        have HB5 := Lib.hid (HB4.out.trans (ho.below HB4.out.size HF4.out))
        have HG5 := Lib.hid (crash_good HST.out (by omega) (pkOf [] 0))
        clear hd ho HD4 HB4 hcr
        have hoffc : Hid (∀ W, DiskAt W F p (crashS (pkOf [] 0) s) → Calls Try.prog 14 #[.pointer (some ⟨p, 0, none⟩)] W fun e w' => e = .returned (.bool false) ∧ W = w') := Lib.hid (fun W h => off_any W F p _ h)
        have hba := Lib.hid (barrier_ok w5 F p (crashS (pkOf [] 0) s) HD5.out rfl HG5.out.1 HG5.out.2.1 HG5.out.2.2)
        go_wp2_with (first
          | (go_at_call 14; refine (hoffc.out _ HD5.out).mono ?_; rintro e7 w7 ⟨rfl, rfl⟩)
          | (go_at_call 10; refine hba.out.mono ?_; rintro e8 w8 ⟨rfl, hd, ho⟩; have HB8 := Lib.hid (HB5.out.trans (ho.below HB5.out.size HF4.out)); clear hd ho))
        go_ret
        exact ⟨rfl, HB8.out⟩
    · go_wp2_with fail
      have hcr := fun (W : World) (hD : DiskAt W F p s) => crash_any W F p s hD none 0 0 [] ⟨rfl, Nat.zero_le _, (fun z hz => by cases hz), (fun h => by omega)⟩ (fun x hx => by cases hx)
      refine (hcr wr HD4.out).mono ?_
      rintro e w5 ⟨rfl, hd, ho⟩
      have HD5 := Lib.hid hd
      have HB5 := Lib.hid (HB4.out.trans (ho.below HB4.out.size HF4.out))
      have HG5 := Lib.hid (crash_good HST.out (by omega) (pkOf [] 0))
      clear hd ho HD4 HB4 hcr
      have hoffc : Hid (∀ W, DiskAt W F p (crashS (pkOf [] 0) s) → Calls Try.prog 14 #[.pointer (some ⟨p, 0, none⟩)] W fun e w' => e = .returned (.bool false) ∧ W = w') := Lib.hid (fun W h => off_any W F p _ h)
      have hba := Lib.hid (barrier_ok w5 F p (crashS (pkOf [] 0) s) HD5.out rfl HG5.out.1 HG5.out.2.1 HG5.out.2.2)
      go_wp2_with (first
        | (go_at_call 14; refine (hoffc.out _ HD5.out).mono ?_; rintro e7 w7 ⟨rfl, rfl⟩)
        | (go_at_call 10; refine hba.out.mono ?_; rintro e8 w8 ⟨rfl, hd, ho⟩; have HB8 := Lib.hid (HB5.out.trans (ho.below HB5.out.size HF4.out)); clear hd ho))
      go_ret
      exact ⟨rfl, HB8.out⟩

theorem diskSteps_law {H : Type} {enc : TypeId × Value → H} (c : Int) (a : Option Addr) (n cap : Nat) (w : World) (h0 : (Lit.int .i64 c).wf = true) {d : DataW H} {p : List MemPlace} (h : DataW.Trod enc Try.prog w 0 (fun _ => true) true 37 (.slice a n cap) d p) :
    Calls Try.prog 4 #[.int .i64 c, .slice a n cap] w fun e w' => e = .returned (.bool true) ∧ Below w.heap.size w w' := by
  obtain ⟨zs, hz⟩ := bools_of h
  exact steps_walk c a n cap zs w hz
end Go.Proofs.Ytnbmmlepbifciaa
