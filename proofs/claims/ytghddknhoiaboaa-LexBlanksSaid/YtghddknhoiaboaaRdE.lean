/-
  The law NumReads: the contract of the document's ReadFloat.
-/
import Derived.Test.YtghddknhoiaboaaRdD
namespace Go.Proofs.Ytghddknhoiaboaa
set_option maxRecDepth 100000
open Go.ChangeShapes Go.WideShapes Go.ChangeAt Go.RowKit
open Fl (rung INFR NANB isNan canon made fi)
set_option linter.unusedVariables false
set_option maxRecDepth 100000 in
set_option maxHeartbeats 1000000 in
theorem refReadFloat_any (s : ByteArray) (w : World) (hs2 : s.size ≤ 70000) :
    Calls Try.prog 25 #[.string s] w fun e w' => e = .returned (.tuple #[.int .u64 ((rdS (bytesOf s)).1 : Nat), .int .i64 (rdS (bytesOf s)).2]) ∧ w = w' := by
  have hs : s.size ≤ 9223372036854775807 := by omega
  by_cases h0 : s.size = 0
  · have hb : bytesOf s = [] := List.eq_nil_of_length_eq_zero (by rw [bytesOf_length]; exact h0)
    have hr : rdS (bytesOf s) = (0, 2) := by rw [hb]; rfl
    rw [hr]
    go_enter Try.func25, Try.ntmps25
    go_wp2_with fail
    go_loop [5, 6, 7, 8, 9, 10, 11] (fun iv _ _ _ _ _ pv => iv = .int .i64 0 ∧ pv = .bool false) (fun _ _ _ _ _ _ _ => 0)
    case atStart => exact ⟨rfl, rfl⟩
    case round =>
      obtain ⟨rfl, rfl⟩ := hrel
      go_wp2_with fail
      go_ret2
      exact ⟨rfl, rfl⟩
  · have hpos : 0 < s.size := by omega
    have hix0 : ∀ W, (Instr.index 9 (.string s) (.int .i64 0)).run Try.prog W = .ok (.int .u8 (((bytesOf s).getD 0 0 : Nat) : Int)) W := fun W => idx_str s 0 hpos hs W
    have hlen := bytesOf_length s
    by_cases h45 : (bytesOf s).getD 0 0 = 45
    · have hr : rdS (bytesOf s) = rdF true ((bytesOf s).drop 1) := by
        unfold rdS
        rw [if_pos]
        rw [← h45]
        cases hb : bytesOf s with
        | nil => rw [hb] at hlen; simp at hlen; omega
        | cons a l => rfl
      rw [hr]
      have e45 : (((bytesOf s).getD 0 0 : Nat) : Int) = 45 := by omega
      rw [e45] at hix0
      clear e45
      have HD : Hid (∀ k, 1 ≤ k → (bytesOf s).getD k 0 = ((bytesOf s).drop 1).getD (k - 1) 0) := Lib.hid (fun k hk => by
        rw [List.getD_eq_getElem?_getD, List.getD_eq_getElem?_getD, List.getElem?_drop]
        congr 2
        omega)
      have HL : Hid (((bytesOf s).drop 1).length = s.size - 1) := Lib.hid (by rw [List.length_drop, hlen])
      generalize (bytesOf s).drop 1 = d at *
      clear hr h45 hlen
      go_enter Try.func25, Try.ntmps25
      go_wp2_with fail
      go_loop [5, 6, 7, 8, 9, 10, 11] (fun iv nv tv gv av bv pv => ∃ (k N T g a b : Nat) (pt : Bool), 1 ≤ k ∧ k ≤ s.size ∧ iv = .int .i64 k ∧ nv = .float .f64 (fi N) ∧ tv = .float .f64 (fi T) ∧ gv = .int .i64 g ∧ av = .int .i64 a ∧ bv = .int .i64 b ∧ pv = .bool pt ∧ N ≤ 1000000000000000 ∧ T ≤ 1000000000000000 ∧ g + 1 ≤ 90000 ∧ Hid (RI d (k - 1) N T g a b pt)) (fun iv _ _ _ _ _ _ => s.size - (intOf iv).toNat)
      case atStart => exact ⟨1, 0, 1, 0, 0, 0, false, Nat.le_refl _, by omega, rfl, by rw [Fl.fi_zero], by rw [Fl.fi_one], rfl, rfl, rfl, rfl, by omega, by omega, by omega, by rw [Nat.sub_self]; exact Lib.hid (ri_start d)⟩
      case round =>
        obtain ⟨k, N, T, g, a, b, pt, hok, hk, rfl, rfl, rfl, rfl, rfl, rfl, rfl, hN, hT, hg3, HI⟩ := hrel
        by_cases hlt : k < s.size
        · have hix := idx_str s k hlt hs
          have hc := getD_lt s k hlt
          have hd : (bytesOf s).getD k 0 = d.getD (k - 1) 0 := HD.out k (by omega)
          rw [hd] at hix hc
          clear hd
          have hlen : k - 1 < d.length := by have := HL.out; omega
          have HBAD := Lib.hid (fun h1 h2 => ri_bad (m := true) HI.out hlen h1 h2)
          have HPT := Lib.hid (fun h1 h2 => ri_point HI.out hlen h1 h2)
          have HDG := Lib.hid (fun x h1 h2 => ri_digit HI.out hlen x h1 h2)
          have hgb := ri_bounds HI.out
          have hgs : g ≤ 70000 := by have := hgb.1; have := HL.out; omega
          have hab : a ≤ 70000 ∧ b ≤ g := by have := hgb.2; omega
          have hke : k + 1 - 1 = k - 1 + 1 := by omega
          clear hgb
          generalize d.getD (k - 1) 0 = c at *
          by_cases h46 : c = 46
          · subst h46
            cases pt with
            | true =>
              have HR := Lib.hid (HBAD.out (by decide) (.inr rfl))
              have hix2 : ∀ W, (Instr.index 9 (.string s) (.int .i64 (k : Int))).run Try.prog W = .ok (.int .u8 46) W := hix
              clear HBAD HPT HDG hix
              go_wp2_with fail
              go_ret2
              exact ⟨by rw [HR.out]; rfl, rfl⟩
            | false =>
              have HR := Lib.hid (HPT.out rfl rfl)
              have hix2 : ∀ W, (Instr.index 9 (.string s) (.int .i64 (k : Int))).run Try.prog W = .ok (.int .u8 46) W := hix
              clear HBAD HPT HDG hix
              go_wp2_with fail
              go_round
              case rel => exact ⟨k + 1, N, T, g, a, b, true, by omega, by omega, by go_num, rfl, rfl, rfl, rfl, rfl, rfl, hN, hT, hg3, by rw [hke]; exact HR⟩
              case measure => simp [intOf]; omega
          · have h46i : ((c : Int) == 46) = false := by simp; omega
            by_cases h1 : (c : Int) < 48
            · have HR := Lib.hid (HBAD.out (by unfold isD; simp; omega) (.inl h46))
              clear HBAD HPT HDG
              go_wp2_with fail
              go_ret2
              exact ⟨by rw [HR.out]; rfl, rfl⟩
            · by_cases h2 : (c : Int) > 57
              · have HR := Lib.hid (HBAD.out (by unfold isD; simp; omega) (.inl h46))
                clear HBAD HPT HDG
                go_wp2_with fail
                go_ret2
                exact ⟨by rw [HR.out]; rfl, rfl⟩
              · obtain ⟨x, rfl⟩ : ∃ x, c = 48 + x := ⟨c - 48, by omega⟩
                have hx9 : x ≤ 9 := by omega
                obtain ⟨D1, D2, D3⟩ := HDG.out x rfl hx9
                have HD1 := Lib.hid D1
                have HD2 := Lib.hid D2
                have HD3 := Lib.hid D3
                have e48 : ((48 + x : Nat) : Int) = 48 + (x : Int) := by omega
                rw [e48] at hix
                clear e48 D1 D2 D3 HBAD HPT HDG hc h1 h2 h46 h46i
                have h46i : ((48 : Int) + (x : Int) == 46) = false := by simp; omega
                have h46j : ¬ ((48 : Int) + (x : Int) = 46) := by omega
                have h1 : ¬ (48 + (x : Int) < 48) := by omega
                have h2 : ¬ (57 < 48 + (x : Int)) := by omega
                have hfi := Fl.fi_int x (by omega)
                by_cases hg : g + 1 ≤ 15
                · have hgi : (g : Int) + 1 ≤ 15 := by omega
                  have hN15 : N * 10 + x ≤ 1000000000000000 := HD3.out hg
                  have hmul : ∀ W, (binOp .mul 71 (.float .f64 (fi N)) (.float .f64 4621819117588971520)).run Try.prog W = .ok (.float .f64 (fi (N * 10))) W := fun W => run_float_arith W .mul _ .f64 _ _ _ (by rw [← Fl.fi_ten]; exact Fl.fi_mul N 10 (by omega) (by decide) (by omega))
                  have hadd : ∀ W, (binOp .add 71 (.float .f64 (fi (N * 10))) (.float .f64 (floatOfInt .f64 (48 + (x : Int) - 48)))).run Try.prog W = .ok (.float .f64 (fi (N * 10 + x))) W := by
                    intro W
                    rw [show (48 + (x : Int) - 48) = (x : Int) by omega, hfi]
                    exact run_float_arith W .add _ .f64 _ _ _ (Fl.fi_add (N * 10) x (by omega))
                  cases pt with
                  | false =>
                    have HR := Lib.hid (HD1.out rfl)
                    rw [if_pos hg] at HR
                    obtain ⟨X1, hX1⟩ : ∃ X1, X1 = fi N := ⟨_, rfl⟩
                    clear hX1 X1
                    go_wp2_with fail
                    go_round
                    case rel => exact ⟨k + 1, N * 10 + x, T, g + 1, a + 1, b, false, by omega, by omega, by go_num, rfl, rfl, by go_num, by go_num, rfl, rfl, hN15, hT, by omega, by rw [hke]; exact HR⟩
                    case measure => simp [intOf]; omega
                  | true =>
                    have HR := Lib.hid (HD2.out rfl)
                    have hb15 : b + 1 ≤ 15 := by omega
                    have hbi : (b : Int) + 1 ≤ 15 := by omega
                    rw [if_pos hg, if_pos hb15] at HR
                    have hT10 : T * 10 ≤ 1000000000000000 := (ri_ten HR.out)
                    have htm : ∀ W, (binOp .mul 71 (.float .f64 (fi T)) (.float .f64 4621819117588971520)).run Try.prog W = .ok (.float .f64 (fi (T * 10))) W := fun W => run_float_arith W .mul _ .f64 _ _ _ (by rw [← Fl.fi_ten]; exact Fl.fi_mul T 10 (by omega) (by decide) (by omega))
                    go_wp2_with fail
                    go_round
                    case rel => exact ⟨k + 1, N * 10 + x, T * 10, g + 1, a, b + 1, true, by omega, by omega, by go_num, rfl, rfl, by go_num, rfl, by go_num, rfl, hN15, hT10, by omega, by rw [hke]; exact HR⟩
                    case measure => simp [intOf]; omega
                · have hgi : ¬ ((g : Int) + 1 ≤ 15) := by omega
                  cases pt with
                  | false =>
                    have HR := Lib.hid (HD1.out rfl)
                    rw [if_neg hg] at HR
                    go_wp2_with fail
                    go_round
                    case rel => exact ⟨k + 1, N, T, g + 1, a + 1, b, false, by omega, by omega, by go_num, rfl, rfl, by go_num, by go_num, rfl, rfl, hN, hT, by omega, by rw [hke]; exact HR⟩
                    case measure => simp [intOf]; omega
                  | true =>
                    have HR := Lib.hid (HD2.out rfl)
                    rw [if_neg hg] at HR
                    by_cases hb15 : b + 1 ≤ 15
                    · have hbi : (b : Int) + 1 ≤ 15 := by omega
                      rw [if_pos hb15] at HR
                      have hT10 : T * 10 ≤ 1000000000000000 := (ri_ten HR.out)
                      have htm : ∀ W, (binOp .mul 71 (.float .f64 (fi T)) (.float .f64 4621819117588971520)).run Try.prog W = .ok (.float .f64 (fi (T * 10))) W := fun W => run_float_arith W .mul _ .f64 _ _ _ (by rw [← Fl.fi_ten]; exact Fl.fi_mul T 10 (by omega) (by decide) (by omega))
                      go_wp2_with fail
                      go_round
                      case rel => exact ⟨k + 1, N, T * 10, g + 1, a, b + 1, true, by omega, by omega, by go_num, rfl, rfl, by go_num, rfl, by go_num, rfl, hN, hT10, by omega, by rw [hke]; exact HR⟩
                      case measure => simp [intOf]; omega
                    · have hbi : ¬ ((b : Int) + 1 ≤ 15) := by omega
                      rw [if_neg hb15] at HR
                      go_wp2_with fail
                      go_round
                      case rel => exact ⟨k + 1, N, T, g + 1, a, b + 1, true, by omega, by omega, by go_num, rfl, rfl, by go_num, rfl, by go_num, rfl, hN, hT, by omega, by rw [hke]; exact HR⟩
                      case measure => simp [intOf]; omega
        · have HE := Lib.hid (ri_end (m := true) HI.out (by have := HL.out; omega))
          cases pt with
          | false =>
            have HR := Lib.hid (HE.out.1 rfl)
            go_wp2_with fail
            go_ret2
            exact ⟨by rw [HR.out]; rfl, rfl⟩
          | true =>
            obtain ⟨E1, E2, E3⟩ := HE.out.2 rfl
            have HE1 := Lib.hid E1
            have HE2 := Lib.hid E2
            have HE3 := Lib.hid E3
            clear E1 E2 E3
            by_cases ha0 : a = 0
            · have HR := Lib.hid (HE1.out (.inl ha0))
              subst ha0
              go_wp2_with fail
              go_ret2
              exact ⟨by rw [HR.out]; rfl, rfl⟩
            · have ha0i : ((a : Int) == 0) = false := by simp; omega
              by_cases hb0 : b = 0
              · have HR := Lib.hid (HE1.out (.inr hb0))
                subst hb0
                go_wp2_with fail
                go_ret2
                exact ⟨by rw [HR.out]; rfl, rfl⟩
              · have hb0i : ((b : Int) == 0) = false := by simp; omega
                by_cases hg : 15 < g
                · have HR := Lib.hid (HE2.out ha0 hb0 hg)
                  have hgi : (15 : Int) < (g : Int) := by omega
                  go_wp2_with fail
                  go_ret2
                  exact ⟨by rw [HR.out]; rfl, rfl⟩
                · have HR := Lib.hid (HE3.out ha0 hb0 hg)
                  have hgi : ¬ ((15 : Int) < (g : Int)) := by omega
                  have hT1 : 1 ≤ T := ri_one HI.out
                  obtain ⟨q, hq1, hq2, hq3⟩ := Fl.fi_div N T (by omega) (by omega) hT1
                  have hmd : made (Fl.D.div (fi N) (fi T)) = q := by rw [hq1]; exact Fl.canon_not hq2
                  rw [hmd] at HR
                  have hdiv : ∀ W, (binOp .quo 71 (.float .f64 (fi N)) (.float .f64 (fi T))).run Try.prog W = .ok (.float .f64 q) W := fun W => run_float_arith W .quo _ .f64 _ _ _ hq1
                  have HOF := Lib.hid (fun u => refOf_any q hq3 u)
                  rw [Fl.canon_not hq2] at HOF
                  have hxs := xor_sign q hq3
                  clear hq1 hq2 hmd
                  go_wp2_with (go_at_call 38; refine (HOF.out _).mono ?_; rintro e w' ⟨rfl, rfl⟩)
                  go_ret2
                  exact ⟨by rw [HR.out]; rfl, rfl⟩

    · have hr : rdS (bytesOf s) = rdF false (bytesOf s) := by
        unfold rdS
        rw [if_neg]
        intro h
        apply h45
        cases hb : bytesOf s with
        | nil => rw [hb] at h; cases h
        | cons a l => rw [hb] at h; simpa using h
      rw [hr]
      have HL : Hid ((bytesOf s).length = s.size - 0) := Lib.hid (by rw [hlen]; rfl)
      have hn45 : (((bytesOf s).getD 0 0 : Nat) : Int) ≠ 45 := by omega
      generalize ((bytesOf s).getD 0 0) = c0 at hix0 hn45
      have hn45' : ((c0 : Int) == 45) = false := by simpa using hn45
      obtain ⟨d, hdd⟩ : ∃ d, d = bytesOf s := ⟨_, rfl⟩
      rw [← hdd] at HL ⊢
      have HD : Hid (∀ k, 0 ≤ k → (bytesOf s).getD k 0 = d.getD (k - 0) 0) := Lib.hid (fun k _ => by rw [hdd]; rfl)
      clear hr h45 hlen hn45 hdd
      go_enter Try.func25, Try.ntmps25
      go_wp2_with fail
      go_loop [5, 6, 7, 8, 9, 10, 11] (fun iv nv tv gv av bv pv => ∃ (k N T g a b : Nat) (pt : Bool), 0 ≤ k ∧ k ≤ s.size ∧ iv = .int .i64 k ∧ nv = .float .f64 (fi N) ∧ tv = .float .f64 (fi T) ∧ gv = .int .i64 g ∧ av = .int .i64 a ∧ bv = .int .i64 b ∧ pv = .bool pt ∧ N ≤ 1000000000000000 ∧ T ≤ 1000000000000000 ∧ g + 1 ≤ 90000 ∧ Hid (RI d (k - 0) N T g a b pt)) (fun iv _ _ _ _ _ _ => s.size - (intOf iv).toNat)
      case atStart => exact ⟨0, 0, 1, 0, 0, 0, false, Nat.le_refl _, by omega, rfl, by rw [Fl.fi_zero], by rw [Fl.fi_one], rfl, rfl, rfl, rfl, by omega, by omega, by omega, by rw [Nat.sub_self]; exact Lib.hid (ri_start d)⟩
      case round =>
        obtain ⟨k, N, T, g, a, b, pt, hok, hk, rfl, rfl, rfl, rfl, rfl, rfl, rfl, hN, hT, hg3, HI⟩ := hrel
        by_cases hlt : k < s.size
        · have hix := idx_str s k hlt hs
          have hc := getD_lt s k hlt
          have hd : (bytesOf s).getD k 0 = d.getD (k - 0) 0 := HD.out k (by omega)
          rw [hd] at hix hc
          clear hd
          have hlen : k - 0 < d.length := by have := HL.out; omega
          have HBAD := Lib.hid (fun h1 h2 => ri_bad (m := false) HI.out hlen h1 h2)
          have HPT := Lib.hid (fun h1 h2 => ri_point HI.out hlen h1 h2)
          have HDG := Lib.hid (fun x h1 h2 => ri_digit HI.out hlen x h1 h2)
          have hgb := ri_bounds HI.out
          have hgs : g ≤ 70000 := by have := hgb.1; have := HL.out; omega
          have hab : a ≤ 70000 ∧ b ≤ g := by have := hgb.2; omega
          have hke : k + 1 - 0 = k - 0 + 1 := by omega
          clear hgb
          generalize d.getD (k - 0) 0 = c at *
          by_cases h46 : c = 46
          · subst h46
            cases pt with
            | true =>
              have HR := Lib.hid (HBAD.out (by decide) (.inr rfl))
              have hix2 : ∀ W, (Instr.index 9 (.string s) (.int .i64 (k : Int))).run Try.prog W = .ok (.int .u8 46) W := hix
              clear HBAD HPT HDG hix
              go_wp2_with fail
              go_ret2
              exact ⟨by rw [HR.out]; rfl, rfl⟩
            | false =>
              have HR := Lib.hid (HPT.out rfl rfl)
              have hix2 : ∀ W, (Instr.index 9 (.string s) (.int .i64 (k : Int))).run Try.prog W = .ok (.int .u8 46) W := hix
              clear HBAD HPT HDG hix
              go_wp2_with fail
              go_round
              case rel => exact ⟨k + 1, N, T, g, a, b, true, by omega, by omega, by go_num, rfl, rfl, rfl, rfl, rfl, rfl, hN, hT, hg3, by rw [hke]; exact HR⟩
              case measure => simp [intOf]; omega
          · have h46i : ((c : Int) == 46) = false := by simp; omega
            by_cases h1 : (c : Int) < 48
            · have HR := Lib.hid (HBAD.out (by unfold isD; simp; omega) (.inl h46))
              clear HBAD HPT HDG
              go_wp2_with fail
              go_ret2
              exact ⟨by rw [HR.out]; rfl, rfl⟩
            · by_cases h2 : (c : Int) > 57
              · have HR := Lib.hid (HBAD.out (by unfold isD; simp; omega) (.inl h46))
                clear HBAD HPT HDG
                go_wp2_with fail
                go_ret2
                exact ⟨by rw [HR.out]; rfl, rfl⟩
              · obtain ⟨x, rfl⟩ : ∃ x, c = 48 + x := ⟨c - 48, by omega⟩
                have hx9 : x ≤ 9 := by omega
                obtain ⟨D1, D2, D3⟩ := HDG.out x rfl hx9
                have HD1 := Lib.hid D1
                have HD2 := Lib.hid D2
                have HD3 := Lib.hid D3
                have e48 : ((48 + x : Nat) : Int) = 48 + (x : Int) := by omega
                rw [e48] at hix
                clear e48 D1 D2 D3 HBAD HPT HDG hc h1 h2 h46 h46i
                have h46i : ((48 : Int) + (x : Int) == 46) = false := by simp; omega
                have h46j : ¬ ((48 : Int) + (x : Int) = 46) := by omega
                have h1 : ¬ (48 + (x : Int) < 48) := by omega
                have h2 : ¬ (57 < 48 + (x : Int)) := by omega
                have hfi := Fl.fi_int x (by omega)
                by_cases hg : g + 1 ≤ 15
                · have hgi : (g : Int) + 1 ≤ 15 := by omega
                  have hN15 : N * 10 + x ≤ 1000000000000000 := HD3.out hg
                  have hmul : ∀ W, (binOp .mul 71 (.float .f64 (fi N)) (.float .f64 4621819117588971520)).run Try.prog W = .ok (.float .f64 (fi (N * 10))) W := fun W => run_float_arith W .mul _ .f64 _ _ _ (by rw [← Fl.fi_ten]; exact Fl.fi_mul N 10 (by omega) (by decide) (by omega))
                  have hadd : ∀ W, (binOp .add 71 (.float .f64 (fi (N * 10))) (.float .f64 (floatOfInt .f64 (48 + (x : Int) - 48)))).run Try.prog W = .ok (.float .f64 (fi (N * 10 + x))) W := by
                    intro W
                    rw [show (48 + (x : Int) - 48) = (x : Int) by omega, hfi]
                    exact run_float_arith W .add _ .f64 _ _ _ (Fl.fi_add (N * 10) x (by omega))
                  cases pt with
                  | false =>
                    have HR := Lib.hid (HD1.out rfl)
                    rw [if_pos hg] at HR
                    obtain ⟨X1, hX1⟩ : ∃ X1, X1 = fi N := ⟨_, rfl⟩
                    clear hX1 X1
                    go_wp2_with fail
                    go_round
                    case rel => exact ⟨k + 1, N * 10 + x, T, g + 1, a + 1, b, false, by omega, by omega, by go_num, rfl, rfl, by go_num, by go_num, rfl, rfl, hN15, hT, by omega, by rw [hke]; exact HR⟩
                    case measure => simp [intOf]; omega
                  | true =>
                    have HR := Lib.hid (HD2.out rfl)
                    have hb15 : b + 1 ≤ 15 := by omega
                    have hbi : (b : Int) + 1 ≤ 15 := by omega
                    rw [if_pos hg, if_pos hb15] at HR
                    have hT10 : T * 10 ≤ 1000000000000000 := (ri_ten HR.out)
                    have htm : ∀ W, (binOp .mul 71 (.float .f64 (fi T)) (.float .f64 4621819117588971520)).run Try.prog W = .ok (.float .f64 (fi (T * 10))) W := fun W => run_float_arith W .mul _ .f64 _ _ _ (by rw [← Fl.fi_ten]; exact Fl.fi_mul T 10 (by omega) (by decide) (by omega))
                    go_wp2_with fail
                    go_round
                    case rel => exact ⟨k + 1, N * 10 + x, T * 10, g + 1, a, b + 1, true, by omega, by omega, by go_num, rfl, rfl, by go_num, rfl, by go_num, rfl, hN15, hT10, by omega, by rw [hke]; exact HR⟩
                    case measure => simp [intOf]; omega
                · have hgi : ¬ ((g : Int) + 1 ≤ 15) := by omega
                  cases pt with
                  | false =>
                    have HR := Lib.hid (HD1.out rfl)
                    rw [if_neg hg] at HR
                    go_wp2_with fail
                    go_round
                    case rel => exact ⟨k + 1, N, T, g + 1, a + 1, b, false, by omega, by omega, by go_num, rfl, rfl, by go_num, by go_num, rfl, rfl, hN, hT, by omega, by rw [hke]; exact HR⟩
                    case measure => simp [intOf]; omega
                  | true =>
                    have HR := Lib.hid (HD2.out rfl)
                    rw [if_neg hg] at HR
                    by_cases hb15 : b + 1 ≤ 15
                    · have hbi : (b : Int) + 1 ≤ 15 := by omega
                      rw [if_pos hb15] at HR
                      have hT10 : T * 10 ≤ 1000000000000000 := (ri_ten HR.out)
                      have htm : ∀ W, (binOp .mul 71 (.float .f64 (fi T)) (.float .f64 4621819117588971520)).run Try.prog W = .ok (.float .f64 (fi (T * 10))) W := fun W => run_float_arith W .mul _ .f64 _ _ _ (by rw [← Fl.fi_ten]; exact Fl.fi_mul T 10 (by omega) (by decide) (by omega))
                      go_wp2_with fail
                      go_round
                      case rel => exact ⟨k + 1, N, T * 10, g + 1, a, b + 1, true, by omega, by omega, by go_num, rfl, rfl, by go_num, rfl, by go_num, rfl, hN, hT10, by omega, by rw [hke]; exact HR⟩
                      case measure => simp [intOf]; omega
                    · have hbi : ¬ ((b : Int) + 1 ≤ 15) := by omega
                      rw [if_neg hb15] at HR
                      go_wp2_with fail
                      go_round
                      case rel => exact ⟨k + 1, N, T, g + 1, a, b + 1, true, by omega, by omega, by go_num, rfl, rfl, by go_num, rfl, by go_num, rfl, hN, hT, by omega, by rw [hke]; exact HR⟩
                      case measure => simp [intOf]; omega
        · have HE := Lib.hid (ri_end (m := false) HI.out (by have := HL.out; omega))
          cases pt with
          | false =>
            have HR := Lib.hid (HE.out.1 rfl)
            go_wp2_with fail
            go_ret2
            exact ⟨by rw [HR.out]; rfl, rfl⟩
          | true =>
            obtain ⟨E1, E2, E3⟩ := HE.out.2 rfl
            have HE1 := Lib.hid E1
            have HE2 := Lib.hid E2
            have HE3 := Lib.hid E3
            clear E1 E2 E3
            by_cases ha0 : a = 0
            · have HR := Lib.hid (HE1.out (.inl ha0))
              subst ha0
              go_wp2_with fail
              go_ret2
              exact ⟨by rw [HR.out]; rfl, rfl⟩
            · have ha0i : ((a : Int) == 0) = false := by simp; omega
              by_cases hb0 : b = 0
              · have HR := Lib.hid (HE1.out (.inr hb0))
                subst hb0
                go_wp2_with fail
                go_ret2
                exact ⟨by rw [HR.out]; rfl, rfl⟩
              · have hb0i : ((b : Int) == 0) = false := by simp; omega
                by_cases hg : 15 < g
                · have HR := Lib.hid (HE2.out ha0 hb0 hg)
                  have hgi : (15 : Int) < (g : Int) := by omega
                  go_wp2_with fail
                  go_ret2
                  exact ⟨by rw [HR.out]; rfl, rfl⟩
                · have HR := Lib.hid (HE3.out ha0 hb0 hg)
                  have hgi : ¬ ((15 : Int) < (g : Int)) := by omega
                  have hT1 : 1 ≤ T := ri_one HI.out
                  obtain ⟨q, hq1, hq2, hq3⟩ := Fl.fi_div N T (by omega) (by omega) hT1
                  have hmd : made (Fl.D.div (fi N) (fi T)) = q := by rw [hq1]; exact Fl.canon_not hq2
                  rw [hmd] at HR
                  have hdiv : ∀ W, (binOp .quo 71 (.float .f64 (fi N)) (.float .f64 (fi T))).run Try.prog W = .ok (.float .f64 q) W := fun W => run_float_arith W .quo _ .f64 _ _ _ hq1
                  have HOF := Lib.hid (fun u => refOf_any q hq3 u)
                  rw [Fl.canon_not hq2] at HOF
                  have hxs := xor_sign q hq3
                  clear hq1 hq2 hmd
                  go_wp2_with (go_at_call 38; refine (HOF.out _).mono ?_; rintro e w' ⟨rfl, rfl⟩)
                  go_ret2
                  exact ⟨by rw [HR.out]; rfl, rfl⟩

end Go.Proofs.Ytghddknhoiaboaa
