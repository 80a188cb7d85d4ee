/-
  The law DiskApart.
-/
import Derived.Test.YtnbmmlepbifciaaDiskQ
import Derived.Deep.CutBlock
import Derived.Deep.DeepCutAuto
namespace Go.Proofs.Ytnbmmlepbifciaa
open Go.ChangeShapes Go.WideShapes Go.ChangeAt Go.RowKit Go.Deep
set_option linter.unusedVariables false

def ACells (w : World) (b o : Nat) (t : Int × Int × Nat) : Prop := w.cell? ⟨b, o, none⟩ = some (.int .i64 t.1) ∧ w.cell? ⟨b, o + 1, none⟩ = some (.int .i64 t.2.1) ∧ w.cell? ⟨b, o + 2, none⟩ = some (.int .u8 (t.2.2 : Int))
theorem ACells.only {w w' : World} {F : Nat → Prop} {b o : Nat} {t : Int × Int × Nat} (h : ACells w b o t) (ho : Only F w w') (hb : ¬ F b) : ACells w' b o t := by
  have hk := ho.block b (cell_lt h.1) hb
  exact ⟨(World.cell?_of_block hk).trans h.1, (World.cell?_of_block hk).trans h.2.1, (World.cell?_of_block hk).trans h.2.2⟩
theorem fullWQ (w : World) (F : Nat → Prop) (p : Nat) (s : DSt) (n : Int) (x m b o : Nat) (t : Int × Int × Nat) (h : DiskAt w F p s) (hq : Qt s m) (hm : m ≤ 1000) (hx : x < 256) (hS : ACells w b o t) (hb : ¬ F b) :
    Calls Try.prog 9 #[.int .u8 (x : Int)] w.drew fun e w' => ∃ g, e = .returned (.slice (some ⟨g, 0, none⟩) 512 512) ∧ ACells w' b o t ∧ Calls Try.prog 8 #[.pointer (some ⟨p, 0, none⟩), .int .i64 n, .slice (some ⟨g, 0, none⟩) 512 512] w' fun e w2 => ∃ c : Int, e = .returned (.int .i64 c) ∧ ACells w2 b o t ∧ Left w w2 F p (m + 1) := by
  refine (full_any x hx w.drew).mono ?_
  rintro e w5 ⟨g5, rfl, hrow, hg, hb5⟩
  have hO5 : Only (fun _ => False) w w5 := Only.of_below ⟨hb5.os, hb5.tape, hb5.output, hb5.size, hb5.block⟩
  have hD5 : DiskAt w5 F p s := h.keep hO5 (fun _ _ h => h)
  have hs5 : ACells w5 b o t := hS.only hO5 (fun h => h)
  have hg5 : ¬ F g5 := fun hF => by
    have h1 := h.lts _ hF
    have h2 : w.heap.size ≤ g5 := hg
    omega
  refine ⟨g5, rfl, hs5, (writeQ w5 F p s n g5 x m hD5 hq hm hrow hg5).mono ?_⟩
  rintro e w2 ⟨c, rfl, s', F', hd, hq', hf, ho⟩
  refine ⟨c, rfl, hs5.only ho hb, s', F', hd, hq', fun k hk => ?_, (hO5.mono (fun k hk => hk.elim)).trans ho⟩
  rcases hf k hk with h1 | h1
  · exact .inl h1
  · exact .inr (Nat.le_trans hO5.size h1)

set_option maxRecDepth 100000 in
set_option maxHeartbeats 8000000 in
theorem apart_walk (a1 a2 : Option Addr) (n1 c1 n2 c2 : Nat) (TH1 TH2 : Nat → Int × Int × Nat) (w : World) (h1 : ActRow w a1 n1 TH1) (h2 : ActRow w a2 n2 TH2) :
    Calls Try.prog 5 #[.slice a1 n1 c1, .slice a2 n2 c2] w fun e w' => e = .returned (.bool true) ∧ Below w.heap.size w w' := by
  have H1 := Lib.hid h1
  have H2 := Lib.hid h2
  clear h1 h2
  go_enter Try.func5, Try.ntmps5
  go_wp2_with fail
  refine (new_any 6 w (by decide) (by decide)).mono ?_
  rintro e w1 ⟨p, rfl, hd, hb⟩
  have HD := Lib.hid hd
  have HF3 := Lib.hid (gr_from (F := fun _ => False) (B := w.heap.size) (w := w) (w' := w1) (fun k hk => hk.elim) (Nat.le_refl _))
  have HB := Lib.hid hb
  clear hd hb
  obtain ⟨F0, hFF⟩ : ∃ F, F = Gr (fun _ => False) w w1 := ⟨_, rfl⟩
  rw [← hFF] at HD HF3
  clear hFF
  go_wp2_with fail
  refine (lasts_any w1).mono ?_
  rintro e w2 ⟨rfl, hb⟩
  have HD3 := Lib.hid (HD.out.below hb)
  have HB3 := Lib.hid (HB.out.trans (hb.mono HB.out.size))
  have HP3 := Lib.hid qt_new
  clear hb HD HB
  go_upto_block 0 with fail
  go_cut [7] (fun v wx => ∃ (i : Nat) (F : Nat → Prop) (s : DSt), v = .int .i64 i ∧ DiskAt wx F p s ∧ Hid (Qt s 25) ∧ Hid (∀ k, F k → w.heap.size ≤ k) ∧ Below w.heap.size w wx)
  case first =>
    go_wp2_with fail
    go_loopw [7] (fun v wr => ∃ (i : Nat) (F : Nat → Prop) (s : DSt), v = .int .i64 i ∧ i ≤ 25 ∧ i ≤ n1 ∧ DiskAt wr F p s ∧ Hid (Qt s i) ∧ Hid (∀ k, F k → w.heap.size ≤ k) ∧ Below w.heap.size w wr) (fun v _ => 25 - (intOf v).toNat)
    case atStart => exact ⟨0, _, _, rfl, by omega, by omega, HD3.out, HP3, HF3, HB3.out⟩
    case round =>
      obtain ⟨i, F, s, rfl, hi, hin, hd, HP, HFB, hb⟩ := hrel
      have HD4 := Lib.hid hd
      have HB4 := Lib.hid hb


      clear hd hb HD3 HP3 HF3 HB3 
      by_cases g1 : i < n1
      · by_cases g2 : i < 25
        · obtain ⟨b, o, hbl, hS, hx, hix⟩ := H1.out.at_ g1
          have hix1 := hix c1
          clear hix
          have HS : Hid (∀ W, Below w.heap.size w W → ACells W b o (TH1 i)) := Lib.hid (fun W hB => ⟨(hB.cell (cell_lt hS.1)).trans hS.1, (hB.cell (cell_lt hS.2.1)).trans hS.2.1, (hB.cell (cell_lt hS.2.2)).trans hS.2.2⟩)
          clear hS
          have HX := Lib.hid hx
          clear hx
          generalize TH1 i = t at *
          obtain ⟨t0, tn, tx⟩ := t
          have hc4 : wr.cell? ⟨b, o, none⟩ = some (.int .i64 t0) := (HS.out wr HB4.out).1
          by_cases gw : t0 = 1
          · subst gw
            have HWR := Lib.hid (fullWQ wr F p s tn tx i b o _ HD4.out HP.out (by omega) HX.out (HS.out wr HB4.out) (fun h => by have h1 := HFB.out _ h; omega))
            have e0 := (HS.out wr HB4.out).2
            have e0' : wr.drew.cell? ⟨b, o + 1, none⟩ = some (.int .i64 tn) ∧ wr.drew.cell? ⟨b, o + 2, none⟩ = some (.int .u8 (tx : Int)) := e0
            clear e0
            try dsimp only at hc4
            go_wp2_with fail
            go_region_held3 (fun w' => w'.cell? ⟨b, o + 1, none⟩ = some (.int .i64 tn) ∧ w'.cell? ⟨b, o + 2, none⟩ = some (.int .u8 (tx : Int))) (first | exact e0' | exact e1 | exact e2)
              (first
                | (go_at_call 9; refine HWR.out.mono ?_; rintro x1 w5 ⟨g5, rfl, hs1, hW2⟩; have HW2 := Lib.hid hW2; have e1 := hs1.2; clear hs1 hW2)
                | (go_at_call 8; refine HW2.out.mono ?_; rintro x2 w6 ⟨cc, rfl, hs2, hleft0⟩; have HLL := Lib.hid hleft0; have e2 := hs2.2; have hc6 := hs2.1; clear hs2 hleft0))
            clear HWR HW2
            have hleft := HLL.out
            clear HLL
            obtain ⟨s5, F5, hd, hq, hf, ho⟩ := hleft
            have HD6 := Lib.hid hd
            have HP6 := Lib.hid hq
            have HF6 : Hid (∀ k, F5 k → w.heap.size ≤ k) := Lib.hid (fun k hk => by have hk2 := hf k hk; rcases hk2 with h | h; exact HFB.out k h; exact Nat.le_trans HB4.out.size h)
            have HB6 := Lib.hid (HB4.out.trans (ho.below HB4.out.size (fun k hk => HFB.out k hk)))
            clear hd hq hf ho
            try dsimp only at hc6
            go_wp2_with fail
            go_roundw
            case rel => exact ⟨i + 1, F5, s5, by go_num, by omega, by omega, HD6.out, HP6, HF6, HB6.out⟩
            case measure => simp [intOf]; omega

          · by_cases gb : t0 = 3
            · subst gb
              go_wp2_with fail
              refine (barrierQ _ F p s i HD4.out HP.out (by omega)).mono ?_
              rintro e w6 ⟨cc, rfl, hleft⟩
              obtain ⟨s5, F5, hd, hq, hf, ho⟩ := hleft
              have HD6 := Lib.hid hd
              have HP6 := Lib.hid hq
              have HF6 : Hid (∀ k, F5 k → w.heap.size ≤ k) := Lib.hid (fun k hk => by have hk2 := hf k hk; rcases hk2 with h | h; exact HFB.out k h; exact Nat.le_trans HB4.out.size h)
              have HB6 := Lib.hid (HB4.out.trans (ho.below HB4.out.size (fun k hk => HFB.out k hk)))
              clear hd hq hf ho

              go_wp2_with fail
              go_roundw
              case rel => exact ⟨i + 1, F5, s5, by go_num, by omega, by omega, HD6.out, HP6, HF6, HB6.out⟩
              case measure => simp [intOf]; omega

            · have HP6 := Lib.hid (HP.out.mono (Nat.le_succ i))
              have gw' : (t0 == 1) = false := by simpa using gw
              have gb' : (t0 == 3) = false := by simpa using gb
              go_wp2_with fail
              go_roundw
              case rel => exact ⟨i + 1, F, s, by go_num, by omega, by omega, HD4.out, HP6, HFB, HB4.out⟩
              case measure => simp [intOf]; omega
        · have HI := Lib.hid hi
          go_wp2_with fail
          go_meet
          exact ⟨i, F, s, rfl, HD4.out, Lib.hid (HP.out.mono hi), HFB, HB4.out⟩

      · have HI := Lib.hid hi
        go_wp2_with fail
        go_meet
        exact ⟨i, F, s, rfl, HD4.out, Lib.hid (HP.out.mono hi), HFB, HB4.out⟩

  case rest =>
  obtain ⟨i0, Fa, sa, rfl, hd, HQA, HFW, hb⟩ := hcut
  have HDA := Lib.hid hd
  have HBA := Lib.hid hb
  clear hd hb HD3 HP3 HF3 HB3
  go_wp2_with fail
  refine (imageQ _ Fa p sa 25 HDA.out HQA.out).mono ?_
  rintro e w4 ⟨g4, cc4, rfl, hcv, _, hb⟩
  have HDB := Lib.hid (HDA.out.below hb)
  have HBB := Lib.hid (HBA.out.trans (hb.mono HBA.out.size))
  clear hb HDA HBA
  go_wp2_with fail
  clear hcv
  refine (copy_any _ Fa p sa HDB.out (by rw [HQA.out.good.1]; decide)).mono ?_
  rintro e w5 ⟨q, rfl, hd, hb⟩
  have HD3 := Lib.hid hd
  have HA3 := Lib.hid (HDB.out.below hb)
  have HF3 := Lib.hid (gr_from (F := fun _ => False) (B := w4.heap.size) (w := w4) (w' := w5) (fun k hk => hk.elim) (Nat.le_refl _))
  have HFA : Hid (∀ k, Fa k → k < w4.heap.size) := Lib.hid HDB.out.lts
  have HSB : Hid (w.heap.size ≤ w4.heap.size) := Lib.hid HBB.out.size
  have HB3 := Lib.hid (HBB.out.trans (hb.mono HBB.out.size))
  have HP3 := Lib.hid (qt_copy HQA.out)
  clear hd hb HDB HBB
  generalize w4.heap.size = B at *
  obtain ⟨F0, hFF⟩ : ∃ F, F = Gr (fun _ => False) w4 w5 := ⟨_, rfl⟩
  rw [← hFF] at HD3 HF3
  clear hFF
  have HI4 : Hid (∃ x, x = bstr (img sa.L)) := Lib.hid ⟨_, rfl⟩

  go_upto_block 2 with fail
  go_cut [10] (fun v wx => ∃ (i : Nat) (F : Nat → Prop) (s : DSt), v = .int .i64 i ∧ DiskAt wx Fa p sa ∧ DiskAt wx F q s ∧ Hid (Qt s 25) ∧ Hid (∀ k, F k → B ≤ k) ∧ Below w.heap.size w wx)
  case first =>
    go_wp2_with fail
    go_loopw [10] (fun v wr => ∃ (i : Nat) (F : Nat → Prop) (s : DSt), v = .int .i64 i ∧ i ≤ 25 ∧ i ≤ n2 ∧ DiskAt wr Fa p sa ∧ DiskAt wr F q s ∧ Hid (Qt s i) ∧ Hid (∀ k, F k → B ≤ k) ∧ Below w.heap.size w wr) (fun v _ => 25 - (intOf v).toNat)
    case atStart => exact ⟨0, _, _, rfl, by omega, by omega, HA3.out, HD3.out, HP3, HF3, HB3.out⟩
    case round =>
      obtain ⟨i, F, s, rfl, hi, hin, ha, hd, HP, HFB, hb⟩ := hrel
      have HD4 := Lib.hid hd
      have HB4 := Lib.hid hb
      have HA4 := Lib.hid ha
      have HBW : Hid (B ≤ wr.heap.size) := Lib.hid (by have h1 := HFB.out; obtain ⟨lb, nb, lc, nc, wv, hR⟩ := HD4.out; exact Nat.le_trans (h1 _ hR.2.2.2.2.2.1) (Nat.le_of_lt HD4.out.lt))
      clear hd hb HD3 HP3 HF3 HB3 ha HA3
      by_cases g1 : i < n2
      · by_cases g2 : i < 25
        · obtain ⟨b, o, hbl, hS, hx, hix⟩ := H2.out.at_ g1
          have hix1 := hix c2
          clear hix
          have HS : Hid (∀ W, Below w.heap.size w W → ACells W b o (TH2 i)) := Lib.hid (fun W hB => ⟨(hB.cell (cell_lt hS.1)).trans hS.1, (hB.cell (cell_lt hS.2.1)).trans hS.2.1, (hB.cell (cell_lt hS.2.2)).trans hS.2.2⟩)
          clear hS
          have HX := Lib.hid hx
          clear hx
          generalize TH2 i = t at *
          obtain ⟨t0, tn, tx⟩ := t
          have hc4 : wr.cell? ⟨b, o, none⟩ = some (.int .i64 t0) := (HS.out wr HB4.out).1
          by_cases gw : t0 = 1
          · subst gw
            have HWR := Lib.hid (fullWQ wr F q s tn tx i b o _ HD4.out HP.out (by omega) HX.out (HS.out wr HB4.out) (fun h => by have h1 := HFB.out _ h; have h2 := HSB.out; omega))
            have e0 := (HS.out wr HB4.out).2
            have e0' : wr.drew.cell? ⟨b, o + 1, none⟩ = some (.int .i64 tn) ∧ wr.drew.cell? ⟨b, o + 2, none⟩ = some (.int .u8 (tx : Int)) := e0
            clear e0
            try dsimp only at hc4
            go_wp2_with fail
            go_region_held3 (fun w' => w'.cell? ⟨b, o + 1, none⟩ = some (.int .i64 tn) ∧ w'.cell? ⟨b, o + 2, none⟩ = some (.int .u8 (tx : Int))) (first | exact e0' | exact e1 | exact e2)
              (first
                | (go_at_call 9; refine HWR.out.mono ?_; rintro x1 w5 ⟨g5, rfl, hs1, hW2⟩; have HW2 := Lib.hid hW2; have e1 := hs1.2; clear hs1 hW2)
                | (go_at_call 8; refine HW2.out.mono ?_; rintro x2 w6 ⟨cc, rfl, hs2, hleft0⟩; have HLL := Lib.hid hleft0; have e2 := hs2.2; have hc6 := hs2.1; clear hs2 hleft0))
            clear HWR HW2
            have hleft := HLL.out
            clear HLL
            obtain ⟨s5, F5, hd, hq, hf, ho⟩ := hleft
            have HD6 := Lib.hid hd
            have HP6 := Lib.hid hq
            have HF6 : Hid (∀ k, F5 k → B ≤ k) := Lib.hid (fun k hk => by have hk2 := hf k hk; rcases hk2 with h | h; exact HFB.out k h; exact Nat.le_trans HBW.out h)
            have HB6 := Lib.hid (HB4.out.trans (ho.below HB4.out.size (fun k hk => Nat.le_trans HSB.out (HFB.out k hk))))
            have HA6 := Lib.hid (HA4.out.keep ho (fun k hk hg => by have h1 := HFA.out k hk; have h2 := HFB.out k hg; omega))
            clear hd hq hf ho
            try dsimp only at hc6
            go_wp2_with fail
            go_roundw
            case rel => exact ⟨i + 1, F5, s5, by go_num, by omega, by omega, HA6.out, HD6.out, HP6, HF6, HB6.out⟩
            case measure => simp [intOf]; omega

          · by_cases gb : t0 = 3
            · subst gb
              go_wp2_with fail
              refine (barrierQ _ F q s i HD4.out HP.out (by omega)).mono ?_
              rintro e w6 ⟨cc, rfl, hleft⟩
              obtain ⟨s5, F5, hd, hq, hf, ho⟩ := hleft
              have HD6 := Lib.hid hd
              have HP6 := Lib.hid hq
              have HF6 : Hid (∀ k, F5 k → B ≤ k) := Lib.hid (fun k hk => by have hk2 := hf k hk; rcases hk2 with h | h; exact HFB.out k h; exact Nat.le_trans HBW.out h)
              have HB6 := Lib.hid (HB4.out.trans (ho.below HB4.out.size (fun k hk => Nat.le_trans HSB.out (HFB.out k hk))))
              have HA6 := Lib.hid (HA4.out.keep ho (fun k hk hg => by have h1 := HFA.out k hk; have h2 := HFB.out k hg; omega))
              clear hd hq hf ho

              go_wp2_with fail
              go_roundw
              case rel => exact ⟨i + 1, F5, s5, by go_num, by omega, by omega, HA6.out, HD6.out, HP6, HF6, HB6.out⟩
              case measure => simp [intOf]; omega

            · have HP6 := Lib.hid (HP.out.mono (Nat.le_succ i))
              have gw' : (t0 == 1) = false := by simpa using gw
              have gb' : (t0 == 3) = false := by simpa using gb
              go_wp2_with fail
              go_roundw
              case rel => exact ⟨i + 1, F, s, by go_num, by omega, by omega, HA4.out, HD4.out, HP6, HFB, HB4.out⟩
              case measure => simp [intOf]; omega
        · have HI := Lib.hid hi
          go_wp2_with fail
          go_meet
          exact ⟨i, F, s, rfl, HA4.out, HD4.out, Lib.hid (HP.out.mono hi), HFB, HB4.out⟩

      · have HI := Lib.hid hi
        go_wp2_with fail
        go_meet
        exact ⟨i, F, s, rfl, HA4.out, HD4.out, Lib.hid (HP.out.mono hi), HFB, HB4.out⟩

  case rest =>
  obtain ⟨i1, Fc, sc, rfl, ha, hd, HQC, HFC, hb⟩ := hcut
  have HDC := Lib.hid hd
  have HDA := Lib.hid ha
  have HBA := Lib.hid hb
  clear hd ha hb HD3 HP3 HF3 HB3 HA3
  go_wp2_with fail
  refine (imageQ _ Fa p sa 25 HDA.out HQA.out).mono ?_
  rintro e w6 ⟨g6, cc6, rfl, hcv, _, hb⟩
  have HDA6 := Lib.hid (HDA.out.below hb)
  have HDC6 := Lib.hid (HDC.out.below hb)
  have HB6 := Lib.hid (HBA.out.trans (hb.mono HBA.out.size))
  clear hb HDA HDC HBA
  go_wp2_with fail
  clear hcv
  refine (imageQ _ Fc q sc 25 HDC6.out HQC.out).mono ?_
  rintro e w7 ⟨g7, cc7, rfl, hcv, _, hb⟩
  have HDA7 := Lib.hid (HDA6.out.below hb)
  have HDC7 := Lib.hid (HDC6.out.below hb)
  have HB7 := Lib.hid (HB6.out.trans (hb.mono HB6.out.size))
  clear hb HDA6 HDC6 HB6
  go_wp2_with fail
  clear hcv
  refine (full_any 171 (by decide) w7).mono ?_
  rintro e w8 ⟨g8, rfl, hrow, hg, hb⟩
  have HDA8 := Lib.hid (HDA7.out.below hb)
  have HDC8 := Lib.hid (HDC7.out.below hb)
  have HB8 := Lib.hid (HB7.out.trans (hb.mono HB7.out.size))
  have HW8 := Lib.hid (writeQ w8 Fa p sa 0 g8 171 25 HDA8.out HQA.out (by decide) hrow (fun h => by have h1 := HDA7.out.lts _ h; omega))
  clear hrow hg hb HDA7 HDC7 HB7
  go_wp2_with fail
  refine HW8.out.mono ?_
  rintro e w9 ⟨cc, rfl, s9, F9, hd, hq, hf, ho⟩
  have HDA9 := Lib.hid hd
  have HQ9 := Lib.hid hq
  have HF9 : Hid (∀ k, Fc k → ¬ F9 k) := Lib.hid (fun k hk hk9 => by
    have h1 := HFC.out k hk
    have h2 := HDC8.out.lts _ hk
    rcases hf k hk9 with h | h
    · have := HFA.out k h; omega
    · omega)
  have HG9 : Hid (∀ k, F9 k → w.heap.size ≤ k) := Lib.hid (fun k hk9 => by
    rcases hf k hk9 with h | h
    · exact HFW.out k h
    · exact Nat.le_trans HB8.out.size h)
  have HDC9 := Lib.hid (HDC8.out.keep ho (fun k hk hg => by have h1 := HFC.out k hk; have h2 := HFA.out k hg; omega))
  have HB9 := Lib.hid (HB8.out.trans (ho.below HB8.out.size HFW.out))
  clear hd hq hf ho HDA8 HDC8 HB8 HW8
  go_wp2_with fail
  refine (barrierQ w9 F9 p s9 26 HDA9.out HQ9.out (by decide)).mono ?_
  rintro e wa ⟨cd, rfl, st, Ft, hd, hq, hf, ho⟩
  have HDT := Lib.hid hd
  have HQT := Lib.hid hq
  have HDCa := Lib.hid (HDC9.out.keep ho (fun k hk hg => HF9.out k hk hg))
  have HBa := Lib.hid (HB9.out.trans (ho.below HB9.out.size HG9.out))
  clear hd hq hf ho HDA9 HDC9 HB9
  go_wp2_with fail
  refine (imageQ wa Fc q sc 25 HDCa.out HQC.out).mono ?_
  rintro e wb ⟨gb, cb, rfl, hcv, _, hb⟩
  have HDTb := Lib.hid (HDT.out.below hb)
  have HDCb := Lib.hid (HDCa.out.below hb)
  have HBb := Lib.hid (HBa.out.trans (hb.mono HBa.out.size))
  clear hb HDT HDCa HBa
  have HSB2 := Lib.hid (same_bool HQC.out.good HQT.out.good)
  go_wp2_with fail
  clear hcv
  refine (same_any wb Fc Ft q p sc st HDCb.out HDTb.out (by rw [HQC.out.good.1, HQT.out.good.1]) (by rw [HQC.out.good.1]; decide)).mono ?_
  rintro e wd ⟨rfl, hb⟩
  have HDTd := Lib.hid (HDTb.out.below hb)
  have HBd := Lib.hid (HBb.out.trans (hb.mono HBb.out.size))
  clear hb HDTb HDCb HBb
  go_wp2_with fail
  refine (imageQ wd Ft p st 27 HDTd.out HQT.out).mono ?_
  rintro e we ⟨ge, ce, rfl, hcv, _, hb⟩
  have HBe := Lib.hid (HBd.out.trans (hb.mono HBd.out.size))
  clear hb HDTd HBd
  have hsb := HSB2.out
  clear HSB2
  generalize bstr (img st.L) = xt at *
  generalize bstr (img sc.L) = xc at *
  generalize decide (sc.L = st.L) = bb at *
  go_wp2_with fail
  go_ret
  exact ⟨ret_bool (by first | (rw [hsb]; simp) | simp), HBe.out⟩
theorem diskApart_law {H : Type} {enc : TypeId × Value → H} (a1 : Option Addr) (n1 c1 : Nat) (a2 : Option Addr) (n2 c2 : Nat) {d1 d2 : DataW H} {p1 p2 : List MemPlace} (w : World)
    (h1 : DataW.Trod enc Try.prog w 0 (fun _ => true) true 42 (.slice a1 n1 c1) d1 p1) (h2 : DataW.Trod enc Try.prog w 0 (fun _ => true) true 42 (.slice a2 n2 c2) d2 p2) :
    Calls Try.prog 5 #[.slice a1 n1 c1, .slice a2 n2 c2] w fun e w' => e = .returned (.bool true) ∧ Below w.heap.size w w' := by
  obtain ⟨t1, r1⟩ := acts_of h1
  obtain ⟨t2, r2⟩ := acts_of h2
  exact apart_walk a1 a2 n1 c1 n2 c2 t1 t2 w r1 r2
end Go.Proofs.Ytnbmmlepbifciaa
