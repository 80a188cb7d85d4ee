/-
  The law DiskKeeps: the walk.
-/
import Derived.Test.YtjobbdjeeaelkaaDiskL
import Derived.Test.YtjobbdjeeaelkaaDiskJ
import Derived.Deep.CutBlock
import Derived.Deep.DeepCutAuto
import Derived.Deep.RegionHeld3
import Derived.BigQuiet
namespace Go.Proofs.Ytjobbdjeeaelkaa
open Go.ChangeShapes Go.WideShapes Go.ChangeAt Go.RowKit Go.Deep
set_option linter.unusedVariables false

theorem writeK_ok (w : World) (F : Nat → Prop) (p : Nat) (s : DSt) (n g x : Nat) (h : DiskAt w F p s) (ho : s.off = false) (hn : n < s.L.length) (hb : ByteRow w (some ⟨g, 0, none⟩) 512 (fullL x)) (hg : ¬ F g) (B : Nat) (hF : ∀ k, F k → B ≤ k) (hB : B ≤ w.heap.size)
    (hs : 0 ≤ s.steps ∧ s.steps < 4611686018427387904) (hl : 0 ≤ s.left ∧ s.left < 4611686018427387904) (hw : s.W.length < 1000000) (hc : chgE s = 0) :
    Calls Try.prog 8 #[.pointer (some ⟨p, 0, none⟩), .int .i64 n, .slice (some ⟨g, 0, none⟩) 512 512] w fun e w' => e = .returned (.int .i64 0) ∧ ∃ F', DiskAt w' F' p (wr s n (bstr (fullL x))) ∧ (∀ k, F' k → B ≤ k) ∧ (∀ k, k < w.heap.size → F' k → F k) ∧ Only F w w' := by
  refine (write_ok w F p s n (some ⟨g, 0, none⟩) 512 (fullL x) h ho hn hb (fun y hy => by cases hy; exact hg) hs hl hw hc).mono ?_
  rintro e w' ⟨rfl, hd, ho⟩
  refine ⟨rfl, _, hd, gr_from hF hB, fun k hk hg => ?_, ho⟩
  rcases hg with hg | ⟨hg, _⟩
  · exact hg
  · omega

theorem picks_gen (w : World) (F : Nat → Prop) (a : Option Addr) (n cap : Nat) (zs : List Int) (hz : IntRow w a n zs) (ha : 0 < n → ∀ x, a = some x → ¬ F x.block) (hF : ∀ k, F k → k < w.heap.size) : ∀ W, Only F (w.alloc (.cells #[.slice a n cap] 23)) W → W.cell? ⟨w.heap.size, 0, none⟩ = some (.slice a n cap) ∧ IntRow W a n zs := by
  by_cases h0 : 0 < n
  · exact picks_at w F a n cap zs hz (ha h0) hF
  · obtain rfl : n = 0 := by omega
    intro W h
    refine ⟨?_, IntRow.nil' a hz W⟩
    have e1 : (w.alloc (.cells #[.slice a 0 cap] 23)).heap[w.heap.size]? = some (.cells #[.slice a 0 cap] 23) := by
      show (w.heap.push _)[w.heap.size]? = _
      simp
    have e2 : (w.alloc (.cells #[.slice a 0 cap] 23)).heap.size = w.heap.size + 1 := by
      show (w.heap.push _).size = _
      simp
    have e3 := (h.block w.heap.size (by omega) (fun g => by have := hF _ g; omega)).trans e1
    simp [World.cell?, e3]
theorem IntRow.below {w W : World} {a : Option Addr} {n : Nat} {l : List Int} (h : IntRow w a n l) (hb : Below w.heap.size w W) : IntRow W a n l := by
  refine ⟨h.1, h.2.1, h.2.2.1, fun h0 => ?_⟩
  obtain ⟨b, o, rfl, hc⟩ := h.2.2.2 h0
  exact ⟨b, o, rfl, fun i hi => (World.cell?_of_block (hb.block b (cell_lt (hc i hi)))).trans (hc i hi)⟩
theorem full_lt (x : Nat) (hx : x < 256) : ∀ c ∈ fullL x, c < 256 := fun c hc => by rw [List.eq_of_mem_replicate hc]; exact hx
/-- a sector of one byte is read -/
theorem readK (w : World) (F : Nat → Prop) (p : Nat) (s : DSt) (n x : Nat) (h : DiskAt w F p s) (ho : s.off = false) (hn : n < s.L.length) (hx : x < 256) (hN : s.N.getD n ⟨#[]⟩ = bstr (fullL x)) :
    Calls Try.prog 12 #[.pointer (some ⟨p, 0, none⟩), .int .i64 n] w fun e w' => ∃ g c, e = .returned (.tuple #[.slice (some ⟨g, 0, none⟩) 512 c, .int .i64 0]) ∧ ByteRow w' (some ⟨g, 0, none⟩) 512 (fullL x) ∧ w.heap.size ≤ g ∧ Below w.heap.size w w' := by
  have h := read_ok w F p s n h ho hn (by rw [hN, bstr_full_size]; decide)
  rw [hN, bstr_full_size, bytesOf_bstr _ (full_lt x hx)] at h
  exact h
theorem row0 {w : World} {g x : Nat} (h : ByteRow w (some ⟨g, 0, none⟩) 512 (fullL x)) : w.cell? ⟨g, 0, none⟩ = some (.int .u8 (x : Int)) := by
  obtain ⟨b, o, e, hc⟩ := h.2.2.2 (by decide)
  have h := hc 0 (by decide)
  rw [fullL_get x 0 (by decide)] at h
  injection e with e
  injection e with e1 e2 _
  subst e1 e2
  exact h

set_option maxRecDepth 100000 in
set_option maxHeartbeats 2000000 in
theorem crash_gen (w : World) (F : Nat → Prop) (p : Nat) (s : DSt) (h : DiskAt w F p s) (a : Option Addr) (n cap : Nat) (zs : List Int) (hz : IntRow w a n zs) (ha : 0 < n → ∀ x, a = some x → ¬ F x.block) :
    Calls Try.prog 11 #[.pointer (some ⟨p, 0, none⟩), .slice a n cap] w fun e w' => e = .returned (.tuple #[]) ∧ DiskAt w' F p (crashS (pkOf zs n) s) ∧ Only F w w' := by
  have HD := Lib.hid (DiskAt.keep h (Only.alloc (Only.refl (fun _ => False) w) (.cells #[.slice a n cap] 23)) (fun _ _ h => h))
  have hFl : ∀ k, F k → k < w.heap.size := by
    obtain ⟨lb, nb, lc, nc, wv, hR⟩ := h
    exact hR.2.2.2.2.2.2.2.2.2.2
  have HP := Lib.hid (picks_gen w F a n cap zs hz ha hFl)
  have HO := Lib.hid (Only.alloc (Only.refl F w) (.cells #[.slice a n cap] 23))
  clear h hz ha hFl
  go_enter Try.func11, Try.ntmps11
  go_wp2_with fail
  refine (settle_some _ F p s (pkOf zs n) w.heap.size HD.out (fun k W _ h => pick_any w.heap.size a n cap zs k W (HP.out W h).1 (HP.out W h).2)).mono ?_
  rintro e2 w2 ⟨rfl, hd, ho⟩
  have HD2 := Lib.hid hd
  have HO2 := Lib.hid ho
  obtain ⟨c3, c4, c5, c6, cf⟩ := hd.cells
  have f3 := cf 3
  have f4 := cf 4
  have f5 := cf 5
  clear hd ho cf c6
  go_wp2_with fail
  go_end0
  exact ⟨rfl, ((HD2.out.armed_ false).left_ 0).off_ false, (((HO.out.trans HO2.out).setCell (p := ⟨p, 3, none⟩) HD2.out.self _).setCell (p := ⟨p, 4, none⟩) HD2.out.self _).setCell (p := ⟨p, 5, none⟩) HD2.out.self _⟩

theorem below_drewN {B : Nat} {w w' : World} (h : Below B w w') (n : Nat) : Below B w (w'.drewN n) := ⟨h.os, h.tape, h.output, h.size, h.block⟩
theorem may_step (f : Nat → Nat) (l : List Nat) (k n x : Nat) : (May f l k n x → May f l (k + 1) n x) ∧ (k * 3 % 8 = n → l.getD k 0 = x → May f l (k + 1) n x) ∧ (¬ May f l k n x → (k * 3 % 8 = n → ¬ l.getD k 0 = x) → ¬ May f l (k + 1) n x) := by
  refine ⟨fun h => ?_, fun h1 h2 => .inr ⟨k, by omega, h1, h2⟩, fun h1 h2 h => ?_⟩
  · rcases h with h | ⟨j, hj, h⟩
    · exact .inl h
    · exact .inr ⟨j, by omega, h⟩
  · rcases h with h | ⟨j, hj, h3, h4⟩
    · exact h1 (.inl h)
    · by_cases g : j = k
      · subst g
        exact h2 h3 h4
      · exact h1 (.inr ⟨j, by omega, h3, h4⟩)
/-- what a test of a sector needs of the world -/
def Sect (w : World) (g c x : Nat) : Prop := w.cell? ⟨g, 0, none⟩ = some (.int .u8 (x : Int)) ∧ (convert 22 9 (.slice (some ⟨g, 0, none⟩) 512 c)).run Try.prog w = .ok (.string (bstr (fullL x))) w
theorem sect_of {w : World} {g x : Nat} (c : Nat) (h : ByteRow w (some ⟨g, 0, none⟩) 512 (fullL x)) : Sect w g c x := ⟨row0 h, conv_row c h⟩
theorem fullK (w : World) (g c x : Nat) (hx : x < 256) (h : ByteRow w (some ⟨g, 0, none⟩) 512 (fullL x)) :
    Calls Try.prog 9 #[.int .u8 (x : Int)] w.drew fun e w' => ∃ g8, e = .returned (.slice (some ⟨g8, 0, none⟩) 512 512) ∧ Sect w' g c x ∧ Sect w' g8 512 x ∧ Below w.heap.size w w' := by
  refine (full_any x hx w.drew).mono ?_
  rintro e w8 ⟨g8, rfl, hrow, hg, hb⟩
  have h8 : ByteRow w8 (some ⟨g, 0, none⟩) 512 (fullL x) := ByteRow.only (F := fun _ => False) (w := w.drew) h (Only.of_below hb) (fun _ _ h => h)
  exact ⟨g8, rfl, sect_of c h8, sect_of 512 hrow, ⟨hb.os, hb.tape, hb.output, hb.size, hb.block⟩⟩
set_option maxRecDepth 100000 in
set_option maxHeartbeats 8000000 in
theorem keeps_walk (a1 a2 a3 : Option Addr) (n1 c1 n2 c2 n3 c3 : Nat) (l1 l2 : List Nat) (zs : List Int) (w : World) (h1 : ByteRow w a1 n1 l1) (h2 : ByteRow w a2 n2 l2) (h3 : IntRow w a3 n3 zs) :
    Calls Try.prog 3 #[.slice a1 n1 c1, .slice a2 n2 c2, .slice a3 n3 c3] w fun e w' => e = .returned (.bool true) ∧ Below w.heap.size w w' := by
  have H1 := Lib.hid h1
  have H2 := Lib.hid h2
  have H3 := Lib.hid h3
  clear h1 h2 h3
  go_enter Try.func3, Try.ntmps3
  go_wp2_with fail
  refine (new_any 8 w (by decide) (by decide)).mono ?_
  rintro e w1 ⟨p, rfl, hd, hb⟩
  have HD := Lib.hid hd
  have HF := Lib.hid (gr_from (F := fun _ => False) (B := w.heap.size) (w := w) (w' := w1) (fun k hk => hk.elim) (Nat.le_refl _))
  have HB := Lib.hid hb
  clear hd hb
  obtain ⟨F, hFF⟩ : ∃ F, F = Gr (fun _ => False) w w1 := ⟨_, rfl⟩
  rw [← hFF] at HD HF
  clear hFF
  go_wp2_with fail
  refine (lasts_any w1).mono ?_
  rintro e w2 ⟨rfl, hb⟩
  have HD2 := Lib.hid (HD.out.below hb)
  have HB2 := Lib.hid (HB.out.trans (hb.mono HB.out.size))
  clear hb HD HB
  go_upto_block 0 with fail
  have HW3 := Lib.hid (was_new w2)
  have HD3 := Lib.hid (HD2.out.below ((Below.refl w2.heap.size w2).alloc (Nat.le_refl _) (.cells #[.int .u8 0, .int .u8 0, .int .u8 0, .int .u8 0, .int .u8 0, .int .u8 0, .int .u8 0, .int .u8 0] 29)))
  have HB3 := Lib.hid (HB2.out.alloc HB2.out.size (.cells #[.int .u8 0, .int .u8 0, .int .u8 0, .int .u8 0, .int .u8 0, .int .u8 0, .int .u8 0, .int .u8 0] 29))
  have HN3 : Hid (¬ F w2.heap.size) := Lib.hid (fun h => by have := HD2.out.lts _ h; omega)
  have HV3 : Hid (w.heap.size ≤ w2.heap.size) := Lib.hid HB2.out.size
  clear HD2 HB2
  generalize (w2.alloc (.cells #[.int .u8 0, .int .u8 0, .int .u8 0, .int .u8 0, .int .u8 0, .int .u8 0, .int .u8 0, .int .u8 0] 29)) = w3 at *
  generalize w2.heap.size = wb at *
  clear w2
  go_cut [10] (fun v wx => ∃ (i m : Nat) (F : Nat → Prop) (s : DSt) (f : Nat → Nat), v = .int .i64 i ∧ DiskAt wx F p s ∧ Hid (m ≤ 40 ∧ Ph s m) ∧ Hid (One s f) ∧ Hid (Was wx wb f) ∧ Hid (¬ F wb) ∧ Hid (∀ k, F k → w.heap.size ≤ k) ∧ Below w.heap.size w wx)
  case first =>
    go_wp2_with fail
    go_loopw [10] (fun v wr => ∃ (i : Nat) (F : Nat → Prop) (s : DSt) (f : Nat → Nat), v = .int .i64 i ∧ i ≤ 40 ∧ DiskAt wr F p s ∧ Hid (Ph s i) ∧ Hid (One s f) ∧ Hid (Was wr wb f) ∧ Hid (¬ F wb) ∧ Hid (∀ k, F k → w.heap.size ≤ k) ∧ Below w.heap.size w wr) (fun v _ => 40 - (intOf v).toNat)
    case atStart => exact ⟨0, F, _, _, rfl, by omega, HD3.out, Lib.hid ph_new, Lib.hid one_new, HW3, HN3, HF, HB3.out⟩
    case round =>
      obtain ⟨i, F, s, f, rfl, hi, hd, HP, HO, HW, HN, HFB, hb⟩ := hrel
      have HD4 := Lib.hid hd
      have HB4 := Lib.hid hb
      clear hd hb HD3 HB3 HF HN3 HW3
      by_cases g1 : i < n1
      · by_cases g2 : i < 40
        · obtain ⟨hx, q, hq, hcl, hix⟩ := H1.out.at_ g1
          have hcell := (HB4.out.cell hq).trans hcl
          have hix1 := hix c1
          clear hix
          generalize l1.getD i 0 = x at *
          go_wp2_with fail
          refine (full_any x hx wr).mono ?_
          rintro e f5 ⟨g5, rfl, hrow, hg, hb⟩
          have HD5 := Lib.hid (HD4.out.below hb)
          have HR5 := Lib.hid hrow
          have HW5 := Lib.hid (HW.out.below hb)
          have HG5 : Hid (¬ F g5) := Lib.hid (fun h => by have := HD4.out.lts _ h; omega)
          have HB5 := Lib.hid (HB4.out.trans (hb.mono HB4.out.size))
          clear hrow hg hb HD4 HB4 HW
          have hj : i % 8 < 8 := Nat.mod_lt _ (by decide)
          have HBD := Lib.hid (HP.out.bounds (by omega))
          go_wp2_with fail
          have hmod : ((i : Int) % 8) = ((i % 8 : Nat) : Int) := by omega
          rw [hmod]
          have HMOD : Hid (((i : Int) % 8) = ((i % 8 : Nat) : Int)) := Lib.hid hmod
          clear hmod
          generalize i % 8 = j at *
          refine (writeK_ok f5 F p s j g5 x HD5.out HP.out.off (by rw [HP.out.good.1]; exact hj) HR5.out HG5.out w.heap.size HFB.out HB5.out.size HBD.out.1 HBD.out.2.1 HBD.out.2.2 HP.out.chg.2).mono ?_
          rintro e w5 ⟨rfl, F5, hd, hf, hfk, ho⟩
          have HD6 := Lib.hid hd
          have HF6 := Lib.hid hf
          have HN6 : Hid (¬ F5 wb) := Lib.hid (fun h => HN.out (hfk _ HW5.out.lt h))
          have HW6 := Lib.hid (HW5.out.only ho HN.out)
          have HB6 := Lib.hid (HB5.out.trans (ho.below HB5.out.size HFB.out))
          have HP6 := Lib.hid (HP.out.wr j hj (bstr (fullL x)) (bstr_full_size x))
          have HO6 := Lib.hid (HO.out.wr HP.out.good.2.1 j hj x hx)
          have hcell6 := (HB6.out.cell hq).trans hcl
          obtain ⟨hwc, hwf⟩ := HW6.out j hj
          clear hd hf hfk ho HD5 HR5 HG5 HB5 HW5 HBD
          generalize Go.Proofs.Ytjobbdjeeaelkaa.wr s j (bstr (fullL x)) = s6 at *
          have hmod := HMOD.out
          have hj0 : (0 : Int) ≤ (j : Int) := by omega
          have hj8 : (j : Int) < 8 := by omega
          go_wp2_with fail
          go_roundw
          case rel => exact ⟨i + 1, F5, s6, upd f j x, by go_num, by omega, HD6.out.keep ((Only.refl (fun k => k = wb) w5).setCell (p := ⟨wb, j, none⟩) rfl _) (fun k hk hkb => by subst hkb; exact HN6.out hk), HP6, HO6, Lib.hid (HW6.out.set j x), HN6, HF6, HB6.out.setCell (p := ⟨wb, j, none⟩) HV3.out _⟩
          case measure => simp [intOf]; omega
        · go_wp2_with fail
          go_meet
          exact ⟨i, i, F, s, f, rfl, HD4.out, Lib.hid ⟨hi, HP.out⟩, HO, HW, HN, HFB, HB4.out⟩
      · go_wp2_with fail
        go_meet
        exact ⟨i, i, F, s, f, rfl, HD4.out, Lib.hid ⟨hi, HP.out⟩, HO, HW, HN, HFB, HB4.out⟩
  case rest =>
    obtain ⟨i, m, F, s, f, rfl, hd, HP, HO, HW, HN, HFB, hb⟩ := hcut
    have HD4 := Lib.hid hd
    have HB4 := Lib.hid hb
    clear hd hb HD3 HB3 HF HN3 HW3
    go_wp2_with fail
    have HBD := Lib.hid (HP.out.2.bounds (by have := HP.out.1; omega))
    refine (barrier_ok wc F p s HD4.out HP.out.2.off HBD.out.1 HBD.out.2.1 HP.out.2.chg.2).mono ?_
    rintro e w5 ⟨rfl, hd, ho⟩
    have HD5 := Lib.hid hd
    have HW5 := Lib.hid (HW.out.only ho HN.out)
    have HB5 := Lib.hid (HB4.out.trans (ho.below HB4.out.size HFB.out))
    have HP5 := Lib.hid HP.out.2.barrier
    have HT5 := Lib.hid (HO.out.barrier HP.out.2 l2)
    clear hd ho HD4 HB4 HW HO HBD
    generalize settleS (fun _ => true) (chg s) = s5 at *
    go_upto_block 2 with fail
    obtain ⟨m5, rfl⟩ : ∃ m5, m5 = m + 1 := ⟨_, rfl⟩
    have HM5 : Hid (m + 1 ≤ 41) := Lib.hid (by have := HP.out.1; omega)
    clear HP
    generalize m + 1 = m5 at *
    go_cut [11] (fun v wx => ∃ (i : Nat) (F : Nat → Prop) (s : DSt), v = .int .i64 i ∧ DiskAt wx F p s ∧ Hid ((i < n2 → 40 ≤ i) ∧ i ≤ n2 ∧ i ≤ 40) ∧ Hid (Ph s (m5 + i)) ∧ Hid (Two s f l2 i) ∧ Hid (Was wx wb f) ∧ Hid (¬ F wb) ∧ Hid (∀ k, F k → w.heap.size ≤ k) ∧ Below w.heap.size w wx)
    case first =>
      go_wp2_with fail
      go_loopw [11] (fun v wr => ∃ (i : Nat) (F : Nat → Prop) (s : DSt), v = .int .i64 i ∧ i ≤ 40 ∧ i ≤ n2 ∧ DiskAt wr F p s ∧ Hid (Ph s (m5 + i)) ∧ Hid (Two s f l2 i) ∧ Hid (Was wr wb f) ∧ Hid (¬ F wb) ∧ Hid (∀ k, F k → w.heap.size ≤ k) ∧ Below w.heap.size w wr) (fun v _ => 40 - (intOf v).toNat)
      case atStart => exact ⟨0, F, _, rfl, by omega, by omega, HD5.out, HP5, HT5, HW5, HN, HFB, HB5.out⟩
      case round =>
        clear HN HFB HD5 HP5 HT5 HW5 HB5
        obtain ⟨i, F, s, rfl, hi, hin, hd, HP, HO, HW, HN, HFB, hb⟩ := hrel
        have HD4 := Lib.hid hd
        have HB4 := Lib.hid hb
        clear hd hb
        by_cases g1 : i < n2
        · by_cases g2 : i < 40
          · obtain ⟨hx, q, hq, hcl, hix⟩ := H2.out.at_ g1
            have hcell := (HB4.out.cell hq).trans hcl
            have hix1 := hix c2
            clear hix
            have HO6 := Lib.hid (HO.out.wr hx)
            generalize l2.getD i 0 = x at *
            go_wp2_with fail
            refine (full_any x hx wr).mono ?_
            rintro e f5 ⟨g5, rfl, hrow, hg, hb⟩
            have HD5 := Lib.hid (HD4.out.below hb)
            have HR5 := Lib.hid hrow
            have HW5 := Lib.hid (HW.out.below hb)
            have HG5 : Hid (¬ F g5) := Lib.hid (fun h => by have := HD4.out.lts _ h; omega)
            have HB5 := Lib.hid (HB4.out.trans (hb.mono HB4.out.size))
            clear hrow hg hb HD4 HB4 HW
            have hj : i * 3 % 8 < 8 := Nat.mod_lt _ (by decide)
            have HBD := Lib.hid (HP.out.bounds (by have := HM5.out; omega))
            go_wp2_with fail
            have hmod : ((i : Int) * 3 % 8) = ((i * 3 % 8 : Nat) : Int) := by omega
            rw [hmod]
            clear hmod
            generalize i * 3 % 8 = j at *
            refine (writeK_ok f5 F p s j g5 x HD5.out HP.out.off (by rw [HP.out.good.1]; exact hj) HR5.out HG5.out w.heap.size HFB.out HB5.out.size HBD.out.1 HBD.out.2.1 HBD.out.2.2 HP.out.chg.2).mono ?_
            rintro e w5 ⟨rfl, F5, hd, hf, hfk, ho⟩
            have HD6 := Lib.hid hd
            have HF6 := Lib.hid hf
            have HN6 : Hid (¬ F5 wb) := Lib.hid (fun h => HN.out (hfk _ HW5.out.lt h))
            have HW6 := Lib.hid (HW5.out.only ho HN.out)
            have HB6 := Lib.hid (HB5.out.trans (ho.below HB5.out.size HFB.out))
            have HP6 := Lib.hid (HP.out.wr j hj (bstr (fullL x)) (bstr_full_size x))
            clear hd hf hfk ho HD5 HR5 HG5 HB5 HW5 HBD
            generalize Go.Proofs.Ytjobbdjeeaelkaa.wr s j (bstr (fullL x)) = s6 at *
            go_wp2_with fail
            go_roundw
            case rel => exact ⟨i + 1, F5, s6, by go_num, by omega, by omega, HD6.out, HP6, HO6, HW6, HN6, HF6, HB6.out⟩
            case measure => simp [intOf]; omega
          · go_wp2_with fail
            go_meet
            exact ⟨i, F, s, rfl, HD4.out, Lib.hid ⟨fun _ => by omega, hin, hi⟩, HP, HO, HW, HN, HFB, HB4.out⟩
        · go_wp2_with fail
          go_meet
          exact ⟨i, F, s, rfl, HD4.out, Lib.hid ⟨fun h => absurd h g1, hin, hi⟩, HP, HO, HW, HN, HFB, HB4.out⟩
    case rest =>
      clear HN HFB HD5 HP5 HT5 HW5 HB5
      obtain ⟨K, F, s, rfl, hd, HK, HP, HO, HW, HN, HFB, hb⟩ := hcut
      have HD4 := Lib.hid hd
      have HB4 := Lib.hid hb
      clear hd hb
      have HR4 : Hid (IntRow wc a3 n3 zs) := Lib.hid (H3.out.below HB4.out)
      have HA4 : Hid (0 < n3 → ∀ x, a3 = some x → ¬ F x.block) := Lib.hid (fun h0 x hx hF => by have h1 := intRow_block H3.out h0 x hx; have h2 := HFB.out _ hF; omega)
      go_wp2_with fail
      refine (crash_gen wc F p s HD4.out a3 n3 c3 zs HR4.out HA4.out).mono ?_
      rintro e w5 ⟨rfl, hd, ho⟩
      have HD5 := Lib.hid hd
      have HW5 := Lib.hid (HW.out.only ho HN.out)
      have HB5 := Lib.hid (HB4.out.trans (ho.below HB4.out.size HFB.out))
      have HT := Lib.hid (HO.out.crash HP.out (pkOf zs n3))
      clear hd ho HD4 HB4 HW HO HP HR4 HA4 H3 HN
      generalize crashS (pkOf zs n3) s = s5 at *
      go_wp2_with fail
      go_loopw [12] (fun v wr => ∃ (n : Nat), v = .int .i64 n ∧ n ≤ 8 ∧ DiskAt wr F p s5 ∧ Hid (Was wr wb f) ∧ Below w.heap.size w wr) (fun v _ => 8 - (intOf v).toNat)
      case atStart => exact ⟨0, rfl, by omega, HD5.out, HW5, HB5.out⟩
      case round =>
        clear HD5 HW5 HB5
        obtain ⟨n, rfl, hn8, hd, HW, hb⟩ := hrel
        have HD6 := Lib.hid hd
        have HB6 := Lib.hid hb
        clear hd hb
        by_cases gn : n < 8
        · obtain ⟨x, hx, hN, hmay⟩ := HT.out.at_ n gn
          have HMAY := Lib.hid hmay
          have HRD := Lib.hid (readK wr F p s5 n x HD6.out HT.out.off (by rw [HT.out.len]; exact gn) hx hN)
          clear hmay hN
          go_wp2_with fail
          refine HRD.out.mono ?_
          rintro e w7 ⟨g7, c7, rfl, hrow, hg, hb⟩
          have HR7 := Lib.hid hrow
          have HD7 := Lib.hid (HD6.out.below hb)
          have HW7 := Lib.hid (HW.out.below hb)
          have HB7 := Lib.hid (HB6.out.trans (hb.mono HB6.out.size))
          clear hrow hg hb HD6 HW HB6 HRD
          go_upto_region 23 with fail
          go_cut [102] (fun v wx => v = .bool false ∧ Below w7.heap.size w7 wx)
          case first =>
            have HFK := Lib.hid (fullK w7 g7 c7 x hx HR7.out)
            obtain ⟨hS1, hS2⟩ := sect_of (w := w7.drew) c7 HR7.out
            go_region_with
              (first
                | (go_at_call 9; refine HFK.out.mono ?_; rintro e8 w8 ⟨g8, rfl, ⟨hT1, hT2⟩, ⟨hU1, hU2⟩, hb⟩; have HB8 := Lib.hid hb; clear hb))
            all_goals (go_wp2_with fail; go_meet; exact ⟨rfl, HB8.out⟩)
          case rest =>
            obtain ⟨rfl, hb8⟩ := hcut
            have HB8 := Lib.hid hb8
            clear hb8
            go_upto_region 25 with fail
            go_cut [15] (fun v wx => ∃ b : Bool, v = .bool b ∧ Hid (b = true ↔ x = f n) ∧ Below w7.heap.size w7 wx)
            case first =>
              have hcx := (HB8.out.cell (cell_lt (row0 HR7.out))).trans (row0 HR7.out)
              obtain ⟨hcw, hfw⟩ := (HW7.out.below HB8.out) n gn
              have hn0 : (0 : Int) ≤ (n : Int) := by omega
              have hn8' : (n : Int) < 8 := by omega
              by_cases hxf : x = f n
              · rw [← hxf] at hcw
                go_quiet (fail)
                go_wp2
                go_meet
                exact ⟨_, rfl, Lib.hid (by simp [hxf]), below_drewN HB8.out _⟩
              · have hxf' : ¬ ((x : Int) = (f n : Int)) := by omega
                go_quiet (fail)
                go_wp2
                go_meet
                exact ⟨_, rfl, Lib.hid (by simp [hxf, hxf']), below_drewN HB8.out _⟩
            case rest =>
              clear HB8
              obtain ⟨b0, rfl, HB0, hb9⟩ := hcut
              have HB9 := Lib.hid hb9
              clear hb9
              go_upto_block 6 with fail
              go_cut [15, 16] (fun v u wx => v = .bool true ∧ (∃ k : Nat, u = .int .i64 k) ∧ Below w7.heap.size w7 wx)
              case first =>
                go_wp2_with fail
                go_loopw [15, 16] (fun v u wr => ∃ (b : Bool) (k : Nat), v = .bool b ∧ u = .int .i64 k ∧ k ≤ K ∧ Hid (b = true ↔ May f l2 k n x) ∧ Below w7.heap.size w7 wr) (fun _ u _ => 40 - (intOf u).toNat)
                case atStart => exact ⟨b0, 0, rfl, rfl, by omega, Lib.hid (HB0.out.trans ⟨fun h => .inl h, fun h => h.elim id (fun ⟨j, hj, _⟩ => by omega)⟩), HB9.out⟩
                case round =>
                  clear HB9 HB0
                  obtain ⟨b, k, rfl, rfl, hkK, HBM, hb⟩ := hrel
                  have HB9 := Lib.hid hb
                  clear hb
                  have hKK := HK.out
                  by_cases g1 : k < n2
                  · by_cases g2 : k < 40
                    · have hkk : k < K := by omega
                      have hat := H2.out.at_ g1
                      obtain ⟨hy, q, hq, hcl, hix⟩ := hat
                      have hcell := (HB7.out.cell hq).trans hcl
                      have hcell2 := (HB9.out.cell (cell_lt hcell)).trans hcell
                      have hcx := (HB9.out.cell (cell_lt (row0 HR7.out))).trans (row0 HR7.out)
                      have hix1 := hix c2
                      clear hix hcell
                      have HST := may_step f l2 k n x
                      generalize hyy : l2.getD k 0 = y at *
                      clear hyy
                      cases b with
                      | true =>
                        have HM1 : Hid (May f l2 (k + 1) n x) := Lib.hid (HST.1 (HBM.out.1 rfl))
                        clear HST HBM
                        go_wp2_with fail
                        go_quiet (fail)
                        go_wp2
                        go_roundw
                        case rel => exact ⟨true, k + 1, by go_num, by go_num, by omega, Lib.hid ⟨fun _ => HM1.out, fun _ => rfl⟩, below_drewN HB9.out _⟩
                        case measure => simp [intOf]; omega
                      | false =>
                        have hnm : ¬ May f l2 k n x := fun h => by have := HBM.out.2 h; cases this
                        by_cases gm : k * 3 % 8 = n
                        · have gmi : (k : Int) * 3 % 8 = (n : Int) := by omega
                          by_cases gy : y = x
                          · subst gy
                            have HM1 : Hid (May f l2 (k + 1) n y) := Lib.hid (HST.2.1 gm rfl)
                            clear HST HBM
                            go_wp2_with fail
                            go_quiet (fail)
                            go_wp2
                            go_roundw
                            case rel => exact ⟨true, k + 1, by go_num, by go_num, by omega, Lib.hid ⟨fun _ => HM1.out, fun _ => rfl⟩, below_drewN HB9.out _⟩
                            case measure => simp [intOf]; omega
                          · have HM1 : Hid (¬ May f l2 (k + 1) n x) := Lib.hid (HST.2.2 hnm (fun _ => gy))
                            clear HST HBM
                            have gyi : ((y : Int) == (x : Int)) = false := by simp; omega
                            go_wp2_with fail
                            go_quiet (fail)
                            go_wp2
                            go_roundw
                            case rel => exact ⟨false, k + 1, by first | rfl | rw [gyi] | (simp [gyi]) | (simp [gmi]), by go_num, by omega, Lib.hid ⟨(fun h => nomatch h), (fun h => absurd h HM1.out)⟩, below_drewN HB9.out _⟩
                            case measure => simp [intOf]; omega
                        · have HM1 : Hid (¬ May f l2 (k + 1) n x) := Lib.hid (HST.2.2 hnm (fun h => absurd h gm))
                          clear HST HBM
                          have gmi : ((k : Int) * 3 % 8 == (n : Int)) = false := by simp; omega
                          go_wp2_with fail
                          go_quiet (fail)
                          go_wp2
                          go_roundw
                          case rel => exact ⟨false, k + 1, by first | rfl | rw [gyi] | (simp [gyi]) | (simp [gmi]), by go_num, by omega, Lib.hid ⟨(fun h => nomatch h), (fun h => absurd h HM1.out)⟩, below_drewN HB9.out _⟩
                          case measure => simp [intOf]; omega
                    · obtain rfl : k = K := by omega
                      have hbt : b = true := HBM.out.2 HMAY.out
                      subst hbt
                      go_wp2_with fail
                      go_meet
                      exact ⟨rfl, ⟨_, rfl⟩, HB9.out⟩
                  · obtain rfl : k = K := by omega
                    have hbt : b = true := HBM.out.2 HMAY.out
                    subst hbt
                    go_wp2_with fail
                    go_meet
                    exact ⟨rfl, ⟨_, rfl⟩, HB9.out⟩
              case rest =>
                clear HB9 HB0
                obtain ⟨rfl, ⟨k, rfl⟩, hb⟩ := hcut
                have HB9 := Lib.hid hb
                clear hb
                go_wp2_with fail
                go_roundw
                case rel => exact ⟨n + 1, by go_num, by omega, HD7.out.below HB9.out, Lib.hid (HW7.out.below HB9.out), HB7.out.trans (HB9.out.mono HB7.out.size)⟩
                case measure => simp [intOf]; omega
        · go_wp2_with fail
          go_ret
          exact ⟨rfl, HB6.out⟩
theorem diskKeeps_law (a1 : Option Addr) (n1 c1 : Nat) (z1 : List Int) (a2 : Option Addr) (n2 c2 : Nat) (z2 : List Int) (a3 : Option Addr) (n3 c3 : Nat) (z3 : List Int) (w : World) (h1 : IsRow .u8 w a1 n1 c1 z1) (h2 : IsRow .u8 w a2 n2 c2 z2) (h3 : IsRow .i64 w a3 n3 c3 z3) :
    Calls Try.prog 3 #[.slice a1 n1 c1, .slice a2 n2 c2, .slice a3 n3 c3] w fun e w' => e = .returned (.bool true) ∧ Below w.heap.size w w' := by
  obtain ⟨l1, r1, _, _⟩ := row_bytes h1
  obtain ⟨l2, r2, _, _⟩ := row_bytes h2
  exact keeps_walk a1 a2 a3 n1 c1 n2 c2 n3 c3 l1 l2 _ w r1 r2 (intRow_of h3)
end Go.Proofs.Ytjobbdjeeaelkaa
