/-
  Texts put together: WcN.
-/
import Derived.Test.YtcmnfbpmkndfkaaDoorMgG
namespace Go.Proofs.YtcmnfbpmkndfkaaDoor
open Go.ChangeShapes Go.WideShapes Go.ChangeAt Go.RowKit Go.Deep
set_option linter.unusedVariables false
set_option maxRecDepth 100000

abbrev Tab := Cr.Tab
theorem sliceTo (a : Option Addr) (len cap m : Nat) (h1 : m ≤ cap) (hc : cap ≤ maxLen) (w : World) : (Instr.slice 34 (.slice a len cap) none (some (.int .i64 (m : Int))) none).run Tryd.prog w = .ok (.slice a m cap) w := by
  rw [run_slice_h w 34 a len cap (by kernel_rfl) .i64 (m : Int) (by omega) (by omega)]
  go_simp
theorem row_old {w : World} {a : Option Addr} {n : Nat} {l : List Nat} (h : ByteRow w a n l) (h0 : 0 < n) : ∀ x, a = some x → x.block < w.heap.size := by
  intro x hx
  obtain ⟨b, o, e, hc⟩ := h.2.2.2 h0
  rw [hx] at e
  obtain rfl := Option.some.inj e
  have := cell_lt (hc 0 h0)
  exact this
theorem new_box (w : World) (cs : Array Value) (t : TypeId) (i : Nat) (v : Value) (h : cs[i]? = some v) : (w.alloc (.cells cs t)).cell? ⟨w.heap.size, i, none⟩ = some v := by
  have := Cr.cell_new w cs t (0, 0) _ i v rfl h
  exact this
set_option maxHeartbeats 4000000 in
theorem crashes_walk (a : Option Addr) (len cap : Nat) (ts : Nat → Ent) (N : Int) (pa : Option Addr) (pl pc : Nat) (zs : List Int) (w : World) (hrow : Ents w a len ts) (hz : IntRow w pa pl zs) (hpo : 0 < pl → ∀ x, pa = some x → x.block < w.heap.size) (ht : Cr.Tab w) :
    Calls Tryd.prog 4 #[.agg #[.slice a len cap, .int .i64 N, .slice pa pl pc]] w fun e w' => e = .returned (.bool true) ∧ Below w.heap.size w w' := by
  have HT := Lib.hid ht
  have HROW := Lib.hid hrow
  have HZ := Lib.hid hz
  have HPO := Lib.hid hpo
  clear hrow hz hpo
  obtain ⟨W0, hW0⟩ : ∃ W0, W0 = w.alloc (.cells #[.slice a len cap, .int .i64 N, .slice pa pl pc] 49) := ⟨_, rfl⟩
  have hb0 : Below w.heap.size w W0 := by rw [hW0]; exact (Below.refl _ _).alloc (Nat.le_refl _) _
  have HB0 := Lib.hid hb0
  have hT0 := Cr.Tab.below ht hb0
  have HT0 := Lib.hid hT0
  have HFr := Lib.hid (fresh_c W0 hT0)
  have hs0 : w.heap.size < W0.heap.size := by rw [hW0, size_alloc']; omega
  have hx0 : W0.cell? ⟨w.heap.size, 0, none⟩ = some (.slice a len cap) := by rw [hW0]; exact new_box _ _ _ _ _ rfl
  have hx1 : W0.cell? ⟨w.heap.size, 1, none⟩ = some (.int .i64 N) := by rw [hW0]; exact new_box _ _ _ _ _ rfl
  have hx2 : W0.cell? ⟨w.heap.size, 2, none⟩ = some (.slice pa pl pc) := by rw [hW0]; exact new_box _ _ _ _ _ rfl
  have HX : Hid (∀ W, Below W0.heap.size W0 W → W.cell? ⟨w.heap.size, 0, none⟩ = some (.slice a len cap) ∧ W.cell? ⟨w.heap.size, 1, none⟩ = some (.int .i64 N) ∧ W.cell? ⟨w.heap.size, 2, none⟩ = some (.slice pa pl pc)) := Lib.hid (fun W hb => ⟨(hb.cell (p := ⟨w.heap.size, 0, none⟩) hs0).trans hx0, (hb.cell (p := ⟨w.heap.size, 1, none⟩) hs0).trans hx1, (hb.cell (p := ⟨w.heap.size, 2, none⟩) hs0).trans hx2⟩)
  have HW0 := Lib.hid hW0
  obtain ⟨q, hq40, hqe⟩ := mod_cut N 40 (by decide) (by decide)
  have HQ : Hid (wrap64 ((IntKind.u64.wrap N).tmod 40) = (q : Int)) := Lib.hid hqe
  clear ht hb0 hT0 hx0 hx1 hx2 hW0 hqe
  go_enter Tryd.func4, Tryd.ntmps4
  go_wp2_with fail
  rw [← HW0.out]
  refine HFr.out.mono ?_
  clear HFr
  rintro e w1 ⟨p, g, F, rfl, _, d, hlc, _, _⟩
  have HL1 := Lib.hid hlc
  clear hlc
  go_wp2_with (go_at_call 6; refine (logs_any _ (Cr.Tab.below HT0.out HL1.out.below)).mono ?_; rintro e w2 ⟨rfl, hb⟩; have HL2 := Lib.hid (HL1.out.to hb); obtain ⟨d0, d1, d2⟩ := HX.out _ HL2.out.below; clear hb)
  rw [HQ.out]
  refine (lc_arm HL2.out q (by omega)).mono ?_
  rintro e w3 ⟨rfl, d1', hlc3, _⟩
  have HL3 := Lib.hid hlc3
  clear hlc3 d0 d1 d2 HL2 HL1
  go_wp2_with fail
  go_loopw [4, 6, 7] (fun l h i wr => ∃ (k g : Nat) (F : Nat → Prop) (s : LSt) (d : DSt) (S : List (List Nat)), l = .pointer (some ⟨g, 0, none⟩) ∧ i = .int .i64 (k : Int) ∧ k ≤ 24 ∧ Lc W0 wr p g F s d S (17 + 20 * k) ∧ Ow wr W0.heap.size F g h S) (fun _ _ i _ => 24 - (intOf i).toNat)
  case atStart => exact ⟨0, g, F, s18, d1', [], rfl, rfl, by omega, HL3.out, ow_none _ _ _ _⟩
  case round =>
    obtain ⟨k, g, F, s, d, S, rfl, rfl, hk, hlc, how⟩ := hrel
    have HLc := Lib.hid hlc
    have HOw := Lib.hid how
    clear hlc how HL3
    obtain ⟨d0, d1, d2⟩ := HX.out _ HLc.out.below
    by_cases hlt : k < len ∧ k < 24
    · obtain ⟨hl1, hl2⟩ := hlt
      obtain ⟨b, o, hbl, c0, c1, c2, r1, hc1, hc2, hix⟩ := HROW.out.at_ hl1
      generalize ts k = t at *
      obtain ⟨what, ab, nb, cb, L, by_⟩ := t
      dsimp only at c0 c1 c2 r1 hc1 hc2
      obtain ⟨M, hM⟩ : ∃ M, M = min nb 1500 := ⟨_, rfl⟩
      have hmin : min (nb : Int) 1500 = (M : Int) := by omega
      have hM1 : M ≤ 1500 := by omega
      have hM2 : M ≤ nb := by omega
      have hM3 : M ≤ cb := by omega
      have hk24 : (k : Int) < 24 := by omega
      have hkl : (k : Int) < (len : Int) := by omega
      have hsl := fun W => sliceTo ab nb cb M hM3 hc2 W
      have HROWm := Lib.hid (row_take r1 hM2)
      have hsr := HLc.out.below.size
      have c0' := (HLc.out.below.cell (p := ⟨b, o, none⟩) (by show b < _; omega)).trans ((HB0.out.cell (p := ⟨b, o, none⟩) hbl).trans c0)
      have c1' := (HLc.out.below.cell (p := ⟨b, o + 1, none⟩) (by show b < _; omega)).trans ((HB0.out.cell (p := ⟨b, o + 1, none⟩) hbl).trans c1)
      have c2' := (HLc.out.below.cell (p := ⟨b, o + 2, none⟩) (by show b < _; omega)).trans ((HB0.out.cell (p := ⟨b, o + 2, none⟩) hbl).trans c2)
      clear c0 c1 c2 r1 hM
      go_wp2_with fail
      have hB256 := HROWm.out.2.2.1
      have HTx := Lib.hid HOw.out.1
      have hfew := HLc.out.few
      have HCv := Lib.hid (fun (W : World) (hb : Below W0.heap.size W0 W) => conv_row cb ((HROWm.out.below HB0.out).below hb))
      generalize hBB : L.take M = B at *
      have HB256 := Lib.hid hB256
      clear hB256 hBB
      obtain ⟨WB, hWB⟩ : ∃ WB, WB = wr.alloc (.cells #[.int .i64 what, .slice ab nb cb, .int .i64 by_] 36) := ⟨_, rfl⟩
      rw [← hWB]
      have HAl : Hid (Below wr.heap.size wr WB) := Lib.hid (by rw [hWB]; exact (Below.refl _ _).alloc (Nat.le_refl _) _)
      have hFl : ∀ j, F j → j < wr.heap.size := fun j hj => HLc.out.disk.lts j hj
      have hgl : g < wr.heap.size := HLc.out.log.lt
      have HBn : Hid (∀ W, Below WB.heap.size WB W → Bx W F g wr.heap.size #[.int .i64 what, .slice ab nb cb, .int .i64 by_] 36) := Lib.hid (fun W hb => by
        rw [hWB] at hb
        exact bx_new F g _ _ hb hFl hgl)
      clear hWB c0' c1' c2'
      refine wp_region_tail_lit [.has (EmptyT WB.heap.size), .is u6, .has (OwnT WB.heap.size S.length (strs (S.map bstr))), .is (.slice ab M cb), .is (.string (bstr B)), .has (OneT (bstr B))] (by kernel_rfl) (by kernel_rfl) (by kernel_rfl) (by kernel_rfl) ?_
      refine wpInvT_has _ (emptyT_stable _) ?_ ?_
      · intro W hW hF K hK
        clear hF
        have hs1 := HAl.out.size
        have hs2 := hW.undrew.size
        go_simp
        exact hK _ _ (Gl.alloc W _) ⟨W.heap.size, rfl, own_empty W _ _ (by omega)⟩
      intro v58
      simp only [Act.put, List.setIfInBounds_toArray, List.set_cons_zero, List.set_cons_succ]
      refine wpInvT_is ?_ ?_
      · (intro W hW hF K hK; clear hF; go_simp; exact hK _ _ (Gl.refl _) rfl)
      simp only [Act.put, List.setIfInBounds_toArray, List.set_cons_zero, List.set_cons_succ]
      refine wpInvT_has _ (ownT_stable _ _ _) ?_ ?_
      · intro W hW hF K hK
        obtain ⟨g0, rfl, h0⟩ := hF _ (List.mem_cons_self ..) (by kernel_rfl)
        clear hF
        have hs1 := HAl.out.size
        have hs2 := hW.undrew.size
        obtain ⟨v', W', hr, ho, hgl⟩ := run_copy_texts W 33 WB.heap.size W0.heap.size g0 u6 S h0 ((HTx.out.below HAl.out).below hW.undrew) (by omega) (by omega)
        have HO := Lib.hid ho
        have HG := Lib.hid hgl
        clear ho hgl h0
        exact step_append rfl (.tmp 58) (.tmp 59) 33 rfl rfl rfl hr (hK _ _ HG.out HO.out)
      intro v60
      simp only [Act.put, List.setIfInBounds_toArray, List.set_cons_zero, List.set_cons_succ]
      refine wpInvT_is ?_ ?_
      · (intro W hW hF K hK; clear hF; go_simp; exact hK _ _ (Gl.refl _) rfl)
      simp only [Act.put, List.setIfInBounds_toArray, List.set_cons_zero, List.set_cons_succ]
      refine wpInvT_is ?_ ?_
      · (intro W hW hF K hK; clear hF; have hcv := HCv.out W (Below.step hW.undrew (Below.step HAl.out HLc.out.below HLc.out.below.size) (Nat.le_trans HLc.out.below.size HAl.out.size)); go_simp; exact hK _ _ (Gl.refl _) rfl)
      simp only [Act.put, List.setIfInBounds_toArray, List.set_cons_zero, List.set_cons_succ]
      refine wpInvT_has _ (oneT_stable _) ?_ ?_
      · intro W hW hF K hK
        clear hF
        go_simp
        exact hK _ _ (Gl.alloc W _) ⟨W.heap.size, rfl, new_box W _ _ 0 _ rfl⟩
      intro v63
      simp only [Act.put, List.setIfInBounds_toArray, List.set_cons_zero, List.set_cons_succ]
      refine wpInvT_tail ?_
      intro W hW hF
      obtain ⟨g1, rfl, hg1⟩ := hF _ (List.mem_cons_self ..)
      have h60 := hF _ (List.mem_cons_of_mem _ (List.mem_cons_self ..))
      clear hF
      have hs1 := HAl.out.size
      have hs2 := hW.undrew.size
      obtain ⟨nv, W5, hr, htx, hbl⟩ := run_snoc_texts W 33 WB.heap.size g1 v60 S B h60 HTx.out.2.1 HB256.out hg1 (by omega) (by omega)
      have HNv := Lib.hid htx
      have HB5 : Hid (Below WB.heap.size WB W5) := Lib.hid (hW.undrew.trans hbl)
      clear htx hbl hg1 h60
      rw [TailL]
      refine step_append rfl (.tmp 60) (.tmp 63) 33 rfl rfl rfl hr ?_
      clear hr hW
      simp only [TailL]
      go_simp
      have HB5w : Hid (Below wr.heap.size wr W5) := Lib.hid (Below.step HB5.out HAl.out hs1)
      have HL5 := Lib.hid (HLc.out.to HB5w.out)
      have HOw5 : Hid (Ow W5 W0.heap.size F g u6 S) := Lib.hid (HOw.out.below HB5w.out)
      have HOn5 : Hid (Ow W5 W0.heap.size F g nv (S ++ [B])) := Lib.hid (Ow.new HNv.out (by have := HLc.out.below.size; omega) (fun j hj => by have := hFl j hj; omega) (by omega))
      have HBx5 := Lib.hid (HBn.out W5 HB5.out)
      have HRB5 : Hid (ByteRow W5 ab M B) := Lib.hid ((HROWm.out.below HB0.out).below HL5.out.below)
      have hW5 : wr.heap.size < W5.heap.size := HBx5.out.lt
      clear hs2
      have x0 : W5.cell? ⟨wr.heap.size, 0, none⟩ = some (.int .i64 what) := HBx5.out.cell 0 _ rfl
      obtain ⟨q2, hq2, hqe2⟩ := mod_cut by_ 12 (by decide) (by decide)
      have HQ2 : Hid (wrap64 ((IntKind.u64.wrap by_).tmod 12) = (q2 : Int)) := Lib.hid hqe2
      clear hqe2
      by_cases hw2 : what = 2
      · subst hw2
        have HAn := Lib.hid (answer_truncate W0 W5 p g (17 + 20 * k) F s d S HL5.out (by omega) HT0.out)
        go_wp2_with fail
        refine HAn.out.mono ?_
        clear HAn
        rintro e w6 ⟨r, F6, s6, d6, rfl, hex, han⟩
        obtain ⟨S', hS'⟩ : ∃ S', S' = ([] : List (List Nat)) := ⟨_, rfl⟩
        rw [← hS'] at han
        have HOw6 := Lib.hid (HOw5.out.ext hex)
        have hno : Ow w6 W0.heap.size F6 g (.slice none 0 0) S' := by rw [hS']; exact ow_none _ _ _ _
        have HOn6 := Lib.hid hno
        have HBx6 := Lib.hid (HBx5.out.ext hex)
        clear hex hno hS' HOw5 HOn5 HBx5 HL5 HNv HRB5 x0 HTx HCv
        rcases han with ⟨rfl, s7, h7⟩ | ⟨rfl, h7⟩ | ⟨rfl, s7, h7⟩
        · have HL7 := Lib.hid h7
          clear h7
          go_wp2_with fail
          go_roundw
          case rel => exact ⟨k + 1, g, F6, s7, d6, S', rfl, by go_num, by omega, HL7.out.more (by omega), HOn6.out⟩
          case measure => simp [intOf]; omega
        · have HL7 := Lib.hid h7
          clear h7
          go_wp2_with fail
          go_roundw
          case rel => exact ⟨k + 1, g, F6, s6, d6, S, rfl, by go_num, by omega, HL7.out.more (by omega), HOw6.out⟩
          case measure => simp [intOf]; omega
        · have HL7 := Lib.hid h7
          obtain ⟨e0, e1, e2⟩ := HX.out _ h7.below
          clear h7 d0 d1 d2
          go_wp2_with fail
          refine (lb_crash HL7.out pa pl pc zs ((HZ.out.below HB0.out).below HL7.out.below) (fun h0 x hx hF => by have := HPO.out h0 x hx; have := HL7.out.new _ hF; omega)).mono ?_
          rintro e w8 ⟨rfl, s8, d8, R8, hor, hlq, ho8⟩
          have HLq := Lib.hid hlq
          have HOr := Lib.hid hor
          have HOw8 := Lib.hid (HOw6.out.only ho8)
          have HOn8 := Lib.hid (HOn6.out.only ho8)
          have HBx8 := Lib.hid (HBx6.out.only ho8)
          clear hlq ho8 hor e0 e1 e2
          go_wp2_with fail
          refine (lq_open HLq.out HT0.out).mono ?_
          rintro e w9 ⟨rv, rfl, hr9, hl9, hb9⟩
          have HL9 := Lib.hid hl9
          have HOw9 := Lib.hid (HOw8.out.opened hb9)
          have HOn9 := Lib.hid (HOn8.out.opened hb9)
          have HBx9 := Lib.hid (HBx8.out.opened hb9)
          have hfew8 := hl9.few
          have HR9 := Lib.hid hr9
          clear hr9 hl9 hb9
          by_cases hSS : R8 = S
          · have hS := same_of HR9.out HOw9.out (by omega) (by omega)
            rw [decide_eq_true hSS] at hS
            have HS := Lib.hid hS
            have HSS := Lib.hid hSS
            clear hS hSS
            go_wp2_with fail
            refine (HS.out _ (Below.refl _ _)).mono ?_
            rintro e w10 ⟨rfl, hb10⟩
            have HB10 := Lib.hid hb10
            clear hb10
            go_wp2_with fail
            refine (HS.out _ HB10.out).mono ?_
            rintro e w11 ⟨rfl, hb11⟩
            have HB11 := Lib.hid (Below.step hb11 HB10.out HB10.out.size)
            clear hb11
            have y2 : w11.cell? ⟨wr.heap.size, 2, none⟩ = some (.int .i64 by_) := (HBx9.out.below HB11.out).cell 2 _ rfl
            go_wp2_with fail
            rw [HQ2.out]
            refine (lc_arm (HL9.out.to HB11.out) q2 (by omega)).mono ?_
            rintro e w12 ⟨rfl, d12, hl12, ho12⟩
            rw [HSS.out] at hl12
            have HL12 := Lib.hid hl12
            have HOw12 := Lib.hid ((HOw9.out.below HB11.out).only ho12)
            clear hl12 ho12 y2
            go_wp2_with fail
            go_roundw
            case rel => exact ⟨k + 1, w8.heap.size, F6, s8, d12, S, rfl, by go_num, by omega, HL12.out.more (by omega), HOw12.out⟩
            case measure => simp [intOf]; omega
          · have hS' : R8 = S' := by
              rcases HOr.out with ⟨_, e⟩ | ⟨_, e⟩
              · exact absurd e hSS
              · exact e
            have hf' : S'.length ≤ 12 := by rw [← hS']; exact hfew8
            have hS := same_of HR9.out HOw9.out (by omega) (by omega)
            rw [decide_eq_false hSS] at hS
            have HS := Lib.hid hS
            have hSn := same_of HR9.out HOn9.out (by omega) (by omega)
            rw [decide_eq_true hS'] at hSn
            have HSn := Lib.hid hSn
            have HSS := Lib.hid hS'
            clear hS hSS hSn hS'
            go_wp2_with fail
            refine (HS.out _ (Below.refl _ _)).mono ?_
            rintro e w10 ⟨rfl, hb10⟩
            have HB10 := Lib.hid hb10
            clear hb10
            go_wp2_with fail
            refine (HSn.out _ HB10.out).mono ?_
            rintro e w10b ⟨rfl, hb10b⟩
            have HB10b := Lib.hid (Below.step hb10b HB10.out HB10.out.size)
            clear hb10b
            go_wp2_with fail
            refine (HS.out _ HB10b.out).mono ?_
            rintro e w11 ⟨rfl, hb11⟩
            have HB11 := Lib.hid (Below.step hb11 HB10b.out HB10b.out.size)
            clear hb11
            have y2 : w11.cell? ⟨wr.heap.size, 2, none⟩ = some (.int .i64 by_) := (HBx9.out.below HB11.out).cell 2 _ rfl
            go_wp2_with fail
            rw [HQ2.out]
            refine (lc_arm (HL9.out.to HB11.out) q2 (by omega)).mono ?_
            rintro e w12 ⟨rfl, d12, hl12, ho12⟩
            rw [HSS.out] at hl12
            have HL12 := Lib.hid hl12
            have HOn12 := Lib.hid ((HOn9.out.below HB11.out).only ho12)
            clear hl12 ho12 y2
            go_wp2_with fail
            go_roundw
            case rel => exact ⟨k + 1, w8.heap.size, F6, s8, d12, S', rfl, by go_num, by omega, HL12.out.more (by omega), HOn12.out⟩
            case measure => simp [intOf]; omega
      · have hw2' : (what == 2) = false := by simpa using hw2
        have HAn := Lib.hid (answer_append W0 W5 p g (17 + 20 * k) M cb F ab s d S B HL5.out (by have := HRB5.out; exact this) hM3 hc2 (fun h0 x hx => by
          have h1 := row_old HROWm.out h0 x hx
          exact ⟨fun h => by have := HL5.out.new _ h; omega, fun h => by have := HL5.out.newG; omega⟩) (by omega) (by omega) HT0.out)
        go_wp2_with fail
        refine HAn.out.mono ?_
        clear HAn
        rintro e w6 ⟨r, F6, s6, d6, rfl, hex, han⟩
        obtain ⟨S', hS'⟩ : ∃ S', S' = S ++ [B] := ⟨_, rfl⟩
        rw [← hS'] at han
        have HOw6 := Lib.hid (HOw5.out.ext hex)
        have hno : Ow w6 W0.heap.size F6 g nv S' := by rw [hS']; exact HOn5.out.ext hex
        have HOn6 := Lib.hid hno
        have HBx6 := Lib.hid (HBx5.out.ext hex)
        clear hex hno hS' HOw5 HOn5 HBx5 HL5 HNv HRB5 x0 HTx HCv
        rcases han with ⟨rfl, s7, h7⟩ | ⟨rfl, h7⟩ | ⟨rfl, s7, h7⟩
        · have HL7 := Lib.hid h7
          clear h7
          go_wp2_with fail
          go_roundw
          case rel => exact ⟨k + 1, g, F6, s7, d6, S', rfl, by go_num, by omega, HL7.out.more (by omega), HOn6.out⟩
          case measure => simp [intOf]; omega
        · have HL7 := Lib.hid h7
          clear h7
          go_wp2_with fail
          go_roundw
          case rel => exact ⟨k + 1, g, F6, s6, d6, S, rfl, by go_num, by omega, HL7.out.more (by omega), HOw6.out⟩
          case measure => simp [intOf]; omega
        · have HL7 := Lib.hid h7
          obtain ⟨e0, e1, e2⟩ := HX.out _ h7.below
          clear h7 d0 d1 d2
          go_wp2_with fail
          refine (lb_crash HL7.out pa pl pc zs ((HZ.out.below HB0.out).below HL7.out.below) (fun h0 x hx hF => by have := HPO.out h0 x hx; have := HL7.out.new _ hF; omega)).mono ?_
          rintro e w8 ⟨rfl, s8, d8, R8, hor, hlq, ho8⟩
          have HLq := Lib.hid hlq
          have HOr := Lib.hid hor
          have HOw8 := Lib.hid (HOw6.out.only ho8)
          have HOn8 := Lib.hid (HOn6.out.only ho8)
          have HBx8 := Lib.hid (HBx6.out.only ho8)
          clear hlq ho8 hor e0 e1 e2
          go_wp2_with fail
          refine (lq_open HLq.out HT0.out).mono ?_
          rintro e w9 ⟨rv, rfl, hr9, hl9, hb9⟩
          have HL9 := Lib.hid hl9
          have HOw9 := Lib.hid (HOw8.out.opened hb9)
          have HOn9 := Lib.hid (HOn8.out.opened hb9)
          have HBx9 := Lib.hid (HBx8.out.opened hb9)
          have hfew8 := hl9.few
          have HR9 := Lib.hid hr9
          clear hr9 hl9 hb9
          by_cases hSS : R8 = S
          · have hS := same_of HR9.out HOw9.out (by omega) (by omega)
            rw [decide_eq_true hSS] at hS
            have HS := Lib.hid hS
            have HSS := Lib.hid hSS
            clear hS hSS
            go_wp2_with fail
            refine (HS.out _ (Below.refl _ _)).mono ?_
            rintro e w10 ⟨rfl, hb10⟩
            have HB10 := Lib.hid hb10
            clear hb10
            go_wp2_with fail
            refine (HS.out _ HB10.out).mono ?_
            rintro e w11 ⟨rfl, hb11⟩
            have HB11 := Lib.hid (Below.step hb11 HB10.out HB10.out.size)
            clear hb11
            have y2 : w11.cell? ⟨wr.heap.size, 2, none⟩ = some (.int .i64 by_) := (HBx9.out.below HB11.out).cell 2 _ rfl
            go_wp2_with fail
            rw [HQ2.out]
            refine (lc_arm (HL9.out.to HB11.out) q2 (by omega)).mono ?_
            rintro e w12 ⟨rfl, d12, hl12, ho12⟩
            rw [HSS.out] at hl12
            have HL12 := Lib.hid hl12
            have HOw12 := Lib.hid ((HOw9.out.below HB11.out).only ho12)
            clear hl12 ho12 y2
            go_wp2_with fail
            go_roundw
            case rel => exact ⟨k + 1, w8.heap.size, F6, s8, d12, S, rfl, by go_num, by omega, HL12.out.more (by omega), HOw12.out⟩
            case measure => simp [intOf]; omega
          · have hS' : R8 = S' := by
              rcases HOr.out with ⟨_, e⟩ | ⟨_, e⟩
              · exact absurd e hSS
              · exact e
            have hf' : S'.length ≤ 12 := by rw [← hS']; exact hfew8
            have hS := same_of HR9.out HOw9.out (by omega) (by omega)
            rw [decide_eq_false hSS] at hS
            have HS := Lib.hid hS
            have hSn := same_of HR9.out HOn9.out (by omega) (by omega)
            rw [decide_eq_true hS'] at hSn
            have HSn := Lib.hid hSn
            have HSS := Lib.hid hS'
            clear hS hSS hSn hS'
            go_wp2_with fail
            refine (HS.out _ (Below.refl _ _)).mono ?_
            rintro e w10 ⟨rfl, hb10⟩
            have HB10 := Lib.hid hb10
            clear hb10
            go_wp2_with fail
            refine (HSn.out _ HB10.out).mono ?_
            rintro e w10b ⟨rfl, hb10b⟩
            have HB10b := Lib.hid (Below.step hb10b HB10.out HB10.out.size)
            clear hb10b
            go_wp2_with fail
            refine (HS.out _ HB10b.out).mono ?_
            rintro e w11 ⟨rfl, hb11⟩
            have HB11 := Lib.hid (Below.step hb11 HB10b.out HB10b.out.size)
            clear hb11
            have y2 : w11.cell? ⟨wr.heap.size, 2, none⟩ = some (.int .i64 by_) := (HBx9.out.below HB11.out).cell 2 _ rfl
            go_wp2_with fail
            rw [HQ2.out]
            refine (lc_arm (HL9.out.to HB11.out) q2 (by omega)).mono ?_
            rintro e w12 ⟨rfl, d12, hl12, ho12⟩
            rw [HSS.out] at hl12
            have HL12 := Lib.hid hl12
            have HOn12 := Lib.hid ((HOn9.out.below HB11.out).only ho12)
            clear hl12 ho12 y2
            go_wp2_with fail
            go_roundw
            case rel => exact ⟨k + 1, w8.heap.size, F6, s8, d12, S', rfl, by go_num, by omega, HL12.out.more (by omega), HOn12.out⟩
            case measure => simp [intOf]; omega
    · have hlt' : ¬ k < len ∨ (k < len ∧ k = 24) := by omega
      clear hlt
      rcases hlt' with hno | ⟨hno, rfl⟩
      all_goals
        go_wp2_with fail
        refine (lc_crash HLc.out none 0 0 [] ⟨rfl, Nat.zero_le _, (fun z hz => by cases hz), (fun h => by omega)⟩ (fun h0 x hx => by cases hx)).mono ?_
        rintro e w8 ⟨rfl, d8, hlq, ho8⟩
        have HLq := Lib.hid hlq
        have HOw8 := Lib.hid (HOw.out.only ho8)
        clear hlq ho8 d0 d1 d2
        go_wp2_with fail
        refine (lq_open HLq.out HT0.out).mono ?_
        rintro e w9 ⟨rv, rfl, hr9, hl9, hb9⟩
        have hS := same_of hr9 (HOw8.out.opened hb9) (by have := hl9.few; omega) (by have := hl9.few; omega)
        rw [decide_eq_true rfl] at hS
        have HS := Lib.hid hS
        have HL9 := Lib.hid hl9
        clear hS hr9 hl9 hb9
        go_wp2_with fail
        refine (HS.out _ (Below.refl _ _)).mono ?_
        rintro e w10 ⟨rfl, hb10⟩
        have HB10 := Lib.hid hb10
        clear hb10
        go_wp2_with fail
        go_ret
        exact ⟨rfl, HB0.out.trans ((Below.step HB10.out HL9.out.below HL9.out.below.size).mono (by omega))⟩
/-- a struct's one-cell fields, as a value -/
theorem fields_val {H : Type} {enc : TypeId × Value → H} {P : Program} {w : World} {base : Nat} {spare : Nat → Bool} {held : Bool} {e : TypeId} {fs : Array Field} {fuel : Nat} {cs : List Value} {x : DataW H × List MemPlace}
    (he : P.underlying e = some (.struct fs)) (hone : ∀ (j : Nat) (f : Field), fs[j]? = some f → f.offset = j ∧ P.cellsOf f.type = 1) (hl : cs.length = fs.size) (h : DataW.trod enc P w base spare held fuel e cs = some x) (j : Nat) (f : Field) (hj : fs[j]? = some f) :
    ∃ v y n, cs[j]? = some v ∧ DataW.trod enc P w base spare held n f.type [v] = some y := by
  obtain ⟨ys, n, _, _, _, hyl, hg⟩ := DataW.trod_struct he h
  obtain ⟨ho, hk⟩ := hone j f hj
  have hjl : j < fs.size := (Array.getElem?_eq_some_iff.1 hj).1
  have hjc : j < cs.length := by omega
  have h1 := hg j f hj
  rw [ho, hk, List.drop_eq_getElem_cons hjc] at h1
  have h2 : DataW.trod enc P w base spare held n f.type [cs[j]] = ys[j]? := h1
  have hjy : j < ys.length := by omega
  rw [List.getElem?_eq_getElem hjy] at h2
  exact ⟨cs[j], ys[j], n, List.getElem?_eq_getElem hjc, h2⟩
theorem walCrashes_law {w : World} {H : Type} {enc : TypeId × Value → H} (cs : Array Value) {d : DataW H} {p : List MemPlace} (k : DataW.Trod enc Tryd.prog w 0 (fun _ => true) true 49 (.agg cs) d p) (ht : Tab w) :
    Calls Tryd.prog 4 #[.agg cs] w fun e w' => e = .returned (.bool true) ∧ Below w.heap.size w w' := by
  obtain ⟨fuel, hf0⟩ := k
  have hf : DataW.trod enc Tryd.prog w 0 (fun _ => true) true fuel 49 cs.toList = some (d, p) := hf0
  have hl3 : cs.toList.length = 3 := by
    obtain ⟨_, _, _, _, hl, _⟩ := DataW.trod_struct Tryd.underlying49 hf
    rw [hl]
    kernel_rfl
  have hF := fields_val Tryd.underlying49 (hone_of (by kernel_rfl)) (by rw [hl3]; kernel_rfl) hf
  obtain ⟨v0, y0, n0, c0, t0⟩ := hF 0 _ rfl
  obtain ⟨v1, y1, n1, c1, t1⟩ := hF 1 _ rfl
  obtain ⟨v2, y2, n2, c2, t2⟩ := hF 2 _ rfl
  have hcs : cs = #[v0, v1, v2] := by
    apply Array.ext'
    apply List.ext_getElem?
    intro i
    match i with
    | 0 => exact c0
    | 1 => exact c1
    | 2 => exact c2
    | i + 3 => rw [List.getElem?_eq_none (by omega)]; rfl
  obtain ⟨a, len, cap, rfl⟩ : ∃ a len cap, v0 = .slice a len cap := by
    rcases open_slice Tryd.underlying22 t0 with ⟨hc, _⟩ | ⟨x, l, c, m, n, D, Pl, hc, _⟩
    · exact ⟨_, _, _, by simpa using hc⟩
    · exact ⟨_, _, _, by simpa using hc⟩
  obtain ⟨ts, hts⟩ := ents_of t0
  obtain ⟨z, rfl⟩ := int_of_trod t1
  obtain ⟨pa, pl, pc, zs, rfl, hz⟩ : ∃ (pa : Option Addr) (pl pc : Nat) (zs : List Int), v2 = .slice pa pl pc ∧ Cr.IsRow .i64 w pa pl pc zs := by
    rcases open_ints Tryd.underlying47 Tryd.underlying3 (by kernel_rfl) t2 with ⟨hcs, _⟩ | ⟨x, l, c, zs, hcs, _, hl, hm, hz, _, hcell, hwz⟩
    · exact ⟨none, 0, 0, [], by simpa using hcs, .inl ⟨rfl, rfl, rfl, rfl⟩⟩
    · exact ⟨some x, l, c, zs, by simpa using hcs, .inr ⟨_, rfl, hl, hm, by simpa using hz, hcell, hwz⟩⟩
  rw [hcs]
  exact crashes_walk a len cap ts z pa pl pc (zs.take pl) w hts (intRow_of hz) (fun h0 => intRow_block (intRow_of hz) h0) ht
end Go.Proofs.YtcmnfbpmkndfkaaDoor
