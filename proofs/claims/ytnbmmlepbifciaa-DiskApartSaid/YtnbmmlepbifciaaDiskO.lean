/-
  The law DiskApart: slices.Equal on rows of texts, disk.Same.
-/
import Derived.Test.YtnbmmlepbifciaaDiskN
import Derived.BigQuiet
import Derived.Deep.RegionHeld3
namespace Go.Proofs.Ytnbmmlepbifciaa
open Go.ChangeShapes Go.WideShapes Go.ChangeAt Go.RowKit Go.Deep
set_option linter.unusedVariables false

theorem below_drewN' {B : Nat} {w w' : World} (h : Below B w w') (n : Nat) : Below B w (w'.drewN n) := ⟨h.os, h.tape, h.output, h.size, h.block⟩
theorem list_eq_of {L M : List ByteArray} (h : L.length = M.length) (k : ∀ j, j < L.length → L.getD j ⟨#[]⟩ = M.getD j ⟨#[]⟩) : L = M := by
  apply List.ext_getElem h
  intro i h1 h2
  have := k i h1
  rw [List.getD_eq_getElem?_getD, List.getD_eq_getElem?_getD, List.getElem?_eq_getElem h1, List.getElem?_eq_getElem h2] at this
  exact this
theorem texts_ne {a b : ByteArray} (h : ¬ a = b) : (a.toList == b.toList) = false := by
  rw [beq_eq_false_iff_ne, ByteArray.toList_eq, ByteArray.toList_eq]
  intro e
  exact h (ByteArray.ext (Array.toList_inj.1 e))
theorem equal_any (x y n c1 c2 : Nat) (L M : List ByteArray) (w : World) (hL : L.length = n) (hM : M.length = n) (hn : n ≤ 65536)
    (hx : ∀ i, i < n → w.cell? ⟨x, i, none⟩ = some (.string (L.getD i ⟨#[]⟩))) (hy : ∀ i, i < n → w.cell? ⟨y, i, none⟩ = some (.string (M.getD i ⟨#[]⟩))) (hxl : x < w.heap.size) (hyl : y < w.heap.size) :
    Calls Try.prog 27 #[.slice (some ⟨x, 0, none⟩) n c1, .slice (some ⟨y, 0, none⟩) n c2] w fun e w' => e = .returned (.bool (decide (L = M))) ∧ Below w.heap.size w w' := by
  have HX := Lib.hid hx
  have HY := Lib.hid hy
  have HL := Lib.hid hL
  have HM := Lib.hid hM
  clear hx hy hL hM
  go_enter Try.func27, Try.ntmps27
  go_wp2_with fail
  go_loopw [13] (fun v wr => ∃ k : Nat, v = .int .i64 k ∧ k ≤ n ∧ Hid (∀ j, j < k → L.getD j ⟨#[]⟩ = M.getD j ⟨#[]⟩) ∧ Below w.heap.size w wr) (fun v _ => n - (intOf v).toNat)
  case atStart => exact ⟨0, rfl, Nat.zero_le _, Lib.hid (fun j hj => by omega), Below.refl _ _⟩
  case round =>
    obtain ⟨k, rfl, hk, HE, hb⟩ := hrel
    have HB := Lib.hid hb
    clear hb
    by_cases gk : k < n
    · have hcx := (HB.out.cell (p := ⟨x, k, none⟩) hxl).trans (HX.out k gk)
      have hcy := (HB.out.cell (p := ⟨y, k, none⟩) hyl).trans (HY.out k gk)
      have hk0 : (0 : Int) ≤ (k : Int) := by omega
      have hkn : (k : Int) < (n : Int) := by omega
      have HST : Hid (L.getD k ⟨#[]⟩ = M.getD k ⟨#[]⟩ → ∀ j, j < k + 1 → L.getD j ⟨#[]⟩ = M.getD j ⟨#[]⟩) := Lib.hid (fun h j hj => by
        by_cases g : j = k
        · subst g
          exact h
        · exact HE.out j (by omega))
      have HNE : Hid (¬ L.getD k ⟨#[]⟩ = M.getD k ⟨#[]⟩ → decide (L = M) = false) := Lib.hid (fun h => decide_eq_false (fun e => h (by rw [e])))
      generalize L.getD k ⟨#[]⟩ = a at *
      generalize M.getD k ⟨#[]⟩ = b at *
      by_cases hab : a = b
      · subst hab
        have HS2 := Lib.hid (HST.out rfl)
        clear HST HNE
        go_wp2_with fail
        go_quiet (fail)
        go_wp2_with fail
        go_roundw
        case rel => exact ⟨k + 1, by go_num, by omega, HS2, below_drewN' HB.out _⟩
        case measure => simp [intOf]; omega
      · have HN2 := Lib.hid (HNE.out hab)
        have hbb : (a.toList == b.toList) = false := texts_ne hab
        clear HST HNE
        go_wp2_with fail
        go_quiet (fail)
        go_wp2_with fail
        go_ret
        exact ⟨ret_bool HN2.out.symm, below_drewN' HB.out _⟩
    · have HN2 : Hid (decide (L = M) = true) := Lib.hid (decide_eq_true (list_eq_of (HL.out.trans HM.out.symm) (fun j hj => HE.out j (by have := HL.out; omega))))
      go_wp2_with fail
      go_ret
      exact ⟨ret_bool HN2.out.symm, HB.out⟩
/-- on two disks of one size the same lasts -/
theorem same_any (w : World) (F G : Nat → Prop) (p q : Nat) (s t : DSt) (h : DiskAt w F p s) (k : DiskAt w G q t) (hl : t.L.length = s.L.length) (hn : s.L.length ≤ 65536) :
    Calls Try.prog 18 #[.pointer (some ⟨p, 0, none⟩), .pointer (some ⟨q, 0, none⟩)] w fun e w' => e = .returned (.bool (decide (s.L = t.L))) ∧ Below w.heap.size w w' := by
  have hlt := h.lts
  have klt := k.lts
  obtain ⟨lb, nb, lc, nc, wv, c0, c1, c2, cl, cn, _, hcap, hmx, _, _, hF, _⟩ := h.rows
  obtain ⟨lb', nb', lc', nc', wv', d0, d1, d2, dl, dn, _, dcap, dmx, _, _, hG, _⟩ := k.rows
  rw [hl] at dl d0
  have H1 : Hid (∀ W, Below w.heap.size w W → Calls Try.prog 27 #[.slice (some ⟨lb, 0, none⟩) s.L.length lc, .slice (some ⟨lb', 0, none⟩) s.L.length lc'] W fun e w' => e = .returned (.bool (decide (s.L = t.L))) ∧ Below W.heap.size W w') := Lib.hid (fun W hB => equal_any lb lb' s.L.length lc lc' s.L t.L W rfl hl hn (fun i hi => (hB.cell (p := ⟨lb, i, none⟩) (hlt _ hF)).trans (cl i hi)) (fun i hi => (hB.cell (p := ⟨lb', i, none⟩) (klt _ hG)).trans (dl i hi)) (Nat.lt_of_lt_of_le (hlt _ hF) hB.size) (Nat.lt_of_lt_of_le (klt _ hG) hB.size))
  have b0 := Below.refl w.heap.size w
  generalize decide (s.L = t.L) = B at *
  generalize s.L.length = m at *
  clear c1 c2 cl cn h hlt hF d1 d2 dl dn k klt hG hcap hmx dcap dmx
  go_enter Try.func18, Try.ntmps18
  go_wp2_with fail
  have e0 : w.drew.cell? ⟨p, 0, none⟩ = some (.slice (some ⟨lb, 0, none⟩) m lc) ∧ w.drew.cell? ⟨q, 0, none⟩ = some (.slice (some ⟨lb', 0, none⟩) m lc') := ⟨c0, d0⟩
  have HP : Hid (∀ W, Below w.heap.size w W → W.cell? ⟨p, 0, none⟩ = some (.slice (some ⟨lb, 0, none⟩) m lc) ∧ W.cell? ⟨q, 0, none⟩ = some (.slice (some ⟨lb', 0, none⟩) m lc')) := Lib.hid (fun W hB => ⟨(hB.cell (cell_lt c0)).trans c0, (hB.cell (cell_lt d0)).trans d0⟩)
  have H2 := Lib.hid (H1.out _ b0.drew)
  go_region_held3 (fun w' => w'.cell? ⟨p, 0, none⟩ = some (.slice (some ⟨lb, 0, none⟩) m lc) ∧ w'.cell? ⟨q, 0, none⟩ = some (.slice (some ⟨lb', 0, none⟩) m lc')) (first | exact e0 | exact e1)
    (first
      | (go_at_call 27; refine H2.out.mono ?_; rintro x1 w1 ⟨rfl, hb⟩; have HB := Lib.hid (b0.drew.trans (hb.mono b0.drew.size)); have e1 := HP.out _ HB.out; clear hb))
  all_goals (go_wp2_with fail; go_ret; exact ⟨rfl, HB.out⟩)
end Go.Proofs.Ytnbmmlepbifciaa
