/-
  What the laws of the disk ask first: a sector of a byte; of two writes that which survives.
-/
import Derived.Test.YtnbmmlepbifciaaDiskG
namespace Go.Proofs.Ytnbmmlepbifciaa
open Go.ChangeShapes Go.WideShapes Go.ChangeAt Go.RowKit
set_option linter.unusedVariables false

/-- a sector of a byte -/
def fullL (x : Nat) : List Nat := List.replicate 512 x
theorem fullL_len (x : Nat) : (fullL x).length = 512 := List.length_replicate
theorem fullL_get (x i : Nat) (h : i < 512) : (fullL x).getD i 0 = x := by
  unfold fullL
  generalize 512 = q at *
  simp [List.getD, h]
theorem own_cell {w : World} {base n g cap k : Nat} {e : TypeId} {xs : List Value} (h : w.ownsRow base e 1 (.slice (some ⟨g, 0, none⟩) n cap) n xs) (hk : k < n) : ∃ v, w.cell? ⟨g, k, none⟩ = some v := by
  have hl := h.1
  have hc := h.cellAt k (by omega)
  rw [List.getElem?_eq_getElem (by omega)] at hc
  exact ⟨_, hc⟩
theorem set_upto {xs : List Value} {k : Nat} {v : Value} (h : ∀ j, j < k → xs[j]? = some v) (hk : k < xs.length) : ∀ j, j < k + 1 → (xs.set k v)[j]? = some v := by
  intro j hj
  by_cases e : j = k
  · subst e
    simp [hk]
  · rw [List.getElem?_set_ne (by omega)]
    exact h j (by omega)
set_option maxRecDepth 100000 in
theorem full_any (x : Nat) (hx : x < 256) (w : World) :
    Calls Try.prog 9 #[.int .u8 (x : Int)] w fun e w' => ∃ g, e = .returned (.slice (some ⟨g, 0, none⟩) 512 512) ∧ ByteRow w' (some ⟨g, 0, none⟩) 512 (fullL x) ∧ w.heap.size ≤ g ∧ Below w.heap.size w w' := by
  have hmk := make512
  have hown : Hid ((w.alloc (.cells noughts 5)).ownsRow w.heap.size 5 1 (.slice (some ⟨w.heap.size, 0, none⟩) 512 512) 512 noughts.toList) := Lib.hid (World.ownsRow_lit w noughts 512 (Nat.le_refl _) (by decide) (by unfold noughts; rw [size_madeCells]))
  generalize noughts = q at *
  go_enter Try.func9, Try.ntmps9
  go_wp2_with fail
  go_loopw [4] (fun i wr => ∃ (k : Nat) (xs : List Value), i = .int .i64 k ∧ k ≤ 512 ∧ wr.ownsRow w.heap.size 5 1 (.slice (some ⟨w.heap.size, 0, none⟩) 512 512) 512 xs ∧ Hid (∀ j, j < k → xs[j]? = some (.int .u8 (x : Int))) ∧ Below w.heap.size w wr) (fun i _ => 512 - (intOf i).toNat)
  case atStart => exact ⟨0, _, rfl, Nat.zero_le _, hown.out, Lib.hid (fun j hj => by omega), (Below.refl _ _).alloc (Nat.le_refl _) _⟩
  case round =>
    obtain ⟨k, xs, rfl, hk, ho, HX, hb⟩ := hrel
    have HO := Lib.hid ho
    have HB := Lib.hid hb
    clear ho hb hown
    by_cases g : k < 512
    · have HL : Hid (xs.length = 512) := Lib.hid (by have := HO.out.1; omega)
      obtain ⟨v, hcell⟩ := own_cell HO.out g
      have hfr := HO.out.frozenAt k
      go_wp2_with fail
      go_roundw
      case rel => exact ⟨k + 1, xs.set k (.int .u8 (x : Int)), by go_num, by omega, (HO.out.stored k _).1, Lib.hid (set_upto HX.out (by rw [HL.out]; exact g)), HB.out.setCell (p := ⟨w.heap.size, k, none⟩) (Nat.le_refl _) _⟩
      case measure => simp [intOf]; omega
    · obtain rfl : k = 512 := by omega
      go_wp2_with fail
      go_ret
      refine ⟨w.heap.size, rfl, ⟨fullL_len x, by decide, fun c hc => by rw [List.eq_of_mem_replicate hc]; exact hx, fun _ => ⟨_, _, rfl, fun i hi => ?_⟩⟩, Nat.le_refl _, HB.out⟩
      rw [Nat.zero_add, HO.out.cellAt i (by omega), HX.out i hi, fullL_get x i hi]

theorem DiskAt.lts {w : World} {F : Nat → Prop} {p : Nat} {s : DSt} (h : DiskAt w F p s) : ∀ k, F k → k < w.heap.size := by
  obtain ⟨lb, nb, lc, nc, wv, h1, h2, h3, h4, h5, h6, h7, h8, h9, h10, h11⟩ := h
  exact h11
/-- the disk stays behind what only makes memory -/
theorem DiskAt.below {w w' : World} {F : Nat → Prop} {p : Nat} {s : DSt} (h : DiskAt w F p s) (hb : Below w.heap.size w w') : DiskAt w' F p s := h.keep (Only.of_below (F := fun _ => False) hb) (fun _ _ g => g)
theorem gr_from {F : Nat → Prop} {B : Nat} {w w' : World} (hF : ∀ k, F k → B ≤ k) (hB : B ≤ w.heap.size) : ∀ k, Gr F w w' k → B ≤ k := fun k hk => by
  rcases hk with hk | hk
  · exact hF k hk
  · omega
theorem bstr_full_size (x : Nat) : (bstr (fullL x)).size = 512 := by rw [size_bstr, fullL_len]

/-- a write of a sector of a byte: the sector and the call -/
theorem writeF_ok (w : World) (F : Nat → Prop) (p : Nat) (s : DSt) (n g x : Nat) (h : DiskAt w F p s) (ho : s.off = false) (hn : n < s.L.length) (hb : ByteRow w (some ⟨g, 0, none⟩) 512 (fullL x)) (hg : ¬ F g) (B : Nat) (hF : ∀ k, F k → B ≤ k) (hB : B ≤ w.heap.size)
    (hs : 0 ≤ s.steps ∧ s.steps < 4611686018427387904) (hl : 0 ≤ s.left ∧ s.left < 4611686018427387904) (hw : s.W.length < 1000000) (hc : chgE s = 0) :
    Calls Try.prog 8 #[.pointer (some ⟨p, 0, none⟩), .int .i64 n, .slice (some ⟨g, 0, none⟩) 512 512] w fun e w' => e = .returned (.int .i64 0) ∧ ∃ F', DiskAt w' F' p (wr s n (bstr (fullL x))) ∧ (∀ k, F' k → B ≤ k) ∧ Below B w w' := by
  refine (write_ok w F p s n (some ⟨g, 0, none⟩) 512 (fullL x) h ho hn hb (fun y hy => by cases hy; exact hg) hs hl hw hc).mono ?_
  rintro e w' ⟨rfl, hd, ho⟩
  exact ⟨rfl, _, hd, gr_from hF hB, ho.below hB hF⟩

def st0 : DSt := ⟨List.replicate 1 blank, List.replicate 1 blank, [], false, 0, false, 0⟩
def st1 : DSt := wr st0 0 (bstr (fullL 1))
def st2 : DSt := settleS (fun _ => true) (chg st1)
def st3 : DSt := wr st2 0 (bstr (fullL 2))
def st4 : DSt := wr st3 0 (bstr (fullL 3))
def st5 : DSt := crashS (pkOf [1] 1) st4
theorem st5_N : st5.N.getD 0 ⟨#[]⟩ = bstr (fullL 2) ∧ st5.off = false ∧ st5.L.length = 1 := by
  have e0 : pkOf [1] 1 0 = true := by decide +kernel
  have e1 : pkOf [1] 1 1 = false := by decide +kernel
  refine ⟨?_, rfl, ?_⟩
  · unfold st5 crashS settleS st4 st3 st2 st1 st0
    generalize bstr (fullL 1) = a
    generalize bstr (fullL 2) = b
    generalize bstr (fullL 3) = c
    generalize blank = z
    simp [wr, chg, settleS, lastsK, nowK, e0, e1]
  · unfold st5 crashS settleS st4 st3 st2 st1 st0
    generalize bstr (fullL 1) = a
    generalize bstr (fullL 2) = b
    generalize bstr (fullL 3) = c
    generalize blank = z
    simp [wr, chg, settleS, lastsK, nowK, e0, e1]

theorem one_row (W : World) : IntRow (W.alloc (.cells #[.int .i64 1] 3)) (some ⟨W.heap.size, 0, none⟩) 1 [1] := by
  refine ⟨rfl, by decide, fun z hz => by simp at hz; subst hz; decide, fun _ => ⟨_, _, rfl, fun i hi => ?_⟩⟩
  have e : i = 0 := by omega
  subst e
  have e1 : (W.alloc (.cells #[.int .i64 1] 3)).heap[W.heap.size]? = some (.cells #[.int .i64 1] 3) := by
    show (W.heap.push _)[W.heap.size]? = _
    simp
  show World.cell? _ ⟨W.heap.size, 0, none⟩ = _
  simp only [World.cell?, e1]
  rfl

set_option maxRecDepth 100000 in
set_option maxHeartbeats 1000000 in
theorem lasts_any (w : World) :
    Calls Try.prog 7 #[] w fun e w' => e = .returned (.bool true) ∧ Below w.heap.size w w' := by
  go_enter Try.func7, Try.ntmps7
  go_wp2_with fail
  refine (new_any 1 w (by decide) (by decide)).mono ?_
  rintro e w1 ⟨p, rfl, hd, hb⟩
  have HD := Lib.hid hd
  have HF := Lib.hid (gr_from (F := fun _ => False) (B := w.heap.size) (w := w) (w' := w1) (fun k hk => hk.elim) (Nat.le_refl _))
  have HB := Lib.hid hb
  clear hd hb
  obtain ⟨F, hFF⟩ : ∃ F, F = Gr (fun _ => False) w w1 := ⟨_, rfl⟩
  rw [← hFF] at HD HF
  clear hFF
  go_wp2_with fail
  refine (full_any 1 (by decide) _).mono ?_
  rintro e f2 ⟨g2, rfl, hrow, hg, hb⟩
  have HD2 := Lib.hid (HD.out.below hb)
  have HR2 := Lib.hid hrow
  have HG2 : Hid (¬ F g2) := Lib.hid (fun h => by have := HD.out.lts _ h; omega)
  have HB2 := Lib.hid (HB.out.trans (hb.mono HB.out.size))
  clear hrow hg hb HD HB
  go_wp2_with fail
  refine (writeF_ok _ F p st0 0 g2 1 HD2.out rfl (by decide) HR2.out HG2.out w.heap.size HF.out HB2.out.size (by decide) (by decide) (by decide) (by decide)).mono ?_
  rintro e w2 ⟨rfl, F2, hd, hf, hb⟩
  have HD := Lib.hid (show DiskAt w2 F2 p st1 from hd)
  have HF := Lib.hid hf
  have HB := Lib.hid (HB2.out.trans hb)
  clear hd hf hb HD2 HR2 HG2 HB2
  go_wp2_with fail
  refine (barrier_ok _ F2 p st1 HD.out rfl (by decide) (by decide) (by decide)).mono ?_
  rintro e w3 ⟨rfl, hd, ho⟩
  have HB3 := Lib.hid (HB.out.trans (ho.below HB.out.size HF.out))
  have HD3 := Lib.hid (show DiskAt w3 F2 p st2 from hd)
  clear hd ho HD HB
  have HD := HD3
  have HB := HB3
  clear HD3 HB3
  go_wp2_with fail
  refine (full_any 2 (by decide) _).mono ?_
  rintro e f4 ⟨g4, rfl, hrow, hg, hb⟩
  have HD4 := Lib.hid (HD.out.below hb)
  have HR4 := Lib.hid hrow
  have HG4 : Hid (¬ F2 g4) := Lib.hid (fun h => by have := HD.out.lts _ h; omega)
  have HB4 := Lib.hid (HB.out.trans (hb.mono HB.out.size))
  clear hrow hg hb HD HB
  go_wp2_with fail
  refine (writeF_ok _ F2 p st2 0 g4 2 HD4.out rfl (by decide) HR4.out HG4.out w.heap.size HF.out HB4.out.size (by decide) (by decide) (by decide) (by decide)).mono ?_
  rintro e w4 ⟨rfl, F4, hd, hf, hb⟩
  have HD := Lib.hid (show DiskAt w4 F4 p st3 from hd)
  have HF := Lib.hid hf
  have HB := Lib.hid (HB4.out.trans hb)
  clear hd hf hb HD4 HR4 HG4 HB4
  go_wp2_with fail
  refine (full_any 3 (by decide) _).mono ?_
  rintro e f5 ⟨g5, rfl, hrow, hg, hb⟩
  have HD5 := Lib.hid (HD.out.below hb)
  have HR5 := Lib.hid hrow
  have HG5 : Hid (¬ F4 g5) := Lib.hid (fun h => by have := HD.out.lts _ h; omega)
  have HB5 := Lib.hid (HB.out.trans (hb.mono HB.out.size))
  clear hrow hg hb HD HB
  go_wp2_with fail
  refine (writeF_ok _ F4 p st3 0 g5 3 HD5.out rfl (by decide) HR5.out HG5.out w.heap.size HF.out HB5.out.size (by decide) (by decide) (by decide) (by decide)).mono ?_
  rintro e w5 ⟨rfl, F5, hd, hf, hb⟩
  have HD := Lib.hid (show DiskAt w5 F5 p st4 from hd)
  have HF := Lib.hid hf
  have HB := Lib.hid (HB5.out.trans hb)
  clear hd hf hb HD5 HR5 HG5 HB5
  go_wp2_with fail
  have HD6 := Lib.hid (HD.out.below ((Below.refl w5.heap.size w5).alloc (Nat.le_refl _) (.cells #[.int .i64 1] 3)))
  have HB6 := Lib.hid (HB.out.alloc HB.out.size (.cells #[.int .i64 1] 3))
  have HN6 : Hid (¬ F5 w5.heap.size) := Lib.hid (fun h => by have := HD.out.lts _ h; omega)
  have HZ6 := Lib.hid (one_row w5)
  refine (crash_any _ F5 p st4 HD6.out (some ⟨w5.heap.size, 0, none⟩) 1 1 [1] HZ6.out (fun x hx => by cases hx; exact HN6.out)).mono ?_
  rintro e w6 ⟨rfl, hd, ho⟩
  have HD7 := Lib.hid (show DiskAt w6 F5 p st5 from hd)
  have HB7 := Lib.hid (HB6.out.trans (ho.below HB6.out.size HF.out))
  clear hd ho HD HB HD6 HB6 HN6 HZ6
  have hread : Calls Try.prog 12 #[.pointer (some ⟨p, 0, none⟩), .int .i64 0] w6 fun e w' => ∃ g c, e = .returned (.tuple #[.slice (some ⟨g, 0, none⟩) 512 c, .int .i64 0]) ∧ ByteRow w' (some ⟨g, 0, none⟩) 512 (fullL 2) ∧ w6.heap.size ≤ g ∧ Below w6.heap.size w6 w' := by
    have h := read_ok w6 F5 p st5 0 HD7.out st5_N.2.1 (by rw [st5_N.2.2]; decide) (by rw [st5_N.1, bstr_full_size]; decide)
    rw [st5_N.1, bstr_full_size, bytesOf_bstr _ (fun c hc => by rw [List.eq_of_mem_replicate hc]; decide)] at h
    exact h
  have HRD := Lib.hid hread
  clear hread
  go_wp2_with fail
  refine HRD.out.mono ?_
  rintro e w7 ⟨g7, c7, rfl, hrow, hg, hb⟩
  have hcell : w7.cell? ⟨g7, 0, none⟩ = some (.int .u8 2) := by
    obtain ⟨b, o, e, hc⟩ := hrow.2.2.2 (by decide)
    have h := hc 0 (by decide)
    rw [fullL_get 2 0 (by decide)] at h
    injection e with e
    injection e with e1 e2 _
    subst e1 e2
    exact h
  have HB8 := Lib.hid (HB7.out.trans (hb.mono HB7.out.size))
  clear hrow hg hb
  go_wp2_with fail
  go_ret
  exact ⟨rfl, HB8.out⟩
end Go.Proofs.Ytnbmmlepbifciaa
