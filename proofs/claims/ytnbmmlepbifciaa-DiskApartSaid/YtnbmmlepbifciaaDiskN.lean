/-
  The law DiskApart: a copy of a disk.
-/
import Derived.Test.YtnbmmlepbifciaaDiskL
import Derived.Test.YtnbmmlepbifciaaDiskI
namespace Go.Proofs.Ytnbmmlepbifciaa
open Go.ChangeShapes Go.WideShapes Go.ChangeAt Go.RowKit Go.Deep
set_option linter.unusedVariables false

theorem of_endL {w w1 w2 : World} {n g1 c1 g2 c2 : Nat} {L : List ByteArray} (hL : L.length = n) (hb1 : Below w.heap.size w w1) (h1 : w1.ownsRow w.heap.size 9 1 (.slice (some ⟨g1, 0, none⟩) n c1) n (strs L)) (h2 : w2.ownsRow w1.heap.size 9 1 (.slice (some ⟨g2, 0, none⟩) n c2) n (strs L)) (hb2 : Below w1.heap.size w1 w2) :
    DiskAt (w2.alloc (.cells #[.slice (some ⟨g1, 0, none⟩) n c1, .slice (some ⟨g2, 0, none⟩) n c2, .slice none 0 0, .bool false, .int .i64 0, .bool false, .int .i64 0] 57)) (Gr (fun _ => False) w (w2.alloc (.cells #[.slice (some ⟨g1, 0, none⟩) n c1, .slice (some ⟨g2, 0, none⟩) n c2, .slice none 0 0, .bool false, .int .i64 0, .bool false, .int .i64 0] 57))) w2.heap.size ⟨L, L, [], false, 0, false, 0⟩ := by
  have l1 := h1.lt g1 rfl
  have l2 := h2.lt g2 rfl
  have s1 := hb1.size
  have s2 := hb2.size
  have e : ∀ o : Obj, (w2.alloc o).heap.size = w2.heap.size + 1 := fun o => Array.size_push ..
  have el : L.length = n := hL
  unfold DiskAt
  dsimp only
  rw [el]
  refine ⟨g1, g2, c1, c2, .slice none 0 0, ?_, ?_, ?_, World.ownsRow_nil _ _ _ _, by omega, .inr ⟨by omega, by rw [e]; omega⟩, .inr ⟨by omega, by rw [e]; omega⟩, .inr ⟨by omega, by rw [e]; omega⟩, (fun g hg => by cases hg), (fun x hx => by cases hx), fun k hk => ?_⟩
  · show (w2.heap.push _)[w2.heap.size]? = _
    simp
  · refine Row.keep (w := w1) (World.ownsRow.mono h1 (Nat.zero_le _)) (fun g hg => ?_)
    cases hg
    show (w2.alloc _).heap[g1]? = w1.heap[g1]?
    rw [Below.heap_alloc w2 _ g1 (by omega)]
    exact hb2.block g1 (by omega)
  · refine Row.keep (w := w2) (World.ownsRow.mono h2 (Nat.zero_le _)) (fun g hg => ?_)
    cases hg
    exact Below.heap_alloc w2 _ g2 (by omega)
  · rcases hk with hk | hk
    · exact hk.elim
    · exact hk.2
theorem of_gen (x n cap : Nat) (L : List ByteArray) (w : World) (hL : L.length = n) (hn : n ≤ 65536) (hcl : ∀ i, i < n → w.cell? ⟨x, i, none⟩ = some (.string (L.getD i ⟨#[]⟩))) (hx : x < w.heap.size) :
    Calls Try.prog 19 #[.slice (some ⟨x, 0, none⟩) n cap] w fun e w' => ∃ p, e = .returned (.pointer (some ⟨p, 0, none⟩)) ∧ DiskAt w' (Gr (fun _ => False) w w') p ⟨L, L, [], false, 0, false, 0⟩ ∧ Below w.heap.size w w' := by
  have H1 := Lib.hid (cloneS_any x n cap L w hL hn hcl hx)
  have H2 : Hid (∀ W, Below w.heap.size w W → Calls Try.prog 28 #[.slice (some ⟨x, 0, none⟩) n cap] W fun e w' => ∃ g c, e = .returned (.slice (some ⟨g, 0, none⟩) n c) ∧ w'.ownsRow W.heap.size 9 1 (.slice (some ⟨g, 0, none⟩) n c) n (strs L) ∧ W.heap.size ≤ g ∧ Below W.heap.size W w') := Lib.hid (fun W hB => cloneS_any x n cap L W hL hn (fun i hi => (hB.cell (p := ⟨x, i, none⟩) hx).trans (hcl i hi)) (Nat.lt_of_lt_of_le hx hB.size))
  clear hcl
  go_enter Try.func19, Try.ntmps19
  go_wp2_with fail
  refine H1.out.mono ?_
  rintro e w1 ⟨g1, c1, rfl, ho1, hg1, hb1⟩
  have HO1 := Lib.hid ho1
  have HB1 := Lib.hid hb1
  clear ho1 hb1
  go_wp2_with fail
  refine (H2.out _ HB1.out).mono ?_
  rintro e w2 ⟨g2, c2, rfl, ho2, hg2, hb2⟩
  have HO2 := Lib.hid ho2
  have HB2 := Lib.hid hb2
  clear ho2 hb2
  go_wp2_with fail
  go_ret
  exact ⟨_, rfl, of_endL hL HB1.out HO1.out HO2.out HB2.out, (HB1.out.trans (HB2.out.mono HB1.out.size)).alloc (Nat.le_trans HB1.out.size HB2.out.size) _⟩


theorem copy_any (w : World) (F : Nat → Prop) (p : Nat) (s : DSt) (h : DiskAt w F p s) (hn : s.L.length ≤ 65536) :
    Calls Try.prog 17 #[.pointer (some ⟨p, 0, none⟩)] w fun e w' => ∃ q, e = .returned (.pointer (some ⟨q, 0, none⟩)) ∧ DiskAt w' (Gr (fun _ => False) w w') q ⟨s.L, s.L, [], false, 0, false, 0⟩ ∧ Below w.heap.size w w' := by
  have hlt := h.lts
  obtain ⟨lb, nb, lc, nc, wv, c0, c1, c2, cl, cn, hl, hcap, hmx, _, _, hF, _⟩ := h.rows
  have H1 := Lib.hid (of_gen lb s.L.length lc s.L w rfl hn cl (hlt _ hF))
  generalize s.L.length = m at *
  clear c1 c2 cl cn h hlt hF
  go_enter Try.func17, Try.ntmps17
  go_wp2_with fail
  refine H1.out.mono ?_
  rintro e w1 ⟨q, rfl, hd, hb⟩
  have HD := Lib.hid hd
  have HB := Lib.hid hb
  clear hd hb
  go_wp2_with fail
  go_ret
  exact ⟨q, rfl, HD.out, HB.out⟩
end Go.Proofs.Ytnbmmlepbifciaa
