/-
  The law DiskApart: a disk's image.
-/
import Derived.Test.YtnbmmlepbifciaaDiskO
import Derived.Lib.AppendStr
namespace Go.Proofs.Ytnbmmlepbifciaa
open Go.ChangeShapes Go.WideShapes Go.ChangeAt Go.RowKit Go.Deep
set_option linter.unusedVariables false

def vals (l : List Nat) : List Value := l.map fun (c : Nat) => Value.int .u8 (c : Int)
theorem vals_length (l : List Nat) : (vals l).length = l.length := List.length_map ..
theorem vals_get (l : List Nat) (i : Nat) (h : i < l.length) : (vals l)[i]? = some (.int .u8 ((l.getD i 0 : Nat) : Int)) := by
  simp [vals, List.getElem?_map, List.getElem?_eq_getElem h, List.getD]
theorem vals_append (l m : List Nat) : vals (l ++ m) = vals l ++ vals m := List.map_append
theorem strCells_vals (s : ByteArray) : Lib.strCells s = vals (bytesOf s) := by
  unfold Lib.strCells vals bytesOf
  rw [List.map_map]
  rfl
/-- the bytes of a disk -/
def img (L : List ByteArray) : List Nat := L.flatMap bytesOf
theorem img_succ (L : List ByteArray) (k : Nat) (h : k < L.length) : img (L.take (k + 1)) = img (L.take k) ++ bytesOf (L.getD k ⟨#[]⟩) := by
  unfold img
  rw [List.take_add_one, List.flatMap_append, List.getElem?_eq_getElem h, List.getD_eq_getElem?_getD, List.getElem?_eq_getElem h]
  simp
theorem img_lt (L : List ByteArray) : ∀ c ∈ img L, c < 256 := fun c hc => by
  obtain ⟨s, _, h⟩ := List.mem_flatMap.1 hc
  exact bytesOf_lt s c h
theorem img_made (w : World) (n : Nat) (hn : n ≤ maxLen) : (w.alloc (.cells (madeCells #[.int .u8 0] n) 5)).ownsRow w.heap.size 5 1 (.slice (some ⟨w.heap.size, 0, none⟩) 0 n) 0 (vals []) := by
  refine ⟨rfl, .inr ⟨w.heap.size, n, madeCells #[.int .u8 0] n, rfl, Nat.le_refl _, ?_, Nat.zero_le _, hn, ?_, rfl⟩⟩
  · show (w.heap.push _)[w.heap.size]? = _
    simp
  · simp [madeCells]
theorem byteRow_own {w : World} {base g n c : Nat} {l : List Nat} (h : w.ownsRow base 5 1 (.slice (some ⟨g, 0, none⟩) n c) n (vals l)) (hl : l.length = n) (hn : n ≤ maxLen) (h256 : ∀ c ∈ l, c < 256) : ByteRow w (some ⟨g, 0, none⟩) n l :=
  ⟨hl, hn, h256, fun _ => ⟨g, 0, rfl, fun i hi => by
    rw [Nat.zero_add, World.ownsRow.cellAt h i (by omega), vals_get l i (by omega)]⟩⟩

set_option maxRecDepth 100000 in
set_option maxHeartbeats 1000000 in
theorem image_any (w : World) (F : Nat → Prop) (p : Nat) (s : DSt) (h : DiskAt w F p s) (hn : s.L.length ≤ 65536) (hz : ∀ i, i < s.L.length → (s.L.getD i ⟨#[]⟩).size = 512) :
    Calls Try.prog 16 #[.pointer (some ⟨p, 0, none⟩)] w fun e w' => ∃ g c, e = .returned (.slice (some ⟨g, 0, none⟩) (s.L.length * 512) c) ∧ ByteRow w' (some ⟨g, 0, none⟩) (s.L.length * 512) (img s.L) ∧ w.heap.size ≤ g ∧ Below w.heap.size w w' := by
  obtain ⟨i0, hi, hz0, hz1, hz2⟩ := info_parts info5
  have hlt := h.lts
  obtain ⟨lb, nb, lc, nc, wv, c0, c1, c2, cl, cn, _, hcap, hmx, _, _, hF, _⟩ := h.rows
  have HC := Lib.hid cl
  have hlb := hlt _ hF
  generalize s.L = L at *
  obtain ⟨m, hm⟩ : ∃ m, m = L.length := ⟨_, rfl⟩
  rw [← hm] at c0 HC hn hz ⊢
  have HM := Lib.hid hm
  have HZ := Lib.hid hz
  clear c1 c2 cl cn h hlt hF hcap hmx hm hz
  have hmk : ∀ u : World, (Instr.makeSlice 22 (.int .i64 0) (.int .i64 ((m : Int) * 512))).run Try.prog u =
      .ok (.slice (some ⟨u.heap.size, 0, none⟩) 0 (m * 512)) (u.alloc (.cells (madeCells #[.int .u8 0] (m * 512)) 5)) := fun u => by
    have h := run_make (P := Try.prog) u 22 5 i0 (.int .u8 0) Try.underlying22 hi hz0 .i64 .i64 0 ((m : Int) * 512) (by omega) (by omega) (by rw [hz2]; omega) (by omega)
    have e : ((m : Int) * 512).toNat = m * 512 := by omega
    rw [e] at h
    simpa [hz1, Value.cells] using h
  have HMD := Lib.hid (img_made w (m * 512) (by unfold maxLen; omega))
  have HB0 := Lib.hid ((Below.refl w.heap.size w).alloc (Nat.le_refl _) (.cells (madeCells #[.int .u8 0] (m * 512)) 5))
  have hcp := (HB0.out.cell (cell_lt c0)).trans c0
  generalize hW : (w.alloc (.cells (madeCells #[.int .u8 0] (m * 512)) 5)) = w1 at *
  have hmk1 := hmk w
  rw [hW] at hmk1
  clear hmk
  go_enter Try.func16, Try.ntmps16
  go_wp2_with fail
  go_loopw [20, 3] (fun u v wr => ∃ k g c : Nat, u = .int .i64 k ∧ v = .slice (some ⟨g, 0, none⟩) (k * 512) c ∧ k ≤ m ∧ Hid (wr.ownsRow w.heap.size 5 1 (.slice (some ⟨g, 0, none⟩) (k * 512) c) (k * 512) (vals (img (L.take k)))) ∧ Below w.heap.size w wr) (fun u _ _ => m - (intOf u).toNat)
  case atStart => exact ⟨0, w.heap.size, m * 512, rfl, rfl, Nat.zero_le _, HMD, HB0.out⟩
  case round =>
    obtain ⟨k, g, c, rfl, rfl, hk, HO, hb⟩ := hrel
    have HB := Lib.hid hb
    clear hb
    by_cases gk : k < m
    · have hcx := (HB.out.cell (p := ⟨lb, k, none⟩) hlb).trans (HC.out k gk)
      have hk0 : (0 : Int) ≤ (k : Int) := by omega
      have hkn : (k : Int) < (m : Int) := by omega
      have hsz := HZ.out k gk
      have HI := Lib.hid (img_succ L k (by have := HM.out; omega))
      generalize L.getD k ⟨#[]⟩ = x at *
      go_wp2_with (at_builtin; refine Lib.wpList_append_own_string _ rfl (.tmp 24) (.tmp 25) 22 9 rfl w.heap.size 5 i0 Try.underlying22 Try.underlying9 hi hz0 hz1 hz2 _ (k * 512) (vals (img (L.take k))) rfl HO.out x rfl ?c3 ?c4 ?c5 ?_)
      case c3 => unfold maxLen; omega
      case c4 => omega
      case c5 => exact HB.out.size
      intro v' w2 hown hgrow hnil
      have bel : Below w.heap.size w w2 := HB.out.grown hgrow HB.out.size (fun k hk => own_base HO.out hk)
      have hown' : w2.ownsRow w.heap.size 5 1 v' ((k + 1) * 512) (vals (img (L.take (k + 1)))) := by
        rw [HI.out, vals_append, ← strCells_vals, show (k + 1) * 512 = k * 512 + 512 by omega]
        exact hown
      obtain ⟨g2, c2, rfl, hg2⟩ := own_some hown' hnil
      have HO2 := Lib.hid hown'
      have HB2 := Lib.hid bel
      clear hown hgrow hnil bel hown'
      go_wp2_with fail
      go_roundw
      case rel => exact ⟨k + 1, g2, c2, by go_num, rfl, by omega, HO2, HB2.out⟩
      case measure => simp [intOf]; omega
    · obtain rfl : k = m := by omega
      have hg := own_base HO.out (k := g) rfl
      have HR : Hid (ByteRow wr (some ⟨g, 0, none⟩) (k * 512) (img L)) := Lib.hid (by
        have h := HO.out
        rw [HM.out, List.take_length] at h
        rw [HM.out]
        have hl : (img L).length = L.length * 512 := by
          have := h.1
          rw [vals_length] at this
          omega
        exact byteRow_own h hl (by unfold maxLen; have := HM.out; omega) (img_lt L))
      go_wp2_with fail
      go_ret
      exact ⟨g, c, rfl, HR.out, hg, HB.out⟩
end Go.Proofs.Ytnbmmlepbifciaa
