/-
  The disk that is new: slices.Clone, slices.Repeat, of, New.
-/
import Derived.Test.YtnbmmlepbifciaaDiskF
import Derived.Laws.BitsAllLaws
import Derived.Deep.OwnRows
import Derived.Laws.CopyOwn
import Derived.Deep.Onto
namespace Go.Proofs.Ytnbmmlepbifciaa
open Go.ChangeShapes Go.WideShapes Go.ChangeAt Go.RowKit
set_option linter.unusedVariables false

theorem info9 : (Try.prog.info? 9).map (fun i => (i.zero, i.size, i.bytes)) = some (some (.string ⟨#[]⟩), 1, 16) := by kernel_rfl
theorem strs_length (L : List ByteArray) : (strs L).length = L.length := List.length_map ..
theorem strs_get (L : List ByteArray) (i : Nat) (h : i < L.length) : (strs L)[i]? = some (.string (L.getD i ⟨#[]⟩)) := by
  simp [strs, List.getElem?_map, List.getElem?_eq_getElem h, List.getD]
theorem strs_one (L : List ByteArray) : ∀ u ∈ strs L, u.oneCell' = true := by
  intro u hu
  obtain ⟨c, _, rfl⟩ := List.mem_map.1 hu
  rfl
theorem own_empty (W : World) (e : TypeId) (base : Nat) (hb : base ≤ W.heap.size) : (W.alloc (.cells #[] e)).ownsRow base e 1 (.slice (some ⟨W.heap.size, 0, none⟩) 0 0) 0 [] := by
  refine ⟨rfl, .inr ⟨W.heap.size, 0, #[], rfl, hb, ?_, Nat.le_refl _, Nat.zero_le _, rfl, rfl⟩⟩
  show (W.heap.push _)[W.heap.size]? = _
  simp
theorem own_some {w : World} {base n : Nat} {e : TypeId} {v : Value} {xs : List Value} (h : w.ownsRow base e 1 v n xs) (hv : v ≠ .slice none 0 0) :
    ∃ g cap, v = .slice (some ⟨g, 0, none⟩) n cap ∧ base ≤ g := by
  rcases h.2 with ⟨h2, _⟩ | ⟨g, cap, cur, rfl, hb, r⟩
  · exact absurd h2 hv
  · exact ⟨g, cap, rfl, hb⟩
theorem own_base {w : World} {base n size : Nat} {e : TypeId} {v : Value} {xs : List Value} (h : w.ownsRow base e size v n xs) {k : Nat} (hk : v.ownBlock = some k) : base ≤ k := (h.lt k hk).1

set_option maxRecDepth 100000 in
theorem cloneS_any (x n cap : Nat) (L : List ByteArray) (w : World) (hL : L.length = n) (hn : n ≤ 65536) (hc : ∀ i, i < n → w.cell? ⟨x, i, none⟩ = some (.string (L.getD i ⟨#[]⟩))) (hx : x < w.heap.size) :
    Calls Try.prog 28 #[.slice (some ⟨x, 0, none⟩) n cap] w fun e w' => ∃ g c, e = .returned (.slice (some ⟨g, 0, none⟩) n c) ∧ w'.ownsRow w.heap.size 9 1 (.slice (some ⟨g, 0, none⟩) n c) n (strs L) ∧ w.heap.size ≤ g ∧ Below w.heap.size w w' := by
  obtain ⟨i0, hi, hz0, hz1, hz2⟩ := info_parts info9
  have hne : ∀ W, (binOp .eql 50 (.slice (some ⟨x, 0, none⟩) n cap) (.slice none 0 0)).run Try.prog W = .ok (.bool false) W := fun _ => rfl
  have hsrc : Hid (∀ (j : Nat) (u : Value), (strs L)[j]? = some u → (w.alloc (.cells #[] 9)).cell? ((⟨x, 0, none⟩ : Addr).add j) = some u) := Lib.hid (by
    intro j u hj
    have hj2 : j < L.length := by
      rcases Nat.lt_or_ge j L.length with h | h
      · exact h
      · rw [List.getElem?_eq_none (by rw [strs_length]; exact h)] at hj
        cases hj
    rw [strs_get L j hj2] at hj
    rw [add_plain, Nat.zero_add, World.cell?_alloc_lt w _ ⟨x, j, none⟩ hx, hc j (by omega)]
    exact hj)
  clear hc
  subst hL
  go_enter Try.func28, Try.ntmps28
  go_wp2_with (at_builtin; refine wpList_append_own _ rfl (.tmp 5) (.tmp 6) 50 rfl w.heap.size 9 i0 (.string ⟨#[]⟩) 1 16 Try.underlying50 hi hz0 hz1 hz2 rfl (by decide) _ 0 [] rfl (own_empty w _ _ (Nat.le_refl _)) ⟨x, 0, none⟩ L.length cap (strs L) rfl ?c1 ?c2 ?c3 ?c4 ?c5 ?c6 ?_)
  case c1 => rw [strs_length, Nat.mul_one]
  case c2 => exact hsrc.out
  case c3 => exact strs_one _
  case c4 => unfold maxLen; omega
  case c5 => omega
  case c6 => simp
  intro v' w1 hown hgrow hnil
  have bel : Below w.heap.size w w1 := ((Below.refl w.heap.size w).alloc (Nat.le_refl _) _).grown hgrow (by simp) (fun k hk => by cases hk; exact Nat.le_refl _)
  have hn2 : v' ≠ .slice none 0 0 := by simpa using hnil
  have hown' : w1.ownsRow w.heap.size 9 1 v' L.length (strs L) := by simpa using hown
  obtain ⟨g, c, rfl, hg⟩ := own_some hown' hn2
  have HO := Lib.hid hown'
  have HB := Lib.hid bel
  clear hown hgrow hnil bel hn2 hown'
  go_wp2_with fail
  go_ret
  exact ⟨g, c, rfl, HO.out, hg, HB.out⟩

theorem and32 (n : Nat) (h : n < 4294967296) : bits .and .u64 (n : Int) 4294967295 = (n : Int) := by
  have h2 := u64_and_nat n 4294967295 (by omega) (by decide)
  rw [show n &&& 4294967295 = n % 4294967296 from Nat.and_two_pow_sub_one_eq_mod n 32, Nat.mod_eq_of_lt h] at h2
  exact h2
theorem mul_any (n : Nat) (hn : n ≤ 65536) (w : World) :
    Calls Try.prog 29 #[.int .u64 1, .int .u64 (n : Int)] w fun e w' => e = .returned (.tuple #[.int .u64 0, .int .u64 (n : Int)]) ∧ w = w' := by
  have h1 := and32 n (by omega)
  have h2 : bits .and .u64 1 4294967295 = 1 := and32 1 (by decide)
  have h3 : bits .and .u64 0 4294967295 = 0 := and32 0 (by decide)
  have h4 : (n : Int) / 4294967296 = 0 := by omega
  go_enter Try.func29, Try.ntmps29
  go_wp2
  go_ret2
  exact ⟨rfl, rfl⟩

/-- a row that is filled up to a place -/
def filled (z : ByteArray) (n m : Nat) : List Value := List.replicate m (.string z) ++ List.replicate (n - m) (.string ⟨#[]⟩)
theorem filled_len (z : ByteArray) (n m : Nat) (h : m ≤ n) : (filled z n m).length = n := by unfold filled; simp; omega
theorem filled_splice (z : ByteArray) (n m c : Nat) (h : m + c ≤ n) : splice (filled z n m) m (List.replicate c (.string z)) = filled z n (m + c) := by
  unfold splice filled
  have e1 : (List.replicate m (Value.string z) ++ List.replicate (n - m) (Value.string ⟨#[]⟩)).take m = List.replicate m (Value.string z) := by
    rw [List.take_append_of_le_length (by simp), List.take_of_length_le (by simp)]
  have e2 : (List.replicate m (Value.string z) ++ List.replicate (n - m) (Value.string ⟨#[]⟩)).drop (m + (List.replicate c (Value.string z)).length) = List.replicate (n - (m + c)) (Value.string ⟨#[]⟩) := by
    rw [List.drop_append, List.drop_of_length_le (by simp), List.nil_append, List.length_replicate, List.length_replicate, List.drop_replicate]
    congr 1
    omega
  rw [e1, e2, ← List.append_assoc, List.replicate_append_replicate]
theorem filled_zero (z : ByteArray) (n : Nat) : (filled z n 0).toArray = madeCells #[.string ⟨#[]⟩] n := by
  unfold filled
  apply Array.ext
  · simp [size_madeCells]
  · intro i h1 h2
    simp [madeCells, Nat.mod_one]
theorem filled_full (z : ByteArray) (n : Nat) : filled z n n = strs (List.replicate n z) := by
  unfold filled strs
  simp
theorem filled_at (z : ByteArray) (n m j : Nat) (h : j < m) : (filled z n m)[j]? = some (.string z) := by
  unfold filled
  rw [List.getElem?_append_left (by simpa using h)]
  simp [h]
theorem rep_get (z : ByteArray) (c j : Nat) (v : Value) (h : (List.replicate c (Value.string z))[j]? = some v) : j < c ∧ v = .string z := by
  rw [List.getElem?_replicate] at h
  split at h
  · injection h with h
    exact ⟨by assumption, h.symm⟩
  · cases h
theorem rep_one (z : ByteArray) (c : Nat) : ∀ v ∈ List.replicate c (Value.string z), v.oneCell' = true := by
  intro v hv
  rw [List.eq_of_mem_replicate hv]
  rfl
theorem slice_toS (a : Option Addr) (m cap k : Nat) (hk : k ≤ cap) (w : World) : (Instr.slice 50 (.slice a m cap) none (some (.int .i64 (k : Int))) none).run Try.prog w = .ok (.slice a k cap) w := by
  rw [run_slice_h w 50 a m cap (by kernel_rfl) .i64 (k : Int) (by omega) (by omega)]
  go_simp
theorem slice_fromS (g m cap k : Nat) (hk : k ≤ m) (hc : k < cap) (w : World) : (Instr.slice 50 (.slice (some ⟨g, 0, none⟩) m cap) (some (.int .i64 (k : Int))) none none).run Try.prog w = .ok (.slice (some ⟨g, k, none⟩) (m - k) (cap - k)) w := by
  rw [run_slice_l w 50 (some ⟨g, 0, none⟩) m cap (by kernel_rfl) .i64 (k : Int) (by omega) (by omega)]
  have hne : ¬ cap = k := by omega
  go_simp

set_option maxRecDepth 100000 in
set_option maxHeartbeats 600000 in
theorem repeat_any (b n : Nat) (z : ByteArray) (w : World) (h1 : 1 ≤ n) (hn : n ≤ 65536) (hc : w.cell? ⟨b, 0, none⟩ = some (.string z)) :
    Calls Try.prog 20 #[.slice (some ⟨b, 0, none⟩) 1 1, .int .i64 (n : Int)] w fun e w' => ∃ g, e = .returned (.slice (some ⟨g, 0, none⟩) n n) ∧ (∀ i, i < n → w'.cell? ⟨g, i, none⟩ = some (.string z)) ∧ w.heap.size ≤ g ∧ g < w'.heap.size ∧ Below w.heap.size w w' := by
  have hmk := run_make_row' (P := Try.prog) 50 9 (.string ⟨#[]⟩) 16 Try.underlying50 info9 rfl .i64 .i64 n (by omega) (by omega)
  have hb := cell_lt hc
  have HC := Lib.hid hc
  clear hc
  have hr0 : Hid ((w.alloc (.cells (madeCells #[.string ⟨#[]⟩] n) 9)).heap[w.heap.size]? = some (.cells (filled z n 0).toArray 9 (0, 0))) := Lib.hid (by
    rw [filled_zero]
    show (w.heap.push _)[w.heap.size]? = _
    simp)
  have hsrc0 : Hid (∀ j v, [Value.string z][j]? = some v → (w.alloc (.cells (madeCells #[.string ⟨#[]⟩] n) 9)).cell? ((⟨b, 0, none⟩ : Addr).add j) = some v) := Lib.hid (by
    intro j v hj
    match j, hj with
    | 0, hj =>
      rw [add_plain, World.cell?_alloc_lt w _ ⟨b, 0 + 0, none⟩ hb]
      simp at hj
      subst hj
      exact HC.out)
  go_enter Try.func20, Try.ntmps20
  go_wp2_with (first
    | (go_at_call 29; refine (mul_any n hn _).mono ?_; rintro e w' ⟨rfl, rfl⟩)
    | (with_reducible refine wpList_copy_splice rfl (.tmp 31) (.tmp 32) 50 50 rfl 9 Try.underlying50 (by kernel_rfl) (some ⟨w.heap.size, 0, none⟩) (some ⟨b, 0, none⟩) n n 1 1 rfl rfl w.heap.size 0 (filled z n 0) 9 hr0.out [.string z] ?q1 ?q2 ?q3 ?q4 w.heap.size w ?q5 (Nat.le_refl _) ?_))
  case q1 => show 1 = min 1 n; omega
  case q2 =>
    intro j v hj
    match j, hj with
    | 0, hj =>
      simp at hj
      subst hj
      exact HC.out
  case q3 => rw [filled_len z n 0 (by omega)]; simp; omega
  case q4 => exact fun v hv => by simp at hv; subst hv; rfl
  case q5 => exact (Below.refl w.heap.size w).alloc (Nat.le_refl _) _
  intro w1 hrow hbel
  have HB1 := Lib.hid hbel
  have HR1 : Hid (w1.heap[w.heap.size]? = some (.cells (filled z n 1).toArray 9 (0, 0))) := Lib.hid (by have h := hrow.out; rw [show [Value.string z] = List.replicate 1 (Value.string z) from rfl, filled_splice z n 0 1 (by omega)] at h; exact h)
  clear hrow hbel hr0 hsrc0
  go_wp2_with fail
  go_loopw [8] (fun c wr => ∃ m : Nat, c = .int .i64 m ∧ 1 ≤ m ∧ m ≤ n ∧ wr.heap[w.heap.size]? = some (.cells (filled z n m).toArray 9 (0, 0)) ∧ Below w.heap.size w wr) (fun c _ => n - (intOf c).toNat)
  case atStart => exact ⟨1, rfl, Nat.le_refl _, h1, HR1.out, HB1.out⟩
  case round =>
    obtain ⟨m, rfl, hm1, hmn, hrow, hbel⟩ := hrel
    have HR2 := Lib.hid hrow
    have HB2 := Lib.hid hbel
    clear hrow hbel HR1 HB1
    by_cases g : m < n
    · have s1 := fun W => slice_toS (some ⟨w.heap.size, 0, none⟩) n n m (by omega) W
      have s2 := fun W => slice_fromS w.heap.size n n m (by omega) g W
      obtain ⟨c, hcc⟩ : ∃ c, c = min m (n - m) := ⟨_, rfl⟩
      have hc1 : 1 ≤ c := by omega
      have hc2 : m + c ≤ n := by omega
      have HCC := Lib.hid hcc
      clear hcc
      have hsrc : Hid (∀ j v, (List.replicate c (Value.string z))[j]? = some v → wr.cell? ((⟨w.heap.size, 0, none⟩ : Addr).add j) = some v) := Lib.hid (by
        intro j v hj
        obtain ⟨hjc, rfl⟩ := rep_get z c j v hj
        rw [add_plain, Nat.zero_add]
        have hat := filled_at z n m j (by have := HCC.out; omega)
        simp only [World.cell?, HR2.out]
        simpa using hat)
      have HRD : Hid (wr.drew.heap[w.heap.size]? = some (.cells (filled z n m).toArray 9 (0, 0))) := HR2
      have HSD : Hid (∀ j v, (List.replicate c (Value.string z))[j]? = some v → wr.drew.cell? ((⟨w.heap.size, 0, none⟩ : Addr).add j) = some v) := hsrc
      have Q1 : Hid ((List.replicate c (Value.string z)).length = Nat.min m (n - m)) := Lib.hid (by rw [List.length_replicate, HCC.out])
      have Q2 : Hid (m + (List.replicate c (Value.string z)).length ≤ (filled z n m).length) := Lib.hid (by rw [filled_len z n m (by omega), List.length_replicate]; exact hc2)
      have Q3 := Lib.hid (rep_one z c)
      have Q4 := Lib.hid HB2.out.drew
      go_wp2_with fail
      go_region_law (refine step_copy_splice (by rfl) (.tmp 41) (.tmp 44) 50 50 (by rfl) 9 Try.underlying50 (by kernel_rfl) (some ⟨w.heap.size, m, none⟩) (some ⟨w.heap.size, 0, none⟩) (n - m) (n - m) m n (by simp [Act.eval, Act.put]) (by simp [Act.eval, Act.put]) w.heap.size m (filled z n m) 9 HRD.out (List.replicate c (.string z)) Q1.out (fun _ => ⟨rfl, _, rfl, HSD.out⟩) Q2.out Q3.out w.heap.size w Q4.out (Nat.le_refl _) ?_; intro w4 hg4 hb4)
      have HG4 : Hid (w4.heap[w.heap.size]? = some (.cells (filled z n (m + c)).toArray 9 (0, 0))) := Lib.hid (by have h := hg4.out; rw [filled_splice z n m c hc2] at h; exact h)
      have HB4 := Lib.hid hb4
      clear hg4 hb4
      go_simp
      have hwr : IntKind.i64.wrap ((m : Int) + (c : Int)) = ((m + c : Nat) : Int) := by rw [IntKind.wrap_i64]; omega
      rw [hwr]
      go_roundw
      case rel => (repeat apply Exists.intro); exact ⟨⟨m + c, rfl, by omega, hc2, HG4.out, HB4.out⟩, rfl⟩
      case measure => simp [intOf]; omega
    · obtain rfl : m = n := by omega
      go_wp2_with fail
      go_ret
      refine ⟨w.heap.size, rfl, fun i hi => ?_, Nat.le_refl _, ?_, HB2.out⟩
      · have hat := filled_at z m m i hi
        simp only [World.cell?, HR2.out]
        simpa using hat
      · rcases Nat.lt_or_ge w.heap.size wr.heap.size with h | h
        · exact h
        · have := HR2.out
          rw [Array.getElem?_eq_none h] at this
          cases this

/-- a sector of noughts -/
def blank : ByteArray := bstr (List.replicate 512 0)
theorem blank_size : blank.size = 512 := by unfold blank; rw [size_bstr, List.length_replicate]
/-- the cells of one that is new -/
def noughts : Array Value := madeCells #[.int .u8 0] 512
theorem info5 : (Try.prog.info? 5).map (fun i => (i.zero, i.size, i.bytes)) = some (some (.int .u8 0), 1, 1) := by kernel_rfl
theorem noughts_row (W : World) : ByteRow (W.alloc (.cells noughts 5)) (some ⟨W.heap.size, 0, none⟩) 512 (List.replicate 512 0) := by
  refine ⟨List.length_replicate, by decide, fun c hc => by rw [List.eq_of_mem_replicate hc]; decide, fun _ => ⟨_, _, rfl, fun i hi => ?_⟩⟩
  have e1 : (W.alloc (.cells noughts 5)).heap[W.heap.size]? = some (.cells noughts 5) := by
    show (W.heap.push _)[W.heap.size]? = _
    simp
  rw [Nat.zero_add]
  simp only [World.cell?, e1]
  unfold noughts
  generalize 512 = q at *
  simp [madeCells, hi, Nat.mod_one, List.getD]
theorem make512 (W : World) : (Instr.makeSlice 22 (.int .i64 512) (.int .i64 512)).run Try.prog W = .ok (.slice (some ⟨W.heap.size, 0, none⟩) 512 512) (W.alloc (.cells noughts 5)) :=
  run_make_row' (P := Try.prog) 22 5 (.int .u8 0) 1 Try.underlying22 info5 rfl .i64 .i64 512 (by decide) (by decide) W

theorem of_end {w w1 w2 : World} {n g1 c1 g2 c2 : Nat} {z : ByteArray} (hb1 : Below w.heap.size w w1) (h1 : w1.ownsRow w.heap.size 9 1 (.slice (some ⟨g1, 0, none⟩) n c1) n (strs (List.replicate n z))) (h2 : w2.ownsRow w1.heap.size 9 1 (.slice (some ⟨g2, 0, none⟩) n c2) n (strs (List.replicate n z))) (hb2 : Below w1.heap.size w1 w2) :
    DiskAt (w2.alloc (.cells #[.slice (some ⟨g1, 0, none⟩) n c1, .slice (some ⟨g2, 0, none⟩) n c2, .slice none 0 0, .bool false, .int .i64 0, .bool false, .int .i64 0] 57)) (Gr (fun _ => False) w (w2.alloc (.cells #[.slice (some ⟨g1, 0, none⟩) n c1, .slice (some ⟨g2, 0, none⟩) n c2, .slice none 0 0, .bool false, .int .i64 0, .bool false, .int .i64 0] 57))) w2.heap.size ⟨List.replicate n z, List.replicate n z, [], false, 0, false, 0⟩ := by
  have l1 := h1.lt g1 rfl
  have l2 := h2.lt g2 rfl
  have s1 := hb1.size
  have s2 := hb2.size
  have e : ∀ o : Obj, (w2.alloc o).heap.size = w2.heap.size + 1 := fun o => Array.size_push ..
  have el : (List.replicate n z).length = n := List.length_replicate
  unfold DiskAt
  dsimp only
  rw [el]
  refine ⟨g1, g2, c1, c2, .slice none 0 0, ?_, ?_, ?_, World.ownsRow_nil _ _ _ _, by omega, .inr ⟨by omega, by rw [e]; omega⟩, .inr ⟨by omega, by rw [e]; omega⟩, .inr ⟨by omega, by rw [e]; omega⟩, (fun g hg => by cases hg), (fun x hx => by cases hx), fun k hk => ?_⟩
  · show (w2.heap.push _)[w2.heap.size]? = _
    simp
  · refine Row.keep (w := w1) (World.ownsRow.mono h1 (Nat.zero_le _)) (fun g hg => ?_)
    cases hg
    show (w2.alloc _).heap[g1]? = w1.heap[g1]?
    rw [Below.heap_alloc w2 _ g1 (by omega)]
    exact hb2.block g1 (by omega)
  · refine Row.keep (w := w2) (World.ownsRow.mono h2 (Nat.zero_le _)) (fun g hg => ?_)
    cases hg
    exact Below.heap_alloc w2 _ g2 (by omega)
  · rcases hk with hk | hk
    · exact hk.elim
    · exact hk.2
theorem of_any (x n : Nat) (z : ByteArray) (w : World) (h1 : 1 ≤ n) (hn : n ≤ 65536) (hc : ∀ i, i < n → w.cell? ⟨x, i, none⟩ = some (.string z)) (hx : x < w.heap.size) :
    Calls Try.prog 19 #[.slice (some ⟨x, 0, none⟩) n n] w fun e w' => ∃ p, e = .returned (.pointer (some ⟨p, 0, none⟩)) ∧ DiskAt w' (Gr (fun _ => False) w w') p ⟨List.replicate n z, List.replicate n z, [], false, 0, false, 0⟩ ∧ Below w.heap.size w w' := by
  have hcl : ∀ i, i < n → w.cell? ⟨x, i, none⟩ = some (.string ((List.replicate n z).getD i ⟨#[]⟩)) := fun i hi => by rw [hc i hi]; simp [List.getD, hi]
  have H1 := Lib.hid (cloneS_any x n n (List.replicate n z) w List.length_replicate hn hcl hx)
  have H2 : Hid (∀ W, Below w.heap.size w W → Calls Try.prog 28 #[.slice (some ⟨x, 0, none⟩) n n] W fun e w' => ∃ g c, e = .returned (.slice (some ⟨g, 0, none⟩) n c) ∧ w'.ownsRow W.heap.size 9 1 (.slice (some ⟨g, 0, none⟩) n c) n (strs (List.replicate n z)) ∧ W.heap.size ≤ g ∧ Below W.heap.size W w') := Lib.hid (fun W hB => cloneS_any x n n (List.replicate n z) W List.length_replicate hn (fun i hi => (hB.cell (p := ⟨x, i, none⟩) hx).trans (hcl i hi)) (Nat.lt_of_lt_of_le hx hB.size))
  clear hc hcl
  go_enter Try.func19, Try.ntmps19
  go_wp2_with fail
  refine H1.out.mono ?_
  rintro e w1 ⟨g1, c1, rfl, ho1, hg1, hb1⟩
  have HO1 := Lib.hid ho1
  have HB1 := Lib.hid hb1
  clear ho1 hb1
  go_wp2_with fail
  refine (H2.out _ HB1.out).mono ?_
  rintro e w2 ⟨g2, c2, rfl, ho2, hg2, hb2⟩
  have HO2 := Lib.hid ho2
  have HB2 := Lib.hid hb2
  clear ho2 hb2
  go_wp2_with fail
  go_ret
  exact ⟨_, rfl, of_end HB1.out HO1.out HO2.out HB2.out, (HB1.out.trans (HB2.out.mono HB1.out.size)).alloc (Nat.le_trans HB1.out.size HB2.out.size) _⟩

set_option maxRecDepth 100000 in
theorem new_any (n : Nat) (w : World) (h1 : 1 ≤ n) (hn : n ≤ 65536) :
    Calls Try.prog 6 #[.int .i64 (n : Int)] w fun e w' => ∃ p, e = .returned (.tuple #[.pointer (some ⟨p, 0, none⟩), .int .i64 0]) ∧ DiskAt w' (Gr (fun _ => False) w w') p ⟨List.replicate n blank, List.replicate n blank, [], false, 0, false, 0⟩ ∧ Below w.heap.size w w' := by
  have hmk := make512
  have hcv : ∀ W : World, (convert 22 9 (.slice (some ⟨W.heap.size, 0, none⟩) 512 512)).run Try.prog (W.alloc (.cells noughts 5)) = .ok (.string blank) (W.alloc (.cells noughts 5)) := fun W => conv_row 512 (noughts_row W)
  generalize hz : blank = z at *
  have HZ := Lib.hid hz
  clear hz
  generalize noughts = q at *
  go_enter Try.func6, Try.ntmps6
  go_wp2_with fail
  refine (repeat_any _ n z _ h1 hn ?_).mono ?_
  · go_simp
  rintro e w1 ⟨g, rfl, hc, hg, hgl, hb⟩
  have HB1 := Lib.hid hb
  have HC := Lib.hid hc
  clear hc hb
  go_wp2_with fail
  refine (of_any g n z _ h1 hn HC.out hgl).mono ?_
  rintro e w2 ⟨p, rfl, hd, hb⟩
  have HD := Lib.hid hd
  have HB2 := Lib.hid hb
  clear hd hb
  go_wp2_with fail
  go_ret2
  have hb0 : Below w.heap.size w w1 := (((Below.refl w.heap.size w).alloc (Nat.le_refl _) (.cells q 5)).alloc (by simp) (.cells #[.string z] 9)).trans (HB1.out.mono (by simp; omega))
  have hd := HD.out
  refine ⟨p, rfl, DiskAt.wider hd (fun k hk => ?_) (fun k hk => ?_), hb0.trans (HB2.out.mono hb0.size)⟩
  · rcases hk with hk | hk
    · exact .inl hk
    · exact .inr ⟨Nat.le_trans hb0.size hk.1, hk.2⟩
  · rcases hk with hk | hk
    · exact hk.elim
    · exact hk.2
end Go.Proofs.Ytnbmmlepbifciaa
