/-
  Texts put together: LtA, LtB, LtC, LkA, LkB, LkC.
-/
import Derived.Test.YtghddknhoiaboaaLnB
import Derived.Test.YtghddknhoiaboaaLjB
import Derived.Test.YtghddknhoiaboaaLwA
namespace Go.Proofs.Ytghddknhoiaboaa
open Go.ChangeShapes Go.WideShapes Go.ChangeAt Go.RowKit
set_option linter.unusedVariables false
set_option maxRecDepth 100000

def hexD (n : Nat) : Nat := if n < 10 then 48 + n else 87 + n
def hexB : List Nat → List Nat
  | [] => []
  | c :: t => 92 :: 120 :: hexD (c / 16) :: hexD (c % 16) :: hexB t
theorem hexB_length : ∀ l, (hexB l).length = 4 * l.length
  | [] => rfl
  | c :: t => by
    show (hexB t).length + 1 + 1 + 1 + 1 = _
    rw [hexB_length t, List.length_cons]
    omega
theorem hexB_append : ∀ l m, hexB (l ++ m) = hexB l ++ hexB m
  | [], m => rfl
  | c :: t, m => by
    show 92 :: 120 :: hexD (c / 16) :: hexD (c % 16) :: hexB (t ++ m) = _
    rw [hexB_append t m]
    rfl
theorem hexD_at (n : Nat) (h : n < 16) : hexV (hexD n) = some n := by
  unfold hexD hexV
  by_cases h10 : n < 10
  · rw [if_pos h10, if_pos (by omega)]
    congr 1
    omega
  · rw [if_neg h10, if_neg (by omega), if_pos (by omega)]
    congr 1
    omega
theorem hexD_lt (n : Nat) (h : n < 16) : hexD n < 256 ∧ 32 < hexD n := by
  unfold hexD
  split <;> omega
theorem hexB_in : ∀ (l : List Nat), (∀ c ∈ l, c < 256) → ∀ c ∈ hexB l, c < 256 ∧ 32 < c
  | [], _, c, h => (List.not_mem_nil h).elim
  | x :: t, hx, c, h => by
    have h1 := hx x (List.mem_cons_self ..)
    rcases List.mem_cons.1 h with rfl | h
    · omega
    · rcases List.mem_cons.1 h with rfl | h
      · omega
      · rcases List.mem_cons.1 h with rfl | h
        · exact hexD_lt _ (by omega)
        · rcases List.mem_cons.1 h with rfl | h
          · exact hexD_lt _ (by omega)
          · exact hexB_in t (fun y hy => hx y (List.mem_cons_of_mem _ hy)) c h
theorem char_hex (c : Nat) (hc : c < 256) (r : List Nat) : charS (92 :: 120 :: hexD (c / 16) :: hexD (c % 16) :: r) = .ok c 4 := by
  show xS (hexD (c / 16) :: hexD (c % 16) :: r) = _
  show (match hexV (hexD (c / 16)), hexV (hexD (c % 16)) with | some x, some y => CR.ok (x * 16 + y) 4 | _, _ => CR.bad 1) = _
  rw [hexD_at _ (by omega), hexD_at _ (by omega)]
  show CR.ok (c / 16 * 16 + c % 16) 4 = _
  congr 1
  omega
theorem hexB_256 (l r : List Nat) (hl : ∀ c ∈ l, c < 256) (hr : ∀ c ∈ r, c < 256) : ∀ c ∈ hexB l ++ r, c < 256 := fun c hc => by
  rcases List.mem_append.1 hc with hc | hc
  · exact (hexB_in l hl c hc).1
  · exact hr c hc
theorem str_hex : ∀ (l r : List Nat), (∀ c ∈ l, c < 256) → (∀ c ∈ r, c < 256) → strR (hexB l ++ 34 :: r) = .done l (4 * l.length + 1)
  | [], r, _, _ => strR_end r
  | c :: t, r, hl, hr => by
    have h1 := hl c (List.mem_cons_self ..)
    have h2 : ∀ x ∈ t, x < 256 := fun y hy => hl y (List.mem_cons_of_mem _ hy)
    have h3 : ∀ x ∈ 34 :: r, x < 256 := fun x hx => by
      rcases List.mem_cons.1 hx with rfl | hx
      · decide
      · exact hr x hx
    show strR (92 :: 120 :: hexD (c / 16) :: hexD (c % 16) :: (hexB t ++ 34 :: r)) = _
    rw [strR_step (by decide) (show ∀ x ∈ 92 :: 120 :: hexD (c / 16) :: hexD (c % 16) :: (hexB t ++ 34 :: r), x < 256 from hexB_256 (c :: t) (34 :: r) hl h3), char_hex c h1]
    show pre [c] 4 (strR (hexB t ++ 34 :: r)) = _
    rw [str_hex t r h2 hr]
    show StrR.done ([c] ++ t) (4 + (4 * t.length + 1)) = _
    rw [List.length_cons, show 4 + (4 * t.length + 1) = 4 * (t.length + 1) + 1 from by omega]
    rfl
theorem str_hex_open : ∀ (l : List Nat), (∀ c ∈ l, c < 256) → strR (hexB l) = .open_
  | [], _ => rfl
  | c :: t, hl => by
    have h1 := hl c (List.mem_cons_self ..)
    show strR (92 :: 120 :: hexD (c / 16) :: hexD (c % 16) :: hexB t) = _
    rw [strR_step (by decide) (fun x hx => (hexB_in (c :: t) hl x hx).1), char_hex c h1]
    show pre [c] 4 (strR (hexB t)) = _
    rw [str_hex_open t (fun y hy => hl y (List.mem_cons_of_mem _ hy))]
    rfl
theorem scanT_lines : ∀ (k n : Nat) (l : List Nat), (∀ c ∈ l, c < 256) → scanT (n, 1) (List.replicate k 10 ++ l) = scanT (n + k, 1) l
  | 0, n, l, _ => rfl
  | k + 1, n, l, h => by
    rw [List.replicate_succ, List.cons_append, scanT_blank (n, 1) 10 _ (fun c hc => by
      rcases List.mem_cons.1 hc with rfl | hc
      · decide
      · rcases List.mem_append.1 hc with hc | hc
        · rw [(List.mem_replicate.1 hc).2]; decide
        · exact h c hc) rfl]
    have hc : adv 10 (n, 1) = (n + 1, 1) := rfl
    rw [hc, scanT_lines k _ l h, Nat.add_assoc, Nat.add_comm 1]
/-- a string's token -/
theorem tok_hex (l r : List Nat) (hl : ∀ c ∈ l, c < 256) (hr : ∀ c ∈ r, c < 256) :
    tokL (34 :: (hexB l ++ 34 :: r)) = if l.length ≤ 4096 then .tok 4 0 (bstr l) (4 * l.length + 2) else .bad 0 := by
  show (match strR (hexB l ++ 34 :: r) with
    | .done b n => if b.length ≤ 4096 then TkR.tok 4 0 (bstr b) (1 + n) else .bad 0
    | .open_ => .bad 0
    | .bad k => .bad (1 + k)) = _
  rw [str_hex l r hl hr]
  dsimp only
  rw [show 1 + (4 * l.length + 1) = 4 * l.length + 2 from by omega]
theorem tok_hex_open (l : List Nat) (hl : ∀ c ∈ l, c < 256) : tokL (34 :: hexB l) = .bad 0 := by
  show (match strR (hexB l) with
    | .done b n => if b.length ≤ 4096 then TkR.tok 4 0 (bstr b) (1 + n) else .bad 0
    | .open_ => .bad 0
    | .bad k => .bad (1 + k)) = _
  rw [str_hex_open l hl]
theorem scan_hex (k : Nat) (l : List Nat) (hl : ∀ c ∈ l, c < 256) : scanS (bstr (List.replicate k 10 ++ 34 :: (hexB l ++ [34]))) = if l.length ≤ 4096 then .ok [⟨4, (1 + k, 1), 0, bstr l⟩] else .bad (1 + k, 1) := by
  have h34 : ∀ c ∈ [34], c < 256 := fun c hc => by rw [List.mem_singleton.1 hc]; decide
  have hin : ∀ c ∈ 34 :: (hexB l ++ [34]), c < 256 := fun c hc => by
    rcases List.mem_cons.1 hc with rfl | hc
    · decide
    · exact hexB_256 l [34] hl h34 c hc
  have hall : ∀ c ∈ List.replicate k 10 ++ 34 :: (hexB l ++ [34]), c < 256 := fun c hc => by
    rcases List.mem_append.1 hc with hc | hc
    · rw [(List.mem_replicate.1 hc).2]; decide
    · exact hin c hc
  have ht := tok_hex l [] hl (fun c hc => (List.not_mem_nil hc).elim)
  have hlen : (34 :: (hexB l ++ [34])).length = 4 * l.length + 2 := by
    rw [List.length_cons, List.length_append, hexB_length]
    rfl
  rw [scanS_T, bytesOf_bstr _ hall, scanT_lines k 1 _ hin]
  by_cases h : l.length ≤ 4096
  · rw [if_pos h] at ht ⊢
    rw [scanT_tok _ _ hin (by rw [hlen]; omega) rfl ht, List.drop_eq_nil_of_le (by rw [hlen]; exact Nat.le_refl _), scanT_nil]
    rfl
  · rw [if_neg h] at ht ⊢
    rw [scanT_bad _ _ (by rw [hlen]; omega) rfl ht]
    rfl
theorem scan_hex_open (k : Nat) (l : List Nat) (hl : ∀ c ∈ l, c < 256) : scanS (bstr (List.replicate k 10 ++ 32 :: 34 :: hexB l)) = .bad (1 + k, 2) := by
  have hin : ∀ c ∈ 34 :: hexB l, c < 256 := fun c hc => by
    rcases List.mem_cons.1 hc with rfl | hc
    · decide
    · exact (hexB_in l hl c hc).1
  have hin2 : ∀ c ∈ 32 :: 34 :: hexB l, c < 256 := fun c hc => by
    rcases List.mem_cons.1 hc with rfl | hc
    · decide
    · exact hin c hc
  have hall : ∀ c ∈ List.replicate k 10 ++ 32 :: 34 :: hexB l, c < 256 := fun c hc => by
    rcases List.mem_append.1 hc with hc | hc
    · rw [(List.mem_replicate.1 hc).2]; decide
    · exact hin2 c hc
  rw [scanS_T, bytesOf_bstr _ hall, scanT_lines k 1 _ hin2, scanT_blank _ _ _ hin2 rfl]
  show scanT (1 + k, 1 + 1) _ = _
  rw [scanT_bad _ _ (by rw [List.length_cons]; omega) rfl (tok_hex_open l hl)]
  rfl
end Go.Proofs.Ytghddknhoiaboaa
namespace Go.Proofs.Ytghddknhoiaboaa
open Go.ChangeShapes Go.WideShapes Go.ChangeAt Go.RowKit
set_option linter.unusedVariables false
set_option maxRecDepth 100000

theorem bstr_append (a b : List Nat) : bstr (a ++ b) = bstr a ++ bstr b := by
  unfold bstr
  apply ByteArray.ext
  simp only [ByteArray.data_append, List.map_append, List.append_toArray]
theorem dig_cut8 (r : Nat) (h : r < 16) (W : World) : (Instr.slice 9 (.string ⟨#[48, 49, 50, 51, 52, 53, 54, 55, 56, 57, 97, 98, 99, 100, 101, 102]⟩) (some (.int .u8 (r : Int))) (some (.int .u8 ((r : Int) + 1))) none).run Try.prog W = .ok (.string (bstr [hexD r])) W := by
  have e : r = 0 ∨ r = 1 ∨ r = 2 ∨ r = 3 ∨ r = 4 ∨ r = 5 ∨ r = 6 ∨ r = 7 ∨ r = 8 ∨ r = 9 ∨ r = 10 ∨ r = 11 ∨ r = 12 ∨ r = 13 ∨ r = 14 ∨ r = 15 := by omega
  rcases e with rfl | rfl | rfl | rfl | rfl | rfl | rfl | rfl | rfl | rfl | rfl | rfl | rfl | rfl | rfl | rfl <;> rfl
theorem take_snoc (l : List Nat) (j : Nat) (hj : j < l.length) : l.take (j + 1) = l.take j ++ [l.getD j 0] := by
  rw [List.take_add_one, List.getD_eq_getElem?_getD, List.getElem?_eq_getElem hj]
  rfl
def spellL (k n : Int) (t : ByteArray) : List Nat :=
  if k = 0 then [40] else if k = 1 then [41] else if k = 2 then nat (Lib.itoa n) else if k = 3 then [48, 46, 53] else if k = 4 then 34 :: (hexB (bytesOf t) ++ [34]) else bytesOf t
theorem wrap8 (r : Nat) (h : r < 256) : IntKind.u8.wrap (r : Int) = (r : Int) := by
  simp only [IntKind.wrap, IntKind.bits, IntKind.signed]; simp; omega
theorem wrap8s (r : Nat) (h : r < 255) : IntKind.u8.wrap ((r : Int) + 1) = (r : Int) + 1 := by
  simp only [IntKind.wrap, IntKind.bits, IntKind.signed]; simp; omega
set_option maxHeartbeats 4000000 in
theorem spell_any (k n : Int) (p : Nat × Nat) (t : ByteArray) (hn : k = 2 → -4611686018427387904 ≤ n ∧ n ≤ 4611686018427387903) (ht : k = 4 → t.size ≤ 10000) (w : World) :
    Calls Try.prog 15 #[.agg #[.int .i64 k, .int .i64 (p.1 : Int), .int .i64 (p.2 : Int), .int .i64 n, .string t]] w fun e w' => e = .returned (.string (bstr (spellL k n t))) ∧ Below w.heap.size w w' := by
  obtain ⟨W0, hW0⟩ : ∃ W0, W0 = w.alloc (.cells #[.int .i64 k, .int .i64 (p.1 : Int), .int .i64 (p.2 : Int), .int .i64 n, .string t] 44) := ⟨_, rfl⟩
  have hb0 : Below w.heap.size w W0 := by rw [hW0]; exact (Below.refl _ _).alloc (Nat.le_refl _) _
  have hg0 : W0.heap[w.heap.size]? = some (.cells #[.int .i64 k, .int .i64 (p.1 : Int), .int .i64 (p.2 : Int), .int .i64 n, .string t] 44) := by rw [hW0]; exact heap_alloc w _
  have hs0 : W0.heap.size = w.heap.size + 1 := by rw [hW0]; exact size_alloc' w _
  have HG : Hid (∀ W, Below W0.heap.size W0 W → W.cell? ⟨w.heap.size, 0, none⟩ = some (.int .i64 k) ∧ W.cell? ⟨w.heap.size, 3, none⟩ = some (.int .i64 n) ∧ W.cell? ⟨w.heap.size, 4, none⟩ = some (.string t)) := Lib.hid (fun W hb => by
    have e := (hb.block w.heap.size (by omega)).trans hg0
    exact ⟨cell_of_row W _ 0 _ _ (0, 0) e, cell_of_row W _ 3 _ _ (0, 0) e, cell_of_row W _ 4 _ _ (0, 0) e⟩)
  have HB0 := Lib.hid hb0
  have HW0 := Lib.hid hW0
  obtain ⟨c0, c3, c4⟩ := HG.out W0 (Below.refl _ _)
  clear hW0 hb0 hg0 hs0
  have hfin : ∀ (x : ByteArray), spellL k n t = bytesOf x → bstr (spellL k n t) = x := fun x h => by rw [h, bstr_bytesOf]
  have HF := Lib.hid hfin
  clear hfin
  by_cases k0 : k = 0
  · subst k0
    go_enter Try.func15, Try.ntmps15
    go_wp2_with fail
    rw [← HW0.out]
    go_ret
    exact ⟨rfl, HB0.out⟩
  have b0 : (k == 0) = false := by simpa using k0
  by_cases k1 : k = 1
  · subst k1
    go_enter Try.func15, Try.ntmps15
    go_wp2_with fail
    rw [← HW0.out]
    go_ret
    exact ⟨rfl, HB0.out⟩
  have b1 : (k == 1) = false := by simpa using k1
  by_cases k2 : k = 2
  · obtain ⟨n1, n2⟩ := hn k2
    subst k2
    have HN := Lib.hid (number_any n n1 n2 W0)
    have HE := Lib.hid (HF.out ⟨(Lib.itoa n).toArray⟩ (by rw [bytesOf_list]; rfl))
    clear hn HF
    go_enter Try.func15, Try.ntmps15
    go_wp2_with fail
    rw [← HW0.out]
    refine HN.out.mono ?_
    clear HN
    rintro e w1 ⟨rfl, hb1⟩
    have HB1 := Lib.hid (HB0.out.trans (hb1.mono HB0.out.size))
    clear hb1
    go_wp2_with fail
    go_ret
    refine ⟨?_, HB1.out⟩
    rw [HE.out]
    rfl
  have b2 : (k == 2) = false := by simpa using k2
  by_cases k3 : k = 3
  · subst k3
    go_enter Try.func15, Try.ntmps15
    go_wp2_with fail
    rw [← HW0.out]
    go_ret
    exact ⟨rfl, HB0.out⟩
  have b3 : (k == 3) = false := by simpa using k3
  by_cases k4 : k = 4
  · have ht := ht k4
    subst k4
    clear hn HF k0 k1 k2 k3 b0 b1 b2 b3
    go_enter Try.func15, Try.ntmps15
    go_wp2_with fail
    rw [← HW0.out]
    have hbl := bytesOf_length t
    have HBl := Lib.hid hbl
    clear c0 c3 c4 hbl
    go_loopw [4, 5] (fun sv iv wr => ∃ j : Nat, j ≤ t.size ∧ iv = .int .i64 j ∧ sv = .string (bstr (34 :: hexB ((bytesOf t).take j))) ∧ Hid (Below W0.heap.size W0 wr)) (fun _ iv _ => t.size - (intOf iv).toNat)
    case atStart => exact ⟨0, Nat.zero_le _, rfl, rfl, Lib.hid (Below.refl _ _)⟩
    case round =>
      obtain ⟨j, hj, rfl, rfl, HB⟩ := hrel
      obtain ⟨c0, c3, c4⟩ := HG.out wr HB.out
      have hjS : (bstr (34 :: hexB ((bytesOf t).take j))).size = 4 * j + 1 := by
        rw [size_bstr, List.length_cons, hexB_length, List.length_take, HBl.out]
        omega
      by_cases hlt : j < t.size
      · have i1 : (j : Int) < (t.size : Int) := by omega
        have hix := idx_str t j hlt (by omega)
        have h256 := byte_lt t j
        have htk := take_snoc (bytesOf t) j (by rw [HBl.out]; exact hlt)
        generalize (bytesOf t).getD j 0 = c at *
        have hcat1 : bstr (34 :: hexB ((bytesOf t).take j)) ++ ⟨#[92, 120]⟩ = bstr (34 :: hexB ((bytesOf t).take j) ++ [92, 120]) := by rw [bstr_append]; rfl
        have hcat2 : bstr (34 :: hexB ((bytesOf t).take j) ++ [92, 120]) ++ bstr [hexD (c / 16)] = bstr (34 :: hexB ((bytesOf t).take j) ++ [92, 120] ++ [hexD (c / 16)]) := (bstr_append _ _).symm
        have hcat3 : bstr (34 :: hexB ((bytesOf t).take j) ++ [92, 120] ++ [hexD (c / 16)]) ++ bstr [hexD (c % 16)] = bstr (34 :: hexB ((bytesOf t).take (j + 1))) := by
          rw [← bstr_append, htk, hexB_append]
          congr 1
          simp [hexB, List.append_assoc]
        have hS2 : (bstr (34 :: hexB ((bytesOf t).take j) ++ [92, 120])).size = 4 * j + 3 := by
          rw [← hcat1, ByteArray.size_append, hjS]
          rfl
        have hS3 : (bstr (34 :: hexB ((bytesOf t).take j) ++ [92, 120] ++ [hexD (c / 16)])).size = 4 * j + 4 := by
          rw [← hcat2, ByteArray.size_append, hS2]
          rfl
        have hT1 : (bstr [hexD (c / 16)]).size = 1 := rfl
        have hT2 : (bstr [hexD (c % 16)]).size = 1 := rfl
        have l1 : ¬ 9223372036854775807 < 4 * j + 1 + 2 := by omega
        have l2 : ¬ 9223372036854775807 < 4 * j + 3 + 1 := by omega
        have l3 : ¬ 9223372036854775807 < 4 * j + 4 + 1 := by omega
        have hcut1 := dig_cut8 (c / 16) (by omega)
        have hcut2 := dig_cut8 (c % 16) (by omega)
        have hq : (c : Int).tdiv 16 = ((c / 16 : Nat) : Int) := rfl
        have hr : (c : Int).tmod 16 = ((c % 16 : Nat) : Int) := rfl
        have hq2 : (c : Int) / 16 = ((c / 16 : Nat) : Int) := by omega
        have hr2 : (c : Int) % 16 = ((c % 16 : Nat) : Int) := by omega
        have w1 := wrap8 (c / 16) (by omega)
        have w2 := wrap8 (c % 16) (by omega)
        have w3 := wrap8s (c / 16) (by omega)
        have w4 := wrap8s (c % 16) (by omega)
        clear htk
        generalize bstr (34 :: hexB ((bytesOf t).take j) ++ [92, 120] ++ [hexD (c / 16)]) = S3 at *
        generalize bstr (34 :: hexB ((bytesOf t).take j) ++ [92, 120]) = S2 at *
        generalize hS4 : bstr (34 :: hexB ((bytesOf t).take (j + 1))) = S4 at *
        generalize bstr (34 :: hexB ((bytesOf t).take j)) = S1 at *
        generalize bstr [hexD (c / 16)] = T1 at *
        generalize bstr [hexD (c % 16)] = T2 at *
        generalize c / 16 = x at *
        generalize c % 16 = y at *
        have HS4 := Lib.hid hS4
        have HC4 : Hid (∀ W, Gl wr.drew W → W.cell? ⟨w.heap.size, 4, none⟩ = some (.string t)) := Lib.hid (fun W hW => by
          have hb := hW.undrew.block _ (lt_of_cell c4)
          exact (World.cell?_of_block (a := ⟨w.heap.size, 4, none⟩) hb).trans c4)
        clear hS4
        go_upto_region 16 with fail
        clear c0 c3 c4
        refine wp_region_inv_lit [.is (.string S1), .is (.string S2), .is (.string ⟨#[48, 49, 50, 51, 52, 53, 54, 55, 56, 57, 97, 98, 99, 100, 101, 102]⟩), .is (.pointer (some ⟨w.heap.size, 4, none⟩)), .is (.string t), .is (.int .i64 (j : Int)), .is (.int .u8 (c : Int)), .is (.int .u8 (x : Int)), .is (.pointer (some ⟨w.heap.size, 4, none⟩)), .is (.string t), .is (.int .i64 (j : Int)), .is (.int .u8 (c : Int)), .is (.int .u8 (x : Int)), .is (.int .u8 ((x : Int) + 1)), .is (.string T1), .is (.string S3), .is (.string ⟨#[48, 49, 50, 51, 52, 53, 54, 55, 56, 57, 97, 98, 99, 100, 101, 102]⟩), .is (.pointer (some ⟨w.heap.size, 4, none⟩)), .is (.string t), .is (.int .i64 (j : Int)), .is (.int .u8 (c : Int)), .is (.int .u8 (y : Int)), .is (.pointer (some ⟨w.heap.size, 4, none⟩)), .is (.string t), .is (.int .i64 (j : Int)), .is (.int .u8 (c : Int)), .is (.int .u8 (y : Int)), .is (.int .u8 ((y : Int) + 1)), .is (.string T2), .is (.string S4), .is (.string S4)] (by kernel_rfl) (by kernel_rfl) ?_
        repeat1' (refine wpInv_is ?_ ?_; (focus (intro W hW hF K hK; clear hF; have d4 := HC4.out W hW; go_simp; exact hK _ _ (Gl.refl _) rfl)); simp only [Act.put, List.setIfInBounds_toArray, List.set_cons_zero, List.set_cons_succ])
        refine wpInv_end ?_
        intro W hW hF
        clear hF
        have HWW := Lib.hid (HB.out.trans (hW.undrew.mono HB.out.size))
        clear hW
        go_wp2_with fail
        go_roundw
        case rel => exact ⟨j + 1, by omega, by go_num, by rw [HS4.out], HWW⟩
        case measure => simp [intOf]; omega
      · have i1 : ¬ (j : Int) < (t.size : Int) := by omega
        obtain rfl : j = t.size := by omega
        have hall : (bytesOf t).take t.size = bytesOf t := by rw [← HBl.out, List.take_length]
        have HE : Hid (bstr (34 :: hexB (bytesOf t)) ++ ⟨#[34]⟩ = bstr (spellL 4 n t)) := Lib.hid (by
          have e : spellL 4 n t = 34 :: hexB (bytesOf t) ++ [34] := rfl
          rw [e, bstr_append]
          rfl)
        rw [hall] at hjS
        have l1 : ¬ 9223372036854775807 < 4 * t.size + 1 + 1 := by omega
        have HBF := Lib.hid (HB0.out.trans (HB.out.mono HB0.out.size))
        rw [hall]
        clear hall
        generalize bstr (34 :: hexB (bytesOf t)) = S1 at *
        clear i1
        have i1 : ¬ (t.size : Int) < (t.size : Int) := by omega
        go_wp2_with fail
        go_ret
        refine ⟨?_, HBF.out⟩
        rw [← HE.out]
        rfl
  have b4 : (k == 4) = false := by simpa using k4
  have HE := Lib.hid (HF.out t (by unfold spellL; rw [if_neg k0, if_neg k1, if_neg k2, if_neg k3, if_neg k4]))
  clear hn HF k0 k1 k2 k3 k4
  go_enter Try.func15, Try.ntmps15
  go_wp2_with fail
  rw [← HW0.out]
  go_ret
  refine ⟨?_, HB0.out⟩
  rw [HE.out]
  rfl
end Go.Proofs.Ytghddknhoiaboaa
namespace Go.Proofs.Ytghddknhoiaboaa
open Go.ChangeShapes Go.WideShapes Go.ChangeAt Go.RowKit
set_option linter.unusedVariables false
set_option maxRecDepth 100000

/-- a slice of integers that came in: nil, or a row of 'cap' cells -/
def IsRow (k : IntKind) (w : World) (a : Option Addr) (len cap : Nat) (zs : List Int) : Prop :=
  (a = none ∧ len = 0 ∧ cap = 0 ∧ zs = []) ∨
  ∃ x, a = some x ∧ len ≤ cap ∧ cap ≤ maxLen ∧ zs.length = cap ∧ (∀ i, i < zs.length → w.cell? (x.add i) = some (.int k (zs.getD i 0))) ∧ ∀ n ∈ zs, (Lit.int k n).wf = true
theorem row_bytes {w : World} {a : Option Addr} {len cap : Nat} {zs : List Int} (h : IsRow .u8 w a len cap zs) : ∃ l, ByteRow w a len l ∧ len ≤ cap ∧ cap ≤ maxLen := by
  rcases h with ⟨rfl, rfl, rfl, rfl⟩ | ⟨x, rfl, h1, h2, h3, h4, h5⟩
  · exact ⟨[], ⟨rfl, Nat.zero_le _, (by intro z hz; cases hz), (by intro h; omega)⟩, Nat.le_refl _, Nat.zero_le _⟩
  · have hb : ∀ n ∈ zs, 0 ≤ n ∧ n ≤ 255 := fun n hn => by
      have := h5 n hn
      simpa [Lit.wf, IntKind.min, IntKind.max, IntKind.signed, IntKind.bits] using this
    refine ⟨(zs.take len).map Int.toNat, ⟨by rw [List.length_map, List.length_take]; omega, by omega, ?_, ?_⟩, h1, h2⟩
    · intro c hc
      obtain ⟨n, hn, rfl⟩ := List.mem_map.1 hc
      have := hb n (List.mem_of_mem_take hn)
      omega
    · intro h0
      obtain ⟨b, off, spot⟩ := x
      have hc0 := h4 0 (by omega)
      have hspot : spot = none := by simpa [Addr.add] using World.cell?_spot hc0
      subst hspot
      refine ⟨b, off, rfl, fun i hi => ?_⟩
      have hci := h4 i (by omega)
      have e1 : (⟨b, off, none⟩ : Addr).add i = ⟨b, off + i, none⟩ := by simp [Addr.add]
      rw [e1] at hci
      rw [hci]
      have hlt : i < zs.length := by omega
      have hm := hb zs[i] (List.getElem_mem hlt)
      have e2 : zs.getD i 0 = zs[i] := by simp [List.getD, List.getElem?_eq_getElem hlt]
      have e3 : ((zs.take len).map Int.toNat).getD i 0 = zs[i].toNat := by
        simp [List.getD, List.getElem?_map, hi, List.getElem?_eq_getElem hlt]
      rw [e2, e3]
      congr 2
      omega
theorem ByteRow.below {w W : World} {a : Option Addr} {n : Nat} {l : List Nat} (h : ByteRow w a n l) (hb : Below w.heap.size w W) : ByteRow W a n l := by
  obtain ⟨h1, h2, h3, h4⟩ := h
  refine ⟨h1, h2, h3, fun h0 => ?_⟩
  obtain ⟨b, o, ha, hc⟩ := h4 h0
  refine ⟨b, o, ha, fun i hi => ?_⟩
  have h := hc i hi
  rw [World.cell?_of_block (a := ⟨b, o + i, none⟩) (hb.block b (lt_of_cell h))]
  exact h
theorem bstr_nl (k : Nat) : bstr (List.replicate k 10) ++ (⟨#[10]⟩ : ByteArray) = bstr (List.replicate (k + 1) 10) := by
  rw [List.replicate_succ', bstr_append]
  rfl
theorem mod20 (b : Int) : ∃ m : Nat, wrap64 ((IntKind.u64.wrap b).tmod 20) = (m : Int) ∧ m < 20 := by
  have h1 : 0 ≤ IntKind.u64.wrap b := by simp only [IntKind.wrap, IntKind.bits, IntKind.signed]; simp; omega
  generalize IntKind.u64.wrap b = x at *
  rw [Int.tmod_eq_emod_of_nonneg h1]
  refine ⟨(x % 20).toNat, ?_, by omega⟩
  unfold wrap64
  omega
/-- what the law's string is, and what it is without its end -/
theorem spell_str (l : List Nat) (hl : ∀ c ∈ l, c < 256) : bstr (spellL 4 0 (bstr l)) = bstr (34 :: (hexB l ++ [34])) := by
  unfold spellL
  rw [if_neg (by decide), if_neg (by decide), if_neg (by decide), if_neg (by decide), if_pos rfl, bytesOf_bstr l hl]
theorem str_cut (l : List Nat) (hl : ∀ c ∈ l, c < 256) : (bstr (34 :: (hexB l ++ [34]))).extract 0 (4 * l.length + 1) = bstr (34 :: hexB l) := by
  have hin : ∀ c ∈ 34 :: (hexB l ++ [34]), c < 256 := fun c hc => by
    rcases List.mem_cons.1 hc with rfl | hc
    · decide
    · exact hexB_256 l [34] hl (fun c hc => by rw [List.mem_singleton.1 hc]; decide) c hc
  rw [extract_bstr _ _ _ (Nat.zero_le _), bytesOf_bstr _ hin, List.drop_zero]
  congr 1
  show List.take (4 * l.length + 1 - 0) ((34 :: hexB l) ++ [34]) = _
  have e : 4 * l.length + 1 - 0 = (34 :: hexB l).length := by rw [List.length_cons, hexB_length]; omega
  rw [e, List.take_left]
set_option maxHeartbeats 4000000 in
theorem lexStrings_law (a : Option Addr) (len cap : Nat) (zs : List Int) (n : Int) (w : World) (mx : Int) (hmx : w.cell? ⟨1, 0, none⟩ = some (.int .i64 mx)) (w0 : IsRow .u8 w a len cap zs) (hn : (Lit.int .i64 n).wf = true) :
    Calls Try.prog 6 #[.slice a len cap, .int .i64 n] w fun e w' => e = .returned (.bool true) ∧ Below w.heap.size w w' := by
  have hlt := lt_of_cell hmx
  have HM : Hid (∀ W, Below w.heap.size w W → W.cell? ⟨1, 0, none⟩ = some (.int .i64 mx)) := Lib.hid (fun W hb => by
    rw [World.cell?_of_block (a := ⟨1, 0, none⟩) (hb.block _ hlt)]
    exact hmx)
  have HL0 := Lib.hid (lexes_any w mx hmx)
  obtain ⟨l, hrow, _, _⟩ := row_bytes w0
  have hlen : l.length = len := hrow.1
  have hl256 : ∀ c ∈ l, c < 256 := hrow.2.2.1
  have HCV : Hid (∀ W, Below w.heap.size w W → (convert 46 9 (.slice a len cap)).run Try.prog W = .ok (.string (bstr l)) W) := Lib.hid (fun W hb => conv_row cap (hrow.below hb))
  have hlm : len ≤ maxLen := hrow.2.1
  clear hmx hlt hrow w0
  obtain ⟨m, hm, hm20⟩ := mod20 n
  have HQ := Lib.hid hm
  clear hm
  unfold maxLen at hlm
  by_cases hbig : len ≤ 4200
  · have i1 : ¬ (4200 : Int) < (len : Int) := by omega
    go_enter Try.func6, Try.ntmps6
    go_wp2_with fail
    go_loop [5, 6] (fun va vi => ∃ k : Nat, k ≤ m ∧ va = .string (bstr (List.replicate k 10)) ∧ vi = .int .i64 k) (fun _ vi => m - (intOf vi).toNat)
    case atStart => exact ⟨0, Nat.zero_le _, rfl, rfl⟩
    case round =>
      obtain ⟨k, hk, rfl, rfl⟩ := hrel
      have hsz : ¬ 9223372036854775807 < (bstr (List.replicate k 10)).size + 1 := by rw [size_bstr, List.length_replicate]; omega
      by_cases hlt : k < m
      · have i2 : (k : Int) < (m : Int) := by omega
        have hq := HQ.out
        go_wp2_with fail
        clear hq
        go_round
        case rel => exact ⟨k + 1, by omega, by rw [bstr_nl], by go_num⟩
        case measure => simp [intOf]; omega
      · have i2 : ¬ (k : Int) < (m : Int) := by omega
        obtain rfl : k = m := by omega
        clear hlt hsz
        have hcv := HCV.out w (Below.refl _ _)
        have HSP := Lib.hid (spell_any 4 0 (0, 0) (bstr l) (by decide) (fun _ => by rw [size_bstr]; omega) w)
        rw [spell_str l hl256] at HSP
        have HX : Hid ((bstr (34 :: (hexB l ++ [34]))).extract 0 (4 * len + 1) = bstr (34 :: hexB l)) := Lib.hid (by rw [← hlen]; exact str_cut l hl256)
        have HJ1 : Hid (bstr (List.replicate k 10) ++ bstr (34 :: (hexB l ++ [34])) = bstr (List.replicate k 10 ++ 34 :: (hexB l ++ [34]))) := Lib.hid (bstr_append _ _).symm
        have HJ2 : Hid (bstr (List.replicate k 10) ++ ⟨#[32]⟩ ++ bstr (34 :: hexB l) = bstr (List.replicate k 10 ++ 32 :: 34 :: hexB l)) := Lib.hid (by
          rw [bstr_append, ByteArray.append_assoc]
          congr 1)
        have HS1 := Lib.hid (scan_hex k l hl256)
        have HS2 := Lib.hid (scan_hex_open k l hl256)
        have z1 : (bstr (List.replicate k 10)).size = k := by rw [size_bstr, List.length_replicate]
        have z2 : (bstr (34 :: (hexB l ++ [34]))).size = 4 * len + 2 := by
          rw [size_bstr, List.length_cons, List.length_append, hexB_length, hlen]
          rfl
        have z3 : (bstr (34 :: hexB l)).size = 4 * len + 1 := by rw [size_bstr, List.length_cons, hexB_length, hlen]
        rw [hlen] at HS1
        generalize bstr (List.replicate k 10 ++ 34 :: (hexB l ++ [34])) = J1 at *
        generalize bstr (List.replicate k 10 ++ 32 :: 34 :: hexB l) = J2 at *
        generalize bstr (List.replicate k 10) = SP at *
        generalize bstr (34 :: (hexB l ++ [34])) = TX at *
        generalize bstr (34 :: hexB l) = TY at *
        have zj1 : J1.size = k + (4 * len + 2) := by rw [← HJ1.out, ByteArray.size_append, z1, z2]
        have zj2 : J2.size = k + 1 + (4 * len + 1) := by
          rw [← HJ2.out, ByteArray.size_append, ByteArray.size_append, z1, z3]
          rfl
        have HZ1 : Hid (J1.size ≤ 65000) := Lib.hid (by omega)
        have HZ2 : Hid (J2.size ≤ 65000) := Lib.hid (by omega)
        clear zj1 zj2
        have s1 : ¬ 9223372036854775807 < k + (4 * len + 2) := by omega
        have s2 : ¬ 9223372036854775807 < k + 1 := by omega
        have s3 : ¬ 9223372036854775807 < k + 1 + (4 * len + 1) := by omega
        have hq := HQ.out
        go_wp2_with fail
        clear hq
        refine HSP.out.mono ?_
        clear HSP
        rintro e w1 ⟨rfl, hb1⟩
        have HB1 := Lib.hid hb1
        have hj1 := HJ1.out
        have HC1 := Lib.hid (scan_any J1 HZ1.out w1 mx (HM.out w1 hb1))
        clear hb1 hcv
        go_wp2_with fail
        refine HC1.out.mono ?_
        clear HC1 hj1
        rintro e w2 ⟨hr, hb2⟩
        rw [HS1.out] at hr
        have HB2 := Lib.hid (HB1.out.trans (hb2.mono HB1.out.size))
        have hk20 : (1 : Int) + (k : Int) = ((1 + k : Nat) : Int) := by omega
        have HK := Lib.hid hk20
        clear hb2 hk20 HS1
        by_cases hshort : len ≤ 4096
        · rw [if_pos hshort] at hr
          obtain ⟨v, rfl, hown⟩ := hr
          obtain ⟨g, cap', rfl, hcells⟩ := own_cells hown (Nat.zero_lt_succ _)
          have d0 := hcells 0 _ rfl
          have d4 := hcells 4 _ rfl
          have hgl := lt_of_cell d0
          have HG : Hid (∀ W, Below w2.heap.size w2 W → W.cell? ⟨g, 0, none⟩ = some (.int .i64 4) ∧ W.cell? ⟨g, 4, none⟩ = some (.string (bstr l))) := Lib.hid (fun W hb => by
            have e := hb.block g hgl
            exact ⟨(World.cell?_of_block (a := ⟨g, 0, none⟩) e).trans d0, (World.cell?_of_block (a := ⟨g, 4, none⟩) e).trans d4⟩)
          clear hown hcells d0 d4 hgl
          obtain ⟨W3, hW3⟩ : ∃ W3, W3 = w2.alloc (.cells #[.int .i64 0, .int .i64 0] 25) := ⟨_, rfl⟩
          have hb3 : Below w2.heap.size w2 W3 := by rw [hW3]; exact (Below.refl _ _).alloc (Nat.le_refl _) _
          have HB3 := Lib.hid hb3
          have HC2 := Lib.hid (scan_any J2 HZ2.out W3 mx (HM.out W3 (HB2.out.trans (hb3.mono HB2.out.size))))
          have HW3 := Lib.hid hW3
          have hx := HX.out
          have hj2 := HJ2.out
          clear hb3 hW3
          go_wp2_with fail
          rw [← HW3.out]
          clear hx hj2 s1 s2 s3
          refine HC2.out.mono ?_
          clear HC2
          rintro e w4 ⟨hr, hb4⟩
          rw [HS2.out] at hr
          have hr2 : e = .returned (.tuple #[.slice none 0 0, .agg #[.int .i64 ((1 + k : Nat) : Int), .int .i64 2], .int .i64 10]) := hr
          rw [← HK.out] at hr2
          subst hr2
          obtain ⟨W5, hW5⟩ : ∃ W5, W5 = w4.alloc (.cells #[.int .i64 (1 + (k : Int)), .int .i64 2] 25) := ⟨_, rfl⟩
          have hb5 : Below w4.heap.size w4 W5 := by rw [hW5]; exact (Below.refl _ _).alloc (Nat.le_refl _) _
          have hc5 : W5.heap[w4.heap.size]? = some (.cells #[.int .i64 (1 + (k : Int)), .int .i64 2] 25) := by rw [hW5]; exact heap_alloc _ _
          have HP : Hid (∀ W, Below W5.heap.size W5 W → W.cell? ⟨w4.heap.size, 0, none⟩ = some (.int .i64 (1 + (k : Int))) ∧ W.cell? ⟨w4.heap.size, 1, none⟩ = some (.int .i64 2)) := Lib.hid (fun W hb => by
            have e := (hb.block _ (by have := hb5.size; exact (Array.getElem?_eq_some_iff.1 hc5).1)).trans hc5
            exact ⟨cell_of_row W _ 0 _ _ (0, 0) e, cell_of_row W _ 1 _ _ (0, 0) e⟩)
          have HB5 := Lib.hid (HB3.out.trans ((hb4.trans (hb5.mono hb4.size)).mono HB3.out.size))
          have HL := Lib.hid (lexes_any W5 mx (HM.out W5 (HB2.out.trans (HB5.out.mono HB2.out.size))))
          have HW5 := Lib.hid hW5
          have HB35 := Lib.hid (hb4.trans (hb5.mono hb4.size))
          clear hr hb4 hb5 hW5 hc5 HS2
          have hq := HQ.out
          go_wp2_with fail
          rw [← HW5.out]
          clear hq
          refine HL.out.mono ?_
          clear HL
          rintro e w6 ⟨rfl, hb6⟩
          obtain ⟨p0, p1⟩ := HP.out w6 hb6
          obtain ⟨d0, d4⟩ := HG.out w6 (HB5.out.trans (hb6.mono HB5.out.size))
          have HB6 := Lib.hid ((HB2.out.trans (HB5.out.mono HB2.out.size)).trans (hb6.mono (Nat.le_trans HB2.out.size HB5.out.size)))
          have hcv := HCV.out w6 HB6.out
          have hq := HQ.out
          have i3 : ¬ (4096 : Int) < (len : Int) := by omega
          clear hb6 HP HG
          go_upto_region 16 with fail
          have HC6 : Hid (∀ W, Gl w6.drew W → (W.cell? ⟨g, 0, none⟩ = some (.int .i64 4) ∧ W.cell? ⟨g, 4, none⟩ = some (.string (bstr l))) ∧ (convert 46 9 (.slice a len cap)).run Try.prog W = .ok (.string (bstr l)) W ∧ Below w.heap.size w W) := Lib.hid (fun W hW => by
            have hb := hW.undrew
            have e := hb.block _ (lt_of_cell d0)
            have hbb := HB6.out.trans (hb.mono HB6.out.size)
            exact ⟨⟨(World.cell?_of_block (a := ⟨g, 0, none⟩) e).trans d0, (World.cell?_of_block (a := ⟨g, 4, none⟩) e).trans d4⟩, HCV.out W hbb, hbb⟩)
          clear p0 p1 hq d0 d4 hcv i3
          have hbq : ((bstr l).toList == (bstr l).toList) = true := by simp
          generalize bstr l = X at *
          refine wp_region_inv_lit [.is (.int .i64 0), .is (.bool true), .is (.bool true), .is (.slice (some ⟨g, 0, none⟩) 1 cap'), .is (.int .i64 1), .is (.bool true), .is (.bool true), .is (.bool true), .is (.slice (some ⟨g, 0, none⟩) 1 cap'), .is (.pointer (some ⟨g, 0, none⟩)), .is (.pointer (some ⟨g, 0, none⟩)), .is (.int .i64 4), .is (.bool true), .is (.bool true), .is (.bool true), .is (.slice (some ⟨g, 0, none⟩) 1 cap'), .is (.pointer (some ⟨g, 0, none⟩)), .is (.pointer (some ⟨g, 4, none⟩)), .is (.string (X)), .is (.slice a len cap), .is (.string (X)), .is (.bool true), .is (.bool true), .is (.bool true)] (by kernel_rfl) (by kernel_rfl) ?_
          repeat1' (refine wpInv_is ?_ ?_; (focus (intro W hW hF K hK; clear hF; obtain ⟨⟨d0, d4⟩, hcv, hbb⟩ := HC6.out W hW; clear hbb; go_simp; exact hK _ _ (Gl.refl _) rfl)); simp only [Act.put, List.setIfInBounds_toArray, List.set_cons_zero, List.set_cons_succ])
          refine wpInv_end ?_
          intro W hW hF
          clear hF
          have HB7 := Lib.hid (HC6.out W hW).2.2
          clear hW
          go_wp2_with fail
          go_ret
          exact ⟨rfl, HB7.out⟩
        · rw [if_neg hshort] at hr
          have hr1 : e = .returned (.tuple #[.slice none 0 0, .agg #[.int .i64 ((1 + k : Nat) : Int), .int .i64 1], .int .i64 10]) := hr
          rw [← HK.out] at hr1
          subst hr1
          clear hr
          obtain ⟨W3, hW3⟩ : ∃ W3, W3 = w2.alloc (.cells #[.int .i64 (1 + (k : Int)), .int .i64 1] 25) := ⟨_, rfl⟩
          have hb3 : Below w2.heap.size w2 W3 := by rw [hW3]; exact (Below.refl _ _).alloc (Nat.le_refl _) _
          have hc3 : W3.heap[w2.heap.size]? = some (.cells #[.int .i64 (1 + (k : Int)), .int .i64 1] 25) := by rw [hW3]; exact heap_alloc _ _
          have HG : Hid (∀ W, Below W3.heap.size W3 W → W.cell? ⟨w2.heap.size, 0, none⟩ = some (.int .i64 (1 + (k : Int))) ∧ W.cell? ⟨w2.heap.size, 1, none⟩ = some (.int .i64 1)) := Lib.hid (fun W hb => by
            have e := (hb.block _ (by exact (Array.getElem?_eq_some_iff.1 hc3).1)).trans hc3
            exact ⟨cell_of_row W _ 0 _ _ (0, 0) e, cell_of_row W _ 1 _ _ (0, 0) e⟩)
          have HB3 := Lib.hid hb3
          have HC2 := Lib.hid (scan_any J2 HZ2.out W3 mx (HM.out W3 (HB2.out.trans (hb3.mono HB2.out.size))))
          have HW3 := Lib.hid hW3
          have hx := HX.out
          have hj2 := HJ2.out
          clear hb3 hW3 hc3
          go_wp2_with fail
          rw [← HW3.out]
          clear hx hj2 s1 s2 s3
          refine HC2.out.mono ?_
          clear HC2
          rintro e w4 ⟨hr, hb4⟩
          rw [HS2.out] at hr
          have hr2 : e = .returned (.tuple #[.slice none 0 0, .agg #[.int .i64 ((1 + k : Nat) : Int), .int .i64 2], .int .i64 10]) := hr
          rw [← HK.out] at hr2
          subst hr2
          obtain ⟨W5, hW5⟩ : ∃ W5, W5 = w4.alloc (.cells #[.int .i64 (1 + (k : Int)), .int .i64 2] 25) := ⟨_, rfl⟩
          have hb5 : Below w4.heap.size w4 W5 := by rw [hW5]; exact (Below.refl _ _).alloc (Nat.le_refl _) _
          have hc5 : W5.heap[w4.heap.size]? = some (.cells #[.int .i64 (1 + (k : Int)), .int .i64 2] 25) := by rw [hW5]; exact heap_alloc _ _
          have HP : Hid (∀ W, Below W5.heap.size W5 W → W.cell? ⟨w4.heap.size, 0, none⟩ = some (.int .i64 (1 + (k : Int))) ∧ W.cell? ⟨w4.heap.size, 1, none⟩ = some (.int .i64 2)) := Lib.hid (fun W hb => by
            have e := (hb.block _ (by have := hb5.size; exact (Array.getElem?_eq_some_iff.1 hc5).1)).trans hc5
            exact ⟨cell_of_row W _ 0 _ _ (0, 0) e, cell_of_row W _ 1 _ _ (0, 0) e⟩)
          have HB5 := Lib.hid (HB3.out.trans ((hb4.trans (hb5.mono hb4.size)).mono HB3.out.size))
          have HL := Lib.hid (lexes_any W5 mx (HM.out W5 (HB2.out.trans (HB5.out.mono HB2.out.size))))
          have HW5 := Lib.hid hW5
          have HB35 := Lib.hid (hb4.trans (hb5.mono hb4.size))
          clear hr hb4 hb5 hW5 hc5 HS2
          have hq := HQ.out
          go_wp2_with fail
          rw [← HW5.out]
          clear hq
          refine HL.out.mono ?_
          clear HL
          rintro e w6 ⟨rfl, hb6⟩
          obtain ⟨p0, p1⟩ := HP.out w6 hb6
          obtain ⟨d0, d1⟩ := HG.out w6 (HB35.out.trans (hb6.mono HB35.out.size))
          have HB6 := Lib.hid ((HB2.out.trans (HB5.out.mono HB2.out.size)).trans (hb6.mono (Nat.le_trans HB2.out.size HB5.out.size)))
          have hq := HQ.out
          have i3 : (4096 : Int) < (len : Int) := by omega
          clear hb6 HP HG
          go_wp2_with fail
          go_ret
          exact ⟨rfl, HB6.out⟩
  · have i1 : (4200 : Int) < (len : Int) := by omega
    go_enter Try.func6, Try.ntmps6
    go_wp2_with fail
    refine HL0.out.mono ?_
    rintro e w1 ⟨rfl, hb1⟩
    have HB1 := Lib.hid hb1
    clear hb1
    go_wp2_with fail
    go_ret
    exact ⟨rfl, HB1.out⟩
end Go.Proofs.Ytghddknhoiaboaa
namespace Go.Proofs.Ytghddknhoiaboaa
open Go.ChangeShapes Go.WideShapes Go.ChangeAt Go.RowKit
set_option linter.unusedVariables false
set_option maxRecDepth 100000

theorem readD_range (b : Bool) (d : List Nat) (h : (readD b d).2 = 0) : -4611686018427387904 ≤ (readD b d).1 ∧ (readD b d).1 ≤ 4611686018427387903 := by
  unfold readD at h ⊢
  by_cases h1 : d = [] ∨ d.all isD = false
  · rw [if_pos h1] at h
    cases h
  · rw [if_neg h1] at h ⊢
    cases b with
    | true =>
      by_cases h2 : (if true = true then 4611686018427387904 else 4611686018427387903) < val d
      · rw [if_pos h2] at h
        cases h
      · rw [if_neg h2] at h ⊢
        rw [if_pos rfl] at h2
        show -4611686018427387904 ≤ (if true = true then -(val d : Int) else (val d : Int)) ∧ (if true = true then -(val d : Int) else (val d : Int)) ≤ 4611686018427387903
        rw [if_pos rfl]
        omega
    | false =>
      by_cases h2 : (if false = true then 4611686018427387904 else 4611686018427387903) < val d
      · rw [if_pos h2] at h
        cases h
      · rw [if_neg h2] at h ⊢
        rw [if_neg (by decide)] at h2
        show -4611686018427387904 ≤ (if false = true then -(val d : Int) else (val d : Int)) ∧ (if false = true then -(val d : Int) else (val d : Int)) ≤ 4611686018427387903
        rw [if_neg (by decide)]
        omega
theorem readS_range (l : List Nat) (h : (readS l).2 = 0) : -4611686018427387904 ≤ (readS l).1 ∧ (readS l).1 ≤ 4611686018427387903 := by
  unfold readS at h ⊢
  split
  · rename_i h1
    rw [if_pos h1] at h
    exact readD_range _ _ h
  · rename_i h1
    rw [if_neg h1] at h
    exact readD_range _ _ h
/-- a token that Scan may tell -/
def TokOk (k n : Int) (t : ByteArray) : Prop :=
  (k = 0 ∧ n = 0 ∧ t = ⟨#[]⟩) ∨ (k = 1 ∧ n = 0 ∧ t = ⟨#[]⟩) ∨ (k = 2 ∧ t = ⟨#[]⟩ ∧ -4611686018427387904 ≤ n ∧ n ≤ 4611686018427387903) ∨ k = 3 ∨ (k = 4 ∧ n = 0 ∧ t.size ≤ 4096) ∨
  ((k = 5 ∨ k = 6) ∧ n = 0 ∧ wordS t = some (k, 0, t) ∧ 0 < t.size ∧ ∀ c ∈ bytesOf t, isEnd c = false)
theorem wordLen_all : ∀ l : List Nat, ∀ c ∈ l.take (wordLen l), isEnd c = false
  | [], c, h => by
    rw [List.take_nil] at h
    exact (List.not_mem_nil h).elim
  | x :: t, c, h => by
    have e : wordLen (x :: t) = if isEnd x = true then 0 else 1 + wordLen t := rfl
    rw [e] at h
    cases hx : isEnd x with
    | true =>
      rw [hx, if_pos rfl, List.take_zero] at h
      exact (List.not_mem_nil h).elim
    | false =>
      rw [hx, if_neg (by decide), Nat.add_comm 1, List.take_succ_cons] at h
      rcases List.mem_cons.1 h with rfl | h
      · exact hx
      · exact wordLen_all t c h
theorem tokL_ok (l : List Nat) (h256 : ∀ c ∈ l, c < 256) (h0 : 0 < l.length) (hb : blankLen false l = 0) {k n : Int} {t : ByteArray} {len : Nat} (h : tokL l = .tok k n t len) : TokOk k n t := by
  unfold tokL at h
  by_cases h40 : l.getD 0 0 = 40
  · rw [if_pos h40] at h
    injection h with h1 h2 h3 h4
    exact .inl ⟨h1.symm, h2.symm, h3.symm⟩
  rw [if_neg h40] at h
  by_cases h41 : l.getD 0 0 = 41
  · rw [if_pos h41] at h
    injection h with h1 h2 h3 h4
    exact .inr (.inl ⟨h1.symm, h2.symm, h3.symm⟩)
  rw [if_neg h41] at h
  by_cases h34 : l.getD 0 0 = 34
  · rw [if_pos h34] at h
    cases hr : strR (l.drop 1) with
    | open_ => rw [hr] at h; cases h
    | bad j => rw [hr] at h; cases h
    | done b m =>
      rw [hr] at h
      dsimp only at h
      by_cases hb4 : b.length ≤ 4096
      · rw [if_pos hb4] at h
        injection h with h1 h2 h3 h4
        exact .inr (.inr (.inr (.inr (.inl ⟨h1.symm, h2.symm, by rw [← h3, size_bstr]; exact hb4⟩))))
      · rw [if_neg hb4] at h
        cases h
  rw [if_neg h34] at h
  have hz := blank_zero l 0 h0 (by rw [List.drop_zero]; exact hb)
  have he := isEnd_not _ hz.1 h40 h41 h34 hz.2
  have hw1 : 1 ≤ wordLen l := by
    have := wordLen_in l 0 h0 he
    rw [List.drop_zero] at this
    omega
  have hwl := wordLen_le l
  have hall := wordLen_all l
  have hts : (bstr (l.take (wordLen l))).size = wordLen l := by rw [size_bstr, List.length_take]; omega
  have htb : bytesOf (bstr (l.take (wordLen l))) = l.take (wordLen l) := bytesOf_bstr _ (fun c hc => h256 c (List.mem_of_mem_take hc))
  generalize bstr (l.take (wordLen l)) = s at *
  cases hw : wordS s with
  | none => rw [hw] at h; cases h
  | some x =>
    obtain ⟨k', n', t'⟩ := x
    rw [hw] at h
    injection h with h1 h2 h3 h4
    subst h1 h2 h3
    have hw0 := hw
    unfold wordS at hw
    by_cases a1 : (readS (bytesOf s)).2 = 0
    · rw [if_pos a1] at hw
      injection hw with hw
      injection hw with e1 e2
      injection e2 with e2 e3
      subst e1 e2 e3
      exact .inr (.inr (.inl ⟨rfl, rfl, readS_range _ a1⟩))
    rw [if_neg a1] at hw
    by_cases a2 : ¬ (readS (bytesOf s)).2 = 2
    · rw [if_pos a2] at hw
      cases hw
    rw [if_neg a2] at hw
    by_cases a3 : (rdS (bytesOf s)).2 = 0
    · rw [if_pos a3] at hw
      injection hw with hw
      injection hw with e1 e2
      exact .inr (.inr (.inr (.inl e1.symm)))
    rw [if_neg a3] at hw
    by_cases a4 : 40 < s.size
    · rw [if_pos a4] at hw
      cases hw
    rw [if_neg a4] at hw
    by_cases a5 : isConS (bytesOf s) = true
    · rw [if_pos a5] at hw
      injection hw with hw
      injection hw with e1 e2
      injection e2 with e2 e3
      subst e1 e2 e3
      exact .inr (.inr (.inr (.inr (.inr ⟨.inr rfl, rfl, hw0, by omega, fun c hc => hall c (by rw [← htb]; exact hc)⟩))))
    rw [if_neg a5] at hw
    by_cases a6 : isNameS (bytesOf s) = true
    · rw [if_pos a6] at hw
      injection hw with hw
      injection hw with e1 e2
      injection e2 with e2 e3
      subst e1 e2 e3
      exact .inr (.inr (.inr (.inr (.inr ⟨.inl rfl, rfl, hw0, by omega, fun c hc => hall c (by rw [← htb]; exact hc)⟩))))
    rw [if_neg a6] at hw
    cases hw
theorem scanL_ok : ∀ (f : Nat) (p : Nat × Nat) (l : List Nat) (L : List Tok), (∀ c ∈ l, c < 256) → scanL f p l = .ok L → ∀ t ∈ L, TokOk t.kind t.num t.text
  | 0, _, _, L, _, h, t, ht => by
    injection h with h
    subst h
    exact (List.not_mem_nil ht).elim
  | f + 1, p, l, L, h256, h, t, ht => by
    rw [scanL_succ] at h
    by_cases h0 : l.length ≤ blankLen false l
    · rw [if_pos h0] at h
      injection h with h
      subst h
      exact (List.not_mem_nil ht).elim
    · rw [if_neg h0] at h
      have hd : ∀ c ∈ l.drop (blankLen false l), c < 256 := fun c hc => h256 c (List.mem_of_mem_drop hc)
      cases hk : tokL (l.drop (blankLen false l)) with
      | bad k => rw [hk] at h; cases h
      | tok k n x len =>
        rw [hk] at h
        dsimp only at h
        have hok := tokL_ok (l.drop (blankLen false l)) hd (by rw [List.length_drop]; omega) (blank_drop l) hk
        cases hr : scanL f (advs p (l.take (blankLen false l + len))) (l.drop (blankLen false l + len)) with
        | bad q => rw [hr] at h; cases h
        | ok M =>
          rw [hr] at h
          injection h with h
          subst h
          rcases List.mem_cons.1 ht with rfl | ht
          · exact hok
          · exact scanL_ok f _ _ M (fun c hc => h256 c (List.mem_of_mem_drop hc)) hr t ht
theorem scanS_ok (s : ByteArray) (L : List Tok) (h : scanS s = .ok L) : ∀ t ∈ L, TokOk t.kind t.num t.text := by
  rw [scanS_T] at h
  exact scanL_ok _ _ _ _ (fun c hc => bytesOf_lt s c hc) h
def halfT : ByteArray := ⟨#[63, 224, 0, 0, 0, 0, 0, 0]⟩
theorem half_word : wordS (bstr [48, 46, 53]) = some (3, 0, halfT) := by kernel_rfl
/-- what is told of a token that is written anew at p -/
def wantT (p : Nat × Nat) (k n : Int) (t : ByteArray) : Tok := if k = 3 then ⟨3, p, 0, halfT⟩ else ⟨k, p, n, t⟩
theorem tok_spell (p : Nat × Nat) (k n : Int) (t : ByteArray) (h : TokOk k n t) (r : List Nat) (hr : r = [] ∨ isEnd (r.getD 0 0) = true) (h256 : ∀ c ∈ r, c < 256) :
    tokL (spellL k n t ++ r) = .tok (wantT p k n t).kind (wantT p k n t).num (wantT p k n t).text (spellL k n t).length ∧ blankLen false (spellL k n t ++ r) = 0 ∧ 0 < (spellL k n t).length ∧ ∀ c ∈ spellL k n t, c < 256 := by
  rcases h with ⟨rfl, rfl, rfl⟩ | ⟨rfl, rfl, rfl⟩ | ⟨rfl, rfl, h1, h2⟩ | rfl | ⟨rfl, rfl, h1⟩ | ⟨hk, rfl, hw, h0, hD⟩
  · exact ⟨rfl, rfl, Nat.zero_lt_one, fun c hc => by rw [List.mem_singleton.1 hc]; decide⟩
  · exact ⟨rfl, rfl, Nat.zero_lt_one, fun c hc => by rw [List.mem_singleton.1 hc]; decide⟩
  · have e : spellL 2 n ⟨#[]⟩ = nat (Lib.itoa n) := rfl
    have hne := nat_itoa_ne n h1 h2
    have hw := word_itoa n h1 h2
    have hc := nat_itoa n
    rw [e]
    generalize nat (Lib.itoa n) = D at *
    have hD : ∀ c ∈ D, isEnd c = false := fun c h => (digit_not c (hc c h)).1
    have htk := tok_word D r hne hD hr
    rw [hw] at htk
    exact ⟨htk, word_blank D r hne hD, (List.length_pos_iff.2 hne), fun c h => (digit_not c (hc c h)).2.2⟩
  · have e : spellL 3 n t = [48, 46, 53] := rfl
    rw [e]
    have hD : ∀ c ∈ [48, 46, 53], isEnd c = false := by decide
    have htk := tok_word [48, 46, 53] r (by decide) hD hr
    rw [half_word] at htk
    exact ⟨htk, word_blank _ r (by decide) hD, by decide, by decide⟩
  · have e : spellL 4 0 t = 34 :: (hexB (bytesOf t) ++ [34]) := rfl
    have ht256 : ∀ c ∈ bytesOf t, c < 256 := fun c hc => bytesOf_lt t c hc
    rw [e]
    have e2 : 34 :: (hexB (bytesOf t) ++ [34]) ++ r = 34 :: (hexB (bytesOf t) ++ 34 :: r) := by
      rw [List.cons_append, List.append_assoc]
      rfl
    have htk := tok_hex (bytesOf t) r ht256 h256
    rw [bytesOf_length, if_pos h1, bstr_bytesOf] at htk
    have hlen : (34 :: (hexB (bytesOf t) ++ [34])).length = 4 * t.size + 2 := by
      rw [List.length_cons, List.length_append, hexB_length, bytesOf_length]
      rfl
    refine ⟨?_, ?_, ?_, ?_⟩
    · rw [e2, htk, hlen]
      rfl
    · rw [e2]
      rfl
    · rw [hlen]; omega
    · intro c hc
      rcases List.mem_cons.1 hc with rfl | hc
      · decide
      · exact hexB_256 _ [34] ht256 (fun c hc => by rw [List.mem_singleton.1 hc]; decide) c hc
  · have k0 : ¬ k = 0 := by rcases hk with rfl | rfl <;> decide
    have k1 : ¬ k = 1 := by rcases hk with rfl | rfl <;> decide
    have k2 : ¬ k = 2 := by rcases hk with rfl | rfl <;> decide
    have k3 : ¬ k = 3 := by rcases hk with rfl | rfl <;> decide
    have k4 : ¬ k = 4 := by rcases hk with rfl | rfl <;> decide
    have e : spellL k 0 t = bytesOf t := by
      unfold spellL
      rw [if_neg k0, if_neg k1, if_neg k2, if_neg k3, if_neg k4]
    have ew : wantT p k 0 t = ⟨k, p, 0, t⟩ := by
      unfold wantT
      rw [if_neg k3]
    have hne : bytesOf t ≠ [] := fun e => by
      have := bytesOf_length t
      rw [e] at this
      have h9 : 0 = t.size := this
      omega
    have htk := tok_word (bytesOf t) r hne hD hr
    rw [bstr_bytesOf, hw] at htk
    rw [e, ew]
    exact ⟨htk, word_blank _ r hne hD, (List.length_pos_iff.2 hne), fun c hc => bytesOf_lt t c hc⟩
def gapL : Nat → List Nat
  | 0 => [32]
  | 1 => [9]
  | 2 => [10]
  | 3 => [59, 32, 40, 120, 32, 34, 32, 121, 10]
  | _ => [32, 32, 10, 32]
theorem gap_end (j : Nat) : ∀ r, isEnd ((gapL j ++ r).getD 0 0) = true := fun r => by
  match j with
  | 0 => rfl
  | 1 => rfl
  | 2 => rfl
  | 3 => rfl
  | j + 4 => rfl
theorem gap_256 (j : Nat) : (∀ c ∈ gapL j, c < 256) ∧ (gapL j).length ≤ 9 := by
  match j with
  | 0 => exact ⟨by decide, by decide⟩
  | 1 => exact ⟨by decide, by decide⟩
  | 2 => exact ⟨by decide, by decide⟩
  | 3 => exact ⟨by decide, by decide⟩
  | j + 4 => exact ⟨show ∀ c ∈ [32, 32, 10, 32], c < 256 by decide, show 4 ≤ 9 by decide⟩
theorem gap_blank (j : Nat) (l : List Nat) : (gapL j).length + blankLen false l = blankLen false (gapL j ++ l) := by
  match j with
  | 0 => rfl
  | 1 => rfl
  | 2 => rfl
  | 3 =>
    show 9 + blankLen false l = 1 + (1 + (1 + (1 + (1 + (1 + (1 + (1 + (1 + blankLen false l))))))))
    omega
  | j + 4 =>
    show 4 + blankLen false l = 1 + (1 + (1 + (1 + blankLen false l)))
    omega
theorem gap_skip (j : Nat) (p : Nat × Nat) (l : List Nat) (h256 : ∀ c ∈ l, c < 256) : scanT p (gapL j ++ l) = scanT (advs p (gapL j)) l := by
  have hall : ∀ c ∈ gapL j ++ l, c < 256 := fun c hc => by
    rcases List.mem_append.1 hc with hc | hc
    · exact (gap_256 j).1 c hc
    · exact h256 c hc
  rw [scanT_skip p (gapL j ++ l) (gapL j).length hall (by rw [List.drop_left]; exact gap_blank j l) (by rw [List.length_append]; omega), List.take_left, List.drop_left]
/-- so far it is written, and told -/
def BlAt (out : List Nat) (want : List Tok) (p : Nat × Nat) : Prop :=
  p = advs (1, 1) out ∧ (∀ c ∈ out, c < 256) ∧ ∀ r, (r = [] ∨ isEnd (r.getD 0 0) = true) → (∀ c ∈ r, c < 256) → scanT (1, 1) (out ++ r) = ScR.pre want (scanT p r)
theorem BlAt.start : BlAt [] [] (1, 1) := ⟨rfl, fun c hc => (List.not_mem_nil hc).elim, fun r _ _ => (pre_nil _).symm⟩
theorem BlAt.step {out : List Nat} {want : List Tok} {p : Nat × Nat} (h : BlAt out want p) (j : Nat) (k n : Int) (t : ByteArray) (ht : TokOk k n t) :
    BlAt (out ++ (gapL j ++ spellL k n t)) (want ++ [wantT (advs p (gapL j)) k n t]) (advs p (gapL j ++ spellL k n t)) := by
  obtain ⟨h1, h2, h3⟩ := h
  have hs := fun r hr h256 => tok_spell (advs p (gapL j)) k n t ht r hr h256
  have h256s := (hs [] (.inl rfl) (fun c hc => (List.not_mem_nil hc).elim)).2.2.2
  refine ⟨by rw [h1, ← advs_append], fun c hc => ?_, fun r hr hr256 => ?_⟩
  · rcases List.mem_append.1 hc with hc | hc
    · exact h2 c hc
    · rcases List.mem_append.1 hc with hc | hc
      · exact (gap_256 j).1 c hc
      · exact h256s c hc
  · obtain ⟨q1, q2, q3, q4⟩ := hs r hr hr256
    have hsr : ∀ c ∈ spellL k n t ++ r, c < 256 := fun c hc => by
      rcases List.mem_append.1 hc with hc | hc
      · exact q4 c hc
      · exact hr256 c hc
    rw [List.append_assoc, List.append_assoc, h3 (gapL j ++ (spellL k n t ++ r)) (.inr (gap_end j _)) (fun c hc => by
      rcases List.mem_append.1 hc with hc | hc
      · exact (gap_256 j).1 c hc
      · exact hsr c hc), gap_skip j p _ hsr, scanT_tok _ _ hsr (by rw [List.length_append]; omega) q2 q1, List.take_left, List.drop_left, ← advs_append]
    have e : (⟨(wantT (advs p (gapL j)) k n t).kind, advs p (gapL j), (wantT (advs p (gapL j)) k n t).num, (wantT (advs p (gapL j)) k n t).text⟩ : Tok) = wantT (advs p (gapL j)) k n t := by
      unfold wantT
      split <;> rfl
    rw [e, pre_cons]
theorem BlAt.done {out : List Nat} {want : List Tok} {p : Nat × Nat} (h : BlAt out want p) : scanS (bstr (out ++ [10, 59])) = .ok want := by
  obtain ⟨h1, h2, h3⟩ := h
  have h9 : ∀ c ∈ [10, 59], c < 256 := by decide
  have hall : ∀ c ∈ out ++ [10, 59], c < 256 := fun c hc => by
    rcases List.mem_append.1 hc with hc | hc
    · exact h2 c hc
    · exact h9 c hc
  rw [scanS_T, bytesOf_bstr _ hall, h3 [10, 59] (.inr rfl) h9, scanT_blank p 10 [59] h9 rfl]
  have e : scanT (adv 10 p) [59] = .ok [] := rfl
  rw [e]
  show ScR.ok (want ++ []) = _
  rw [List.append_nil]
end Go.Proofs.Ytghddknhoiaboaa
namespace Go.Proofs.Ytghddknhoiaboaa
open Go.ChangeShapes Go.WideShapes Go.ChangeAt Go.RowKit
set_option linter.unusedVariables false
set_option maxRecDepth 100000

theorem strS_count : ∀ (f : Nat) (t : List Nat) (b : List Nat) (n : Nat), (∀ c ∈ t, c < 256) → strS f t = .done b n → b.length ≤ n
  | 0, _, _, _, _, h => by cases h
  | _ + 1, [], _, _, _, h => by cases h
  | f + 1, c :: t, b, n, h256, h => by
    have h' : (if c = 34 then StrR.done [] 1 else match charS (c :: t) with
      | .open_ => .open_
      | .bad k => .bad k
      | .ok b n => pre [b] n (strS f ((c :: t).drop n))) = .done b n := h
    split at h'
    · injection h' with h1 h2
      subst h1 h2
      exact Nat.zero_le _
    · cases hc : charS (c :: t) with
      | open_ => rw [hc] at h'; cases h'
      | bad k => rw [hc] at h'; cases h'
      | ok d m =>
        rw [hc] at h'
        have h3 : pre [d] m (strS f ((c :: t).drop m)) = .done b n := h'
        obtain ⟨hm1, hm2, _⟩ := charS_len hc h256
        cases hr : strS f ((c :: t).drop m) with
        | done b2 n2 =>
          rw [hr] at h3
          injection h3 with h4 h5
          have := strS_count f _ _ _ (fun x hx => h256 x (List.mem_of_mem_drop hx)) hr
          rw [← h4, List.length_append, List.length_singleton]
          omega
        | open_ => rw [hr] at h3; cases h3
        | bad k => rw [hr] at h3; cases h3
theorem itoa_len (n : Int) (h1 : -4611686018427387904 ≤ n) (h2 : n ≤ 4611686018427387903) : (nat (Lib.itoa n)).length ≤ 21 := by
  have h20 : ∀ u : Nat, u < 18446744073709551616 → (Lib.decDigits u).length ≤ 20 := fun u hu => by
    have := Lib.nDigits_le20 u hu
    rw [← Lib.decDigits_length] at this
    exact this
  show ((Lib.itoa n).map _).length ≤ 21
  rw [List.length_map]
  unfold Lib.itoa
  split
  · rw [List.length_cons]
    have := h20 (n.natAbs) (by omega)
    omega
  · have := h20 (n.toNat) (by omega)
    omega
theorem tokL_spell (l : List Nat) (h256 : ∀ c ∈ l, c < 256) (h0 : 0 < l.length) (hb : blankLen false l = 0) {k n : Int} {t : ByteArray} {len : Nat} (h : tokL l = .tok k n t len) : (spellL k n t).length ≤ 4 * len + 21 := by
  have hok := tokL_ok l h256 h0 hb h
  rcases hok with ⟨rfl, rfl, rfl⟩ | ⟨rfl, rfl, rfl⟩ | ⟨rfl, rfl, h1, h2⟩ | rfl | ⟨rfl, rfl, h1⟩ | ⟨hk, rfl, hw, h0', hD⟩
  · show 1 ≤ _
    omega
  · show 1 ≤ _
    omega
  · have := itoa_len n h1 h2
    show (nat (Lib.itoa n)).length ≤ _
    omega
  · show 3 ≤ _
    omega
  · have e : (spellL 4 0 t).length = 4 * t.size + 2 := by
      show (34 :: (hexB (bytesOf t) ++ [34])).length = _
      rw [List.length_cons, List.length_append, hexB_length, bytesOf_length]
      rfl
    rw [e]
    unfold tokL at h
    by_cases h40 : l.getD 0 0 = 40
    · rw [if_pos h40] at h
      injection h with h1 h2 h3 h4
      cases h1
    rw [if_neg h40] at h
    by_cases h41 : l.getD 0 0 = 41
    · rw [if_pos h41] at h
      injection h with h1 h2 h3 h4
      cases h1
    rw [if_neg h41] at h
    by_cases h34 : l.getD 0 0 = 34
    · rw [if_pos h34] at h
      cases hr : strR (l.drop 1) with
      | open_ => rw [hr] at h; cases h
      | bad j => rw [hr] at h; cases h
      | done b m =>
        rw [hr] at h
        dsimp only at h
        have hc := strS_count _ _ _ _ (fun x hx => h256 x (List.mem_of_mem_drop hx)) hr
        by_cases hb4 : b.length ≤ 4096
        · rw [if_pos hb4] at h
          injection h with h1 h2 h3 h4
          have : t.size = b.length := by rw [← h3, size_bstr]
          omega
        · rw [if_neg hb4] at h
          cases h
    rw [if_neg h34] at h
    cases hw : wordS (bstr (l.take (wordLen l))) with
    | none => rw [hw] at h; cases h
    | some x =>
      obtain ⟨k', n', t'⟩ := x
      rw [hw] at h
      injection h with e1 e2 e3 e4
      subst e1
      exfalso
      unfold wordS at hw
      split at hw
      · injection hw with hw; injection hw with q1 q2; cases q1
      · split at hw
        · cases hw
        · split at hw
          · injection hw with hw; injection hw with q1 q2; cases q1
          · split at hw
            · cases hw
            · split at hw
              · injection hw with hw; injection hw with q1 q2; cases q1
              · split at hw
                · injection hw with hw; injection hw with q1 q2; cases q1
                · cases hw
  · have k0 : ¬ k = 0 := by rcases hk with rfl | rfl <;> decide
    have k1 : ¬ k = 1 := by rcases hk with rfl | rfl <;> decide
    have k2 : ¬ k = 2 := by rcases hk with rfl | rfl <;> decide
    have k3 : ¬ k = 3 := by rcases hk with rfl | rfl <;> decide
    have k4 : ¬ k = 4 := by rcases hk with rfl | rfl <;> decide
    have e : spellL k 0 t = bytesOf t := by
      unfold spellL
      rw [if_neg k0, if_neg k1, if_neg k2, if_neg k3, if_neg k4]
    rw [e, bytesOf_length]
    unfold tokL at h
    by_cases h40 : l.getD 0 0 = 40
    · rw [if_pos h40] at h
      injection h with h1 h2 h3 h4
      exact absurd h1.symm k0
    rw [if_neg h40] at h
    by_cases h41 : l.getD 0 0 = 41
    · rw [if_pos h41] at h
      injection h with h1 h2 h3 h4
      exact absurd h1.symm k1
    rw [if_neg h41] at h
    by_cases h34 : l.getD 0 0 = 34
    · rw [if_pos h34] at h
      cases hr : strR (l.drop 1) with
      | open_ => rw [hr] at h; cases h
      | bad j => rw [hr] at h; cases h
      | done b m =>
        rw [hr] at h
        dsimp only at h
        by_cases hb4 : b.length ≤ 4096
        · rw [if_pos hb4] at h
          injection h with h1 h2 h3 h4
          exact absurd h1.symm k4
        · rw [if_neg hb4] at h
          cases h
    rw [if_neg h34] at h
    have hwl := wordLen_le l
    have hts : (bstr (l.take (wordLen l))).size = wordLen l := by rw [size_bstr, List.length_take]; omega
    generalize bstr (l.take (wordLen l)) = s at *
    cases hws : wordS s with
    | none => rw [hws] at h; cases h
    | some x =>
      obtain ⟨k', n', t'⟩ := x
      rw [hws] at h
      injection h with e1 e2 e3 e4
      subst e1 e3
      have hsz : t'.size ≤ s.size := by
        unfold wordS at hws
        split at hws
        · injection hws with hws; injection hws with q1 q2; exact absurd q1.symm k2
        · split at hws
          · cases hws
          · split at hws
            · injection hws with hws; injection hws with q1 q2; exact absurd q1.symm k3
            · split at hws
              · cases hws
              · split at hws
                · injection hws with hws; injection hws with q1 q2; injection q2 with q2 q3; rw [q3]; exact Nat.le_refl _
                · split at hws
                  · injection hws with hws; injection hws with q1 q2; injection q2 with q2 q3; rw [q3]; exact Nat.le_refl _
                  · cases hws
      omega
def wt : List Tok → Nat
  | [] => 0
  | t :: L => (spellL t.kind t.num t.text).length + wt L
theorem wt_take : ∀ (L : List Tok) (i : Nat) (t : Tok), L[i]? = some t → wt (L.take i) + (spellL t.kind t.num t.text).length ≤ wt L ∧ wt (L.take (i + 1)) = wt (L.take i) + (spellL t.kind t.num t.text).length
  | [], i, t, h => by cases h
  | x :: L, 0, t, h => by
    injection h with h
    subst h
    refine ⟨?_, ?_⟩
    · show 0 + _ ≤ _ + wt L
      omega
    · show _ + wt (L.take 0) = 0 + _
      rw [List.take_zero]
      show _ + 0 = 0 + _
      omega
  | x :: L, i + 1, t, h => by
    obtain ⟨h1, h2⟩ := wt_take L i t h
    refine ⟨?_, ?_⟩
    · show _ + wt (L.take i) + _ ≤ _ + wt L
      omega
    · show _ + wt (L.take (i + 1)) = _ + wt (L.take i) + _
      omega
theorem scanL_wt : ∀ (f : Nat) (p : Nat × Nat) (l : List Nat) (L : List Tok), (∀ c ∈ l, c < 256) → scanL f p l = .ok L → wt L ≤ 4 * l.length + 21 * L.length
  | 0, _, _, L, _, h => by
    injection h with h
    subst h
    exact Nat.zero_le _
  | f + 1, p, l, L, h256, h => by
    rw [scanL_succ] at h
    by_cases h0 : l.length ≤ blankLen false l
    · rw [if_pos h0] at h
      injection h with h
      subst h
      exact Nat.zero_le _
    · rw [if_neg h0] at h
      have hd : ∀ c ∈ l.drop (blankLen false l), c < 256 := fun c hc => h256 c (List.mem_of_mem_drop hc)
      cases hk : tokL (l.drop (blankLen false l)) with
      | bad k => rw [hk] at h; cases h
      | tok k n x len =>
        rw [hk] at h
        dsimp only at h
        have hl := tokL_len (l.drop (blankLen false l)) hd (by rw [List.length_drop]; omega) (blank_drop l) hk
        have hsp := tokL_spell (l.drop (blankLen false l)) hd (by rw [List.length_drop]; omega) (blank_drop l) hk
        cases hr : scanL f (advs p (l.take (blankLen false l + len))) (l.drop (blankLen false l + len)) with
        | bad q => rw [hr] at h; cases h
        | ok M =>
          rw [hr] at h
          injection h with h
          subst h
          have := scanL_wt f _ _ M (fun c hc => h256 c (List.mem_of_mem_drop hc)) hr
          rw [List.length_drop] at this hl
          show (spellL k n x).length + wt M ≤ _
          rw [List.length_cons]
          omega
theorem scanS_wt (s : ByteArray) (L : List Tok) (h : scanS s = .ok L) : wt L ≤ 25 * s.size := by
  have hc := scanS_count s L h
  rw [scanS_T] at h
  have := scanL_wt _ _ _ _ (fun c hc => bytesOf_lt s c hc) h
  rw [bytesOf_length] at this
  omega
/-- the tokens that are wanted, when so much of a piece is written -/
def mid (M : List Tok) (g k : Nat) (t : Tok) : List Tok := if k ≤ g then M else M ++ [t]
theorem mid_start (M : List Tok) (g : Nat) (t : Tok) : mid M g 0 t = M := if_pos (Nat.zero_le _)
theorem mid_at (M : List Tok) (g : Nat) (t : Tok) : mid M g g t = M ∧ mid M g (g + 1) t = M ++ [t] := ⟨if_pos (Nat.le_refl _), if_neg (by omega)⟩
theorem mid_not (M : List Tok) (g k : Nat) (t : Tok) (h : ¬ k = g) : mid M g (k + 1) t = mid M g k t := by
  unfold mid
  by_cases h1 : k ≤ g
  · rw [if_pos (by omega), if_pos h1]
  · rw [if_neg (by omega), if_neg h1]
theorem advs_snoc (p : Nat × Nat) (l : List Nat) (k : Nat) (h : k < l.length) : advs p (l.take (k + 1)) = adv (l.getD k 0) (advs p (l.take k)) := by
  rw [take_snoc l k h, advs_append]
  rfl
theorem advs_le : ∀ (l : List Nat) (p : Nat × Nat), (advs p l).1 ≤ p.1 + l.length ∧ (advs p l).2 ≤ p.2 + l.length + 1
  | [], p => ⟨Nat.le_refl _, Nat.le_succ _⟩
  | c :: t, p => by
    have h := advs_le t (adv c p)
    have e : advs p (c :: t) = advs (adv c p) t := rfl
    rw [e, List.length_cons]
    unfold adv at h ⊢
    split
    · rename_i hc
      rw [if_pos hc] at h
      have h1 := h.1
      have h2 := h.2
      dsimp only at h1 h2
      constructor <;> omega
    · rename_i hc
      rw [if_neg hc] at h
      have h1 := h.1
      have h2 := h.2
      dsimp only at h1 h2
      constructor <;> omega
end Go.Proofs.Ytghddknhoiaboaa
namespace Go.Proofs.Ytghddknhoiaboaa
open Go.ChangeShapes Go.WideShapes Go.ChangeAt Go.RowKit
set_option linter.unusedVariables false
set_option maxRecDepth 100000

theorem mod5 (b : Int) : ∃ m : Nat, wrap64 ((IntKind.u64.wrap b).tmod 5) = (m : Int) ∧ m < 5 := by
  have h1 : 0 ≤ IntKind.u64.wrap b := by simp only [IntKind.wrap, IntKind.bits, IntKind.signed]; simp; omega
  generalize IntKind.u64.wrap b = x at *
  rw [Int.tmod_eq_emod_of_nonneg h1]
  refine ⟨(x % 5).toNat, ?_, by omega⟩
  unfold wrap64
  omega
theorem half_ref : refWordS ⟨#[48, 46, 53]⟩ = some (3, 0, halfT) := by
  rw [← word_order _ (by decide)]
  exact half_word
/-- the five gaps, as they lie in memory -/
def FillAt (F : Nat) (W : World) : Prop := ∀ j, j < 5 → W.cell? ⟨F, j, none⟩ = some (.string (bstr (gapL j)))
--@@GATED lexBlanks_law
set_option maxHeartbeats 16000000 in
theorem lexBlanks_law (s : ByteArray) (a : Option Addr) (len cap : Nat) (zs : List Int) (w : World) (mx : Int) (hmx : w.cell? ⟨1, 0, none⟩ = some (.int .i64 mx)) (hs : s.size ≤ maxLen) (w0 : IsRow .i64 w a len cap zs) :
    Calls Try.prog 5 #[.string s, .slice a len cap] w fun e w' => e = .returned (.bool true) ∧ Below w.heap.size w w' := by
  have hlt := lt_of_cell hmx
  have HM : Hid (∀ W, Below w.heap.size w W → W.cell? ⟨1, 0, none⟩ = some (.int .i64 mx)) := Lib.hid (fun W hb => by
    rw [World.cell?_of_block (a := ⟨1, 0, none⟩) (hb.block _ hlt)]
    exact hmx)
  have HL0 := Lib.hid (lexes_any w mx hmx)
  have HGA : Hid (len ≤ cap ∧ ∀ i, i < len → ∃ (b o : Nat) (z : Int), a = some ⟨b, o, none⟩ ∧ ∀ W, Below w.heap.size w W → W.cell? ⟨b, o + i, none⟩ = some (.int .i64 z)) := Lib.hid (by
    rcases w0 with ⟨rfl, rfl, rfl, rfl⟩ | ⟨x, rfl, h1, h2, h3, h4, h5⟩
    · exact ⟨Nat.le_refl _, fun i hi => absurd hi (Nat.not_lt_zero _)⟩
    · refine ⟨h1, fun i hi => ?_⟩
      obtain ⟨b, off, spot⟩ := x
      have hc0 := h4 0 (by omega)
      have hspot : spot = none := by simpa [Addr.add] using World.cell?_spot hc0
      subst hspot
      refine ⟨b, off, zs.getD i 0, rfl, fun W hb => ?_⟩
      have hci := h4 i (by omega)
      have e1 : (⟨b, off, none⟩ : Addr).add i = ⟨b, off + i, none⟩ := by simp [Addr.add]
      rw [e1] at hci
      rw [World.cell?_of_block (a := ⟨b, off + i, none⟩) (hb.block b (lt_of_cell hci))]
      exact hci)
  unfold maxLen at hs
  clear hlt w0
  by_cases h2 : s.size ≤ 2000
  · have i1 : ¬ (2000 : Int) < (s.size : Int) := by omega
    have HS1 := Lib.hid (fun W hm => scan_any s (by omega) W mx hm)
    have HV1 := Lib.hid (fun W e w' (h : ScanP W s e w') => h.view)
    have hc1 := resOf_count s
    have ht1 : ((resOf s).2.2 = 0 ∧ wt (resOf s).1 ≤ 25 * s.size ∧ ∀ t ∈ (resOf s).1, TokOk t.kind t.num t.text) ∨ (resOf s).2.2 = 10 := by
      rcases resOf_two s with ⟨h, h', _⟩ | ⟨h, _⟩
      · exact .inl ⟨h, scanS_wt s _ h', scanS_ok s _ h'⟩
      · exact .inr h
    generalize resOf s = r1 at *
    obtain ⟨L, ⟨p1, q1⟩, e1⟩ := r1
    dsimp only at *
    have hL : L.length ≤ 6000 := by omega
    have hmxw := HM.out w (Below.refl _ _)
    clear hmx
    go_enter Try.func5, Try.ntmps5
    go_wp2_with fail
    refine (HS1.out w hmxw).mono ?_
    intro e w10 hpost
    obtain ⟨v1, rfl, hown, hb⟩ := HV1.out w e w10 hpost
    obtain ⟨W1, hW⟩ : ∃ W, W = w10.alloc (.cells #[.int .i64 (p1 : Int), .int .i64 (q1 : Int)] 25) := ⟨_, rfl⟩
    have hb2 : Below w10.heap.size w10 W1 := by rw [hW]; exact (Below.refl _ _).alloc (Nat.le_refl _) _
    have HO1 := Lib.hid (own_only hown (Only.of_below (F := fun _ => False) hb2) (fun _ _ h => h))
    have HD1 : Hid (Below w.heap.size w W1) := Lib.hid (hb.trans (hb2.mono hb.size))
    have HW1 := Lib.hid hW
    clear hpost hown hb hb2 hW HS1 HV1 hmxw
    have HL1 := Lib.hid (lexes_any W1 mx (HM.out W1 HD1.out))
    go_wp2_with fail
    rw [← HW1.out]
    refine HL1.out.mono ?_
    clear HL1
    rintro e w2 ⟨rfl, hb2⟩
    have HD2 := Lib.hid (HD1.out.trans (hb2.mono HD1.out.size))
    have HO2 := Lib.hid (own_only HO1.out (Only.of_below (F := fun _ => False) hb2) (fun _ _ h => h))
    clear hb2 HO1
    rcases ht1 with ⟨h10, hwt, hok⟩ | h11
    · subst h10
      have HOK := Lib.hid hok
      obtain ⟨va, vc, rfl⟩ := own_slice HO2.out
      obtain ⟨W3, hW3⟩ : ∃ W3, W3 = w2.alloc (.cells #[.string ⟨#[32]⟩, .string ⟨#[9]⟩, .string ⟨#[10]⟩, .string ⟨#[59, 32, 40, 120, 32, 34, 32, 121, 10]⟩, .string ⟨#[32, 32, 10, 32]⟩] 9) := ⟨_, rfl⟩
      have hb3 : Below w2.heap.size w2 W3 := by rw [hW3]; exact (Below.refl _ _).alloc (Nat.le_refl _) _
      have hc3 : W3.heap[w2.heap.size]? = some (.cells #[.string ⟨#[32]⟩, .string ⟨#[9]⟩, .string ⟨#[10]⟩, .string ⟨#[59, 32, 40, 120, 32, 34, 32, 121, 10]⟩, .string ⟨#[32, 32, 10, 32]⟩] 9) := by rw [hW3]; exact heap_alloc _ _
      have HFL : Hid (∀ W, Below W3.heap.size W3 W → FillAt w2.heap.size W) := Lib.hid (fun W hb j hj => by
        have e := (hb.block _ (Array.getElem?_eq_some_iff.1 hc3).1).trans hc3
        match j with
        | 0 => exact cell_of_row W _ 0 _ _ (0, 0) e
        | 1 => exact cell_of_row W _ 1 _ _ (0, 0) e
        | 2 => exact cell_of_row W _ 2 _ _ (0, 0) e
        | 3 => exact cell_of_row W _ 3 _ _ (0, 0) e
        | 4 => exact cell_of_row W _ 4 _ _ (0, 0) e
        | j + 5 => omega)
      have HD3 := Lib.hid (HD2.out.trans (hb3.mono HD2.out.size))
      have HO3 := Lib.hid (own_only HO2.out (Only.of_below (F := fun _ => False) hb3) (fun _ _ h => h))
      have HW3 := Lib.hid hW3
      clear hok hb3 hc3 hW3 HO2
      go_wp2_with fail
      rw [← HW3.out]
      go_loopw [9, 10, 11, 12, 13] (fun vo vl vk vw vi wr => ∃ (i : Nat) (out : List Nat) (M : List Tok) (p : Nat × Nat), i ≤ L.length ∧ i ≤ 100 ∧ out.length ≤ 9 * i + wt (L.take i) ∧ M.length = i ∧ vo = .string (bstr out) ∧ vl = .int .i64 (p.1 : Int) ∧ vk = .int .i64 (p.2 : Int) ∧ vi = .int .i64 i ∧ Hid (BlAt out M p) ∧ Hid (wr.ownsRow W3.heap.size 38 5 vw M.length (toks M)) ∧ Hid (Below W3.heap.size W3 wr)) (fun _ _ _ _ vi _ => L.length - (intOf vi).toNat)
      case atStart => exact ⟨0, [], [], (1, 1), Nat.zero_le _, Nat.zero_le _, Nat.zero_le _, rfl, rfl, rfl, rfl, rfl, Lib.hid BlAt.start, Lib.hid (toksR_none _ _), Lib.hid (Below.refl _ _)⟩
      case round =>
        obtain ⟨i, out, M, p, hi, hi100, hout, hM, rfl, rfl, rfl, rfl, HBl, HR, HB⟩ := hrel
        have HMl := Lib.hid hM
        clear hM
        have HDr := Lib.hid (HD3.out.trans (HB.out.mono HD3.out.size))
        have hpb : p.1 ≤ 1 + out.length ∧ p.2 ≤ 1 + out.length + 1 := by
          rw [HBl.out.1]
          exact advs_le out (1, 1)
        by_cases hgo : i < L.length
        · have j1 : (i : Int) < (L.length : Int) := by omega
          by_cases h100 : i < 100
          · have j2 : (i : Int) < 100 := by omega
            obtain ⟨t, ht⟩ : ∃ t, L[i]? = some t := ⟨_, List.getElem?_eq_getElem hgo⟩
            obtain ⟨hw1, hw2⟩ := wt_take L i t ht
            have hokt := HOK.out t (List.mem_of_getElem? ht)
            obtain ⟨g, cap2, hv, hg, hcells⟩ := row_tok HO3.out (by omega)
            cases hv
            have HC : Hid (∀ W, Below W3.heap.size W3 W → W.cell? ⟨g, i * 5, none⟩ = some (.int .i64 t.kind) ∧ W.cell? ⟨g, i * 5 + 1, none⟩ = some (.int .i64 (t.at_.1 : Int)) ∧ W.cell? ⟨g, i * 5 + 2, none⟩ = some (.int .i64 (t.at_.2 : Int)) ∧ W.cell? ⟨g, i * 5 + 3, none⟩ = some (.int .i64 t.num) ∧ W.cell? ⟨g, i * 5 + 4, none⟩ = some (.string t.text)) := Lib.hid (fun W hW => hcells W (hW.block g hg) i t ht)
            have hn2 : t.kind = 2 → -4611686018427387904 ≤ t.num ∧ t.num ≤ 4611686018427387903 := by
              rcases hokt with ⟨h, _⟩ | ⟨h, _⟩ | ⟨_, _, h⟩ | h | ⟨h, _⟩ | ⟨h | h, _⟩
              · omega
              · omega
              · exact fun _ => h
              · omega
              · omega
              · omega
              · omega
            have hn4 : t.kind = 4 → t.text.size ≤ 10000 := by
              rcases hokt with ⟨h, _⟩ | ⟨h, _⟩ | ⟨h, _⟩ | h | ⟨_, _, h⟩ | ⟨h | h, _⟩
              · omega
              · omega
              · omega
              · omega
              · exact fun _ => by omega
              · omega
              · omega
            have HSp := Lib.hid (spell_any t.kind t.num t.at_ t.text hn2 hn4 wr)
            have HOKt := Lib.hid hokt
            have HT := Lib.hid ht
            obtain ⟨c0, c1, c2, c3, c4⟩ := HC.out wr HB.out
            obtain ⟨tk, ⟨tp, tq⟩, tn, tt⟩ := t
            dsimp only at *
            have f0 := HFL.out wr HB.out 0 (by decide)
            clear hcells hokt hn2 hn4 ht
            go_upto_if 56 with fail
            go_cut [14] from 40 to 115 (fun v14 wx => ∃ j : Nat, v14 = .string (bstr (gapL j)) ∧ wr = wx)
            case first =>
              by_cases hlen : i < len
              · have j3 : (i : Int) < (len : Int) := by omega
                obtain ⟨hcap, hga⟩ := HGA.out
                obtain ⟨b, o, z, rfl, hz⟩ := hga i hlen
                have hz1 := hz wr HDr.out
                obtain ⟨m, hm, hm5⟩ := mod5 z
                have HMM := Lib.hid hm
                have fm := HFL.out wr HB.out m hm5
                have m0 : (m : Int) < 5 := by omega
                clear hga hz hm
                have hmm := HMM.out
                go_wp2_with fail
                clear hmm
                go_meet
                case rel => exact ⟨m, rfl, rfl⟩
              · have j3 : ¬ (i : Int) < (len : Int) := by omega
                go_wp2_with fail
                go_meet
                case rel => exact ⟨0, rfl, rfl⟩
            case rest =>
              obtain ⟨jg, rfl, rfl⟩ := hcut
              have hg9 := gap_256 jg
              have hz1 : (bstr (gapL jg)).size = (gapL jg).length := size_bstr _
              have hz2 : (bstr (spellL tk tn tt)).size = (spellL tk tn tt).length := size_bstr _
              have hcat : bstr (gapL jg) ++ bstr (spellL tk tn tt) = bstr (gapL jg ++ spellL tk tn tt) := (bstr_append _ _).symm
              have HSt := Lib.hid (HBl.out.step jg tk tn tt HOKt.out)
              obtain ⟨A, hA⟩ : ∃ A, A = gapL jg ++ spellL tk tn tt := ⟨_, rfl⟩
              have hAl : A.length = (gapL jg).length + (spellL tk tn tt).length := by rw [hA, List.length_append]
              have hA256 : ∀ c ∈ A, c < 256 := by
                rw [hA]
                intro c hc
                rcases List.mem_append.1 hc with hc | hc
                · exact hg9.1 c hc
                · exact (tok_spell (1, 1) tk tn tt HOKt.out [] (.inl rfl) (fun c hc => (List.not_mem_nil hc).elim)).2.2.2 c hc
              have hsp1 : 0 < (spellL tk tn tt).length := (tok_spell (1, 1) tk tn tt HOKt.out [] (.inl rfl) (fun c hc => (List.not_mem_nil hc).elim)).2.2.1
              rw [← hA] at hcat HSt
              have hzA : (bstr A).size = A.length := size_bstr _
              have HBA := Lib.hid (bytesOf_bstr A hA256)
              obtain ⟨T, hT⟩ : ∃ T, T = wantT (advs p (gapL jg)) tk tn tt := ⟨_, rfl⟩
              rw [← hT] at HSt
              have HTT := Lib.hid hT
              have HAA : Hid (A.take (gapL jg).length = gapL jg) := Lib.hid (by rw [hA, List.take_left])
              clear hT hA hA256
              generalize hgl : (gapL jg).length = gl at *
              generalize hsl : (spellL tk tn tt).length = sl at *
              have s1 : ¬ 9223372036854775807 < gl + sl := by omega
              obtain ⟨hg256, hgl9⟩ := hg9
              clear hg256
              have hAb : A.length ≤ 60000 := by omega
              go_wp2_with fail
              refine HSp.out.mono ?_
              clear HSp
              rintro e w5 ⟨rfl, hb5⟩
              have HD5 := Lib.hid (HB.out.trans (hb5.mono HB.out.size))
              have HR5 := Lib.hid (own_only HR.out (Only.of_below (F := fun _ => False) hb5) (fun _ _ h => h))
              clear hb5 HR c0 c1 c2 c3 c4 f0
              go_wp2_with fail
              obtain ⟨vb, vd, rfl⟩ := own_slice HR5.out
              go_loopw [10, 11, 12, 17] (fun vl vk vw vq wx => ∃ k : Nat, k ≤ A.length ∧ vl = .int .i64 ((advs p (A.take k)).1 : Int) ∧ vk = .int .i64 ((advs p (A.take k)).2 : Int) ∧ vq = .int .i64 k ∧ Hid (wx.ownsRow W3.heap.size 38 5 vw (mid M gl k T).length (toks (mid M gl k T))) ∧ Hid (Below W3.heap.size W3 wx)) (fun _ _ _ vq _ => A.length - (intOf vq).toNat)
              case atStart => exact ⟨0, Nat.zero_le _, rfl, rfl, rfl, Lib.hid (by rw [mid_start]; exact HR5.out), HD5⟩
              case round =>
                obtain ⟨k, hk, rfl, rfl, rfl, HRk, HBk⟩ := hrel
                have hPb := advs_le (A.take k) p
                rw [List.length_take] at hPb
                by_cases hka : k < A.length
                · have k1 : (k : Int) < (A.length : Int) := by omega
                  have hix := idx_str (bstr A) k (by rw [hzA]; exact hka) (by omega)
                  rw [HBA.out] at hix
                  have hadv := advs_snoc p A k hka
                  generalize A.getD k 0 = c at *
                  generalize hPk : advs p (A.take k) = P at *
                  generalize hPn : advs p (A.take (k + 1)) = Pn at *
                  obtain ⟨P1, P2⟩ := P
                  dsimp only at hPb
                  have hPb1 : P1 ≤ 200000 := by omega
                  have hPb2 : P2 ≤ 200000 := by omega
                  have HPk := Lib.hid hPk
                  have HPn := Lib.hid hPn
                  have HAdv := Lib.hid hadv
                  clear hPk hPn hadv hPb
                  obtain ⟨vkb, vkd, hvk⟩ := own_slice HRk.out
                  subst hvk
                  go_upto_if 84 with fail
                  go_cut [12, 17, 18] from 75 to 112 (fun v12 v17 v18 wx => v17 = .int .i64 (k : Int) ∧ Hid (wx.ownsRow W3.heap.size 38 5 v12 (mid M gl (k + 1) T).length (toks (mid M gl (k + 1) T))) ∧ Hid (Below W3.heap.size W3 wx))
                  case first =>
                    by_cases hkg : k = gl
                    · have k2 : ((k : Int) == (gl : Int)) = true := by rw [hkg]; simp
                      obtain ⟨hm0, hm1⟩ := mid_at M gl T
                      have HF := Lib.hid (from_any wr _ (.slice (some ⟨g, 0, none⟩) L.length vc) L (own_only HO3.out (Only.of_below (F := fun _ => False) HBk.out) (fun _ _ h => h)) hL)
                      have hRk := HRk.out
                      rw [hkg, hm0] at hRk
                      have hml : mid M gl k T = M := by rw [hkg, hm0]
                      have HRk2 := Lib.hid hRk
                      have HM1 : Hid (mid M gl (k + 1) T = M ++ [T]) := Lib.hid (by rw [hkg, hm1])
                      have HTP : Hid (T = wantT (P1, P2) tk tn tt) := Lib.hid (by rw [HTT.out, ← HPk.out, hkg, HAA.out])
                      have HKG := Lib.hid hkg
                      clear hRk hm0 hm1
                      rw [hml] at *
                      clear hml hkg
                      go_wp2_with fail
                      refine HF.out.mono ?_
                      clear HF
                      rintro e w7 ⟨v7, rfl, hown7, hb7⟩
                      obtain ⟨g7, cap7, rfl, hg7, hcells7⟩ := row_tok hown7 (by omega)
                      obtain ⟨d0, d1, d2, d3, d4⟩ := hcells7 w7 rfl i _ HT.out
                      dsimp only at d0 d1 d2 d3 d4
                      have HB7 := Lib.hid hb7
                      obtain ⟨W8, hW8⟩ : ∃ W8, W8 = w7.alloc (.cells #[.int .i64 tk, .int .i64 (tp : Int), .int .i64 (tq : Int), .int .i64 tn, .string tt] 38) := ⟨_, rfl⟩
                      have hb8 : Below w7.heap.size w7 W8 := by rw [hW8]; exact (Below.refl _ _).alloc (Nat.le_refl _) _
                      have hz8 : W8.heap[w7.heap.size]? = some (.cells #[.int .i64 tk, .int .i64 (tp : Int), .int .i64 (tq : Int), .int .i64 tn, .string tt] 38) := by rw [hW8]; exact heap_alloc _ _
                      have HB8 := Lib.hid (hb7.trans (hb8.mono hb7.size))
                      have HB78 := Lib.hid hb8
                      have HW8 := Lib.hid hW8
                      have HZ8 := Lib.hid hz8
                      clear hown7 hcells7 hg7 hb7 hb8 hW8 hz8
                      by_cases h3 : tk = 3
                      · subst h3
                        have HWd := Lib.hid (refWord_any ⟨#[48, 46, 53]⟩ (by decide) (by decide) W8)
                        rw [half_ref] at HWd
                        go_wp2_with fail
                        rw [← HW8.out]
                        refine HWd.out.mono ?_
                        clear HWd
                        rintro e w9 ⟨he, hb9⟩
                        have he2 : e = .returned (.tuple #[.agg #[.int .i64 3, .int .i64 0, .int .i64 0, .int .i64 0, .string halfT], .bool true]) := he
                        subst he2
                        have hz9 := (hb9.block _ (Array.getElem?_eq_some_iff.1 HZ8.out).1).trans HZ8.out
                        have HZ9 := Lib.hid hz9
                        have z0 := cell_of_row w9 w7.heap.size 0 _ _ (0, 0) hz9
                        have z1 := cell_of_row w9 w7.heap.size 1 _ _ (0, 0) hz9
                        have z2 := cell_of_row w9 w7.heap.size 2 _ _ (0, 0) hz9
                        have z3 := cell_of_row w9 w7.heap.size 3 _ _ (0, 0) hz9
                        have z4 := cell_of_row w9 w7.heap.size 4 _ _ (0, 0) hz9
                        have y0 := frozen_of_row w9 w7.heap.size 0 _ _ hz9
                        have y1 := frozen_of_row w9 w7.heap.size 1 _ _ hz9
                        have y2 := frozen_of_row w9 w7.heap.size 2 _ _ hz9
                        have y3 := frozen_of_row w9 w7.heap.size 3 _ _ hz9
                        have y4 := frozen_of_row w9 w7.heap.size 4 _ _ hz9
                        have HB9 := Lib.hid hb9
                        clear hz9 he hb9 d0 d1 d2 d3 d4
                        go_upto_region 26 with fail
                        clear z0 z1 z2 z3 z4 y0 y1 y2 y3 y4
                        have hz10 : (((((((w9.setCell ⟨w7.heap.size, 0, none⟩ (.int .i64 3)).setCell ⟨w7.heap.size, 1, none⟩ (.int .i64 0)).setCell ⟨w7.heap.size, 2, none⟩ (.int .i64 0)).setCell ⟨w7.heap.size, 3, none⟩ (.int .i64 0)).setCell ⟨w7.heap.size, 4, none⟩ (.string halfT)).setCell ⟨w7.heap.size, 1, none⟩ (.int .i64 (P1 : Int))).setCell ⟨w7.heap.size, 2, none⟩ (.int .i64 (P2 : Int))).heap[w7.heap.size]? = some (.cells #[.int .i64 3, .int .i64 (P1 : Int), .int .i64 (P2 : Int), .int .i64 0, .string halfT] 38) := by rw [set_put _ _ 2 _ (set_put _ _ 1 _ (tok_set HZ9.out _ _ _ _ _))]; rfl
                        have hb10 : Below w7.heap.size w7 (((((((w9.setCell ⟨w7.heap.size, 0, none⟩ (.int .i64 3)).setCell ⟨w7.heap.size, 1, none⟩ (.int .i64 0)).setCell ⟨w7.heap.size, 2, none⟩ (.int .i64 0)).setCell ⟨w7.heap.size, 3, none⟩ (.int .i64 0)).setCell ⟨w7.heap.size, 4, none⟩ (.string halfT)).setCell ⟨w7.heap.size, 1, none⟩ (.int .i64 (P1 : Int))).setCell ⟨w7.heap.size, 2, none⟩ (.int .i64 (P2 : Int))) := (((HB78.out.trans (HB9.out.mono HB78.out.size)).setCell (p := ⟨w7.heap.size, 0, none⟩) (Nat.le_refl _) _) |>.setCell (p := ⟨w7.heap.size, 1, none⟩) (Nat.le_refl _) _ |>.setCell (p := ⟨w7.heap.size, 2, none⟩) (Nat.le_refl _) _ |>.setCell (p := ⟨w7.heap.size, 3, none⟩) (Nat.le_refl _) _ |>.setCell (p := ⟨w7.heap.size, 4, none⟩) (Nat.le_refl _) _ |>.setCell (p := ⟨w7.heap.size, 1, none⟩) (Nat.le_refl _) _ |>.setCell (p := ⟨w7.heap.size, 2, none⟩) (Nat.le_refl _) _)
                        generalize hW10 : (((((((w9.setCell ⟨w7.heap.size, 0, none⟩ (.int .i64 3)).setCell ⟨w7.heap.size, 1, none⟩ (.int .i64 0)).setCell ⟨w7.heap.size, 2, none⟩ (.int .i64 0)).setCell ⟨w7.heap.size, 3, none⟩ (.int .i64 0)).setCell ⟨w7.heap.size, 4, none⟩ (.string halfT)).setCell ⟨w7.heap.size, 1, none⟩ (.int .i64 (P1 : Int))).setCell ⟨w7.heap.size, 2, none⟩ (.int .i64 (P2 : Int))) = W10 at hz10 hb10 ⊢
                        have hbr : Below wr.heap.size wr W10 := HB7.out.trans (hb10.mono HB7.out.size)
                        have hTe : T = ⟨3, (P1, P2), 0, halfT⟩ := HTP.out
                        have hal : Below W10.heap.size W10 (W10.alloc (.cells #[.int .i64 3, .int .i64 (P1 : Int), .int .i64 (P2 : Int), .int .i64 0, .string halfT] 38)) := (Below.refl _ _).alloc (Nat.le_refl _) _
                        have hbr2 := hbr.trans (hal.mono hbr.size)
                        obtain ⟨nv9, W11, hr, hown9, hb11⟩ := run_snoc_tokR (W10.alloc (.cells #[.int .i64 3, .int .i64 (P1 : Int), .int .i64 (P2 : Int), .int .i64 0, .string halfT] 38)) 29 W3.heap.size W10.heap.size (.slice vkb M.length vkd) M ⟨3, (P1, P2), 0, halfT⟩ (own_only HRk2.out (Only.of_below (F := fun _ => False) hbr2) (fun _ _ h => h)) (fun j u hu => cell_at0 W10 _ _ j u (by
                          show (tokCells ⟨3, (P1, P2), 0, halfT⟩).toArray[j]? = some u
                          rw [List.getElem?_toArray]
                          exact hu)) (by have := HMl.out; omega) (Nat.le_trans HBk.out.size hbr2.size)
                        have HO9 : Hid (W11.ownsRow W3.heap.size 38 5 nv9 (mid M gl (k + 1) T).length (toks (mid M gl (k + 1) T))) := Lib.hid (by
                          rw [HM1.out, hTe]; exact hown9)
                        have HB11 : Hid (Below W3.heap.size W3 W11) := Lib.hid (HBk.out.trans ((hbr2.mono HBk.out.size).trans hb11))
                        have HRn := Lib.hid hr
                        have x0 := cell_of_row W10 w7.heap.size 0 _ _ (0, 0) hz10
                        have x1 := cell_of_row W10 w7.heap.size 1 _ _ (0, 0) hz10
                        have x2 := cell_of_row W10 w7.heap.size 2 _ _ (0, 0) hz10
                        have x3 := cell_of_row W10 w7.heap.size 3 _ _ (0, 0) hz10
                        have x4 := cell_of_row W10 w7.heap.size 4 _ _ (0, 0) hz10
                        clear hr hown9 hb11 hal hbr hbr2 hb10 hz10 hTe hW10
                        go_wp2_with (at_builtin; refine wpList_append_run rfl (.tmp 101) (.tmp 103) 29 29 rfl rfl rfl HRn.out ?_)
                        go_meet
                        case rel => exact ⟨by first | rfl | rw [HKG.out], HO9, HB11⟩
                      · have b3 : (tk == 3) = false := by simpa using h3
                        go_upto_region 26 with fail
                        clear d0 d1 d2 d3 d4
                        have hz10 : (w7.alloc (.cells #[.int .i64 tk, .int .i64 (P1 : Int), .int .i64 (P2 : Int), .int .i64 tn, .string tt] 38)).heap[w7.heap.size]? = some (.cells #[.int .i64 tk, .int .i64 (P1 : Int), .int .i64 (P2 : Int), .int .i64 tn, .string tt] 38) := heap_alloc _ _
                        have hb10 : Below w7.heap.size w7 (w7.alloc (.cells #[.int .i64 tk, .int .i64 (P1 : Int), .int .i64 (P2 : Int), .int .i64 tn, .string tt] 38)) := (Below.refl _ _).alloc (Nat.le_refl _) _
                        generalize hW10 : (w7.alloc (.cells #[.int .i64 tk, .int .i64 (P1 : Int), .int .i64 (P2 : Int), .int .i64 tn, .string tt] 38)) = W10 at hz10 hb10 ⊢
                        have hbr : Below wr.heap.size wr W10 := HB7.out.trans (hb10.mono HB7.out.size)
                        have hTe : T = ⟨tk, (P1, P2), tn, tt⟩ := by rw [HTP.out]; exact if_neg h3
                        have hal : Below W10.heap.size W10 (W10.alloc (.cells #[.int .i64 tk, .int .i64 (P1 : Int), .int .i64 (P2 : Int), .int .i64 tn, .string tt] 38)) := (Below.refl _ _).alloc (Nat.le_refl _) _
                        have hbr2 := hbr.trans (hal.mono hbr.size)
                        obtain ⟨nv9, W11, hr, hown9, hb11⟩ := run_snoc_tokR (W10.alloc (.cells #[.int .i64 tk, .int .i64 (P1 : Int), .int .i64 (P2 : Int), .int .i64 tn, .string tt] 38)) 29 W3.heap.size W10.heap.size (.slice vkb M.length vkd) M ⟨tk, (P1, P2), tn, tt⟩ (own_only HRk2.out (Only.of_below (F := fun _ => False) hbr2) (fun _ _ h => h)) (fun j u hu => cell_at0 W10 _ _ j u (by
                          show (tokCells ⟨tk, (P1, P2), tn, tt⟩).toArray[j]? = some u
                          rw [List.getElem?_toArray]
                          exact hu)) (by have := HMl.out; omega) (Nat.le_trans HBk.out.size hbr2.size)
                        have HO9 : Hid (W11.ownsRow W3.heap.size 38 5 nv9 (mid M gl (k + 1) T).length (toks (mid M gl (k + 1) T))) := Lib.hid (by
                          rw [HM1.out, hTe]; exact hown9)
                        have HB11 : Hid (Below W3.heap.size W3 W11) := Lib.hid (HBk.out.trans ((hbr2.mono HBk.out.size).trans hb11))
                        have HRn := Lib.hid hr
                        have x0 := cell_of_row W10 w7.heap.size 0 _ _ (0, 0) hz10
                        have x1 := cell_of_row W10 w7.heap.size 1 _ _ (0, 0) hz10
                        have x2 := cell_of_row W10 w7.heap.size 2 _ _ (0, 0) hz10
                        have x3 := cell_of_row W10 w7.heap.size 3 _ _ (0, 0) hz10
                        have x4 := cell_of_row W10 w7.heap.size 4 _ _ (0, 0) hz10
                        clear hr hown9 hb11 hal hbr hbr2 hb10 hz10 hTe hW10
                        go_wp2_with (at_builtin; refine wpList_append_run rfl (.tmp 101) (.tmp 103) 29 29 rfl rfl rfl HRn.out ?_)
                        go_meet
                        case rel => exact ⟨by first | rfl | rw [HKG.out], HO9, HB11⟩
                    · have k2 : ((k : Int) == (gl : Int)) = false := by
                        have : ¬ (k : Int) = (gl : Int) := by omega
                        simpa using this
                      have hmid := mid_not M gl k T hkg
                      have HRn : Hid (wr.ownsRow W3.heap.size 38 5 (.slice vkb (mid M gl k T).length vkd) (mid M gl (k + 1) T).length (toks (mid M gl (k + 1) T))) := Lib.hid (by rw [hmid]; exact HRk.out)
                      clear hmid
                      go_wp2_with fail
                      go_meet
                      case rel => exact ⟨rfl, HRn, HBk⟩
                  case rest =>
                    obtain ⟨rfl, HRn, HBn⟩ := hcut
                    by_cases h10 : c = 10
                    · have k3 : ((c : Int) == 10) = true := by rw [h10]; rfl
                      have HPe : Hid (Pn = (P1 + 1, 1)) := Lib.hid (by rw [HAdv.out]; exact if_pos h10)
                      clear h10
                      go_wp2_with fail
                      go_roundw
                      case rel => exact ⟨k + 1, by omega, by rw [HPn.out, HPe.out]; go_num, by rw [HPn.out, HPe.out]; rfl, by go_num, HRn, HBn⟩
                      case measure => simp [intOf]; omega
                    · have k3 : ((c : Int) == 10) = false := by
                        have : ¬ (c : Int) = 10 := by omega
                        simpa using this
                      have HPe : Hid (Pn = (P1, P2 + 1)) := Lib.hid (by rw [HAdv.out]; exact if_neg h10)
                      clear h10
                      go_wp2_with fail
                      go_roundw
                      case rel => exact ⟨k + 1, by omega, by rw [HPn.out, HPe.out], by rw [HPn.out, HPe.out]; go_num, by go_num, HRn, HBn⟩
                      case measure => simp [intOf]; omega
                · have k1 : ¬ (k : Int) < (A.length : Int) := by omega
                  obtain rfl : k = A.length := by omega
                  obtain ⟨PA, hPA⟩ : ∃ x, x = advs p (A.take A.length) := ⟨_, rfl⟩
                  rw [← hPA]
                  rw [← hPA] at hPb
                  rw [List.take_length] at hPA
                  have HPA := Lib.hid hPA
                  have hmid : mid M gl A.length T = M ++ [T] := if_neg (by omega)
                  have hRk := HRk.out
                  rw [hmid] at hRk
                  have HRn := Lib.hid hRk
                  have hcat2 : bstr out ++ bstr A = bstr (out ++ A) := (bstr_append _ _).symm
                  have hzo : (bstr out).size = out.length := size_bstr _
                  have s2 : ¬ 9223372036854775807 < out.length + A.length := by omega
                  have HW2 : Hid ((out ++ A).length ≤ 9 * (i + 1) + wt (L.take (i + 1))) := Lib.hid (by rw [List.length_append, hw2]; omega)
                  have HM2 : Hid ((M ++ [T]).length = i + 1) := Lib.hid (by rw [List.length_append, HMl.out]; rfl)
                  clear hRk hmid hPA hPb hw1 hw2 hout HRk
                  have k1 : ¬ (A.length : Int) < (A.length : Int) := by omega
                  go_wp2_with fail
                  go_roundw
                  case rel => exact ⟨i + 1, out ++ A, M ++ [T], PA, by omega, by omega, HW2.out, HM2.out, by first | rfl | rw [hcat2], rfl, rfl, by go_num, Lib.hid (by rw [HPA.out]; exact HSt.out), HRn, HBk⟩
                  case measure => simp [intOf]; omega
          · have j2 : ¬ (i : Int) < 100 := by omega
            have hwi : wt (L.take i) ≤ wt L := by
              cases hLi : L[i]? with
              | none =>
                have h := List.getElem?_eq_none_iff.1 hLi
                rw [List.take_of_length_le h]
                exact Nat.le_refl _
              | some t =>
                have := (wt_take L i t hLi).1
                omega
            have hzo : (bstr out).size = out.length := size_bstr _
            have hcat3 : bstr out ++ ⟨#[10, 59]⟩ = bstr (out ++ [10, 59]) := by rw [bstr_append]; rfl
            have hol : out.length ≤ 60000 := by omega
            have hz3 : (bstr (out ++ [10, 59])).size ≤ 65000 := by
              rw [size_bstr, List.length_append]
              show out.length + 2 ≤ 65000
              omega
            have HDn := Lib.hid HBl.out.done
            have HSc := Lib.hid (scan_any (bstr (out ++ [10, 59])) hz3 wr mx (HM.out wr HDr.out))
            have s2 : ¬ 9223372036854775807 < out.length + 2 := by omega
            clear hz3 hout
            go_wp2_with fail
            refine HSc.out.mono ?_
            clear HSc
            rintro e w6 ⟨hr, hb6⟩
            rw [HDn.out] at hr
            obtain ⟨v6, rfl, hown6⟩ := hr
            obtain ⟨W7, hW7⟩ : ∃ W7, W7 = w6.alloc (.cells #[.int .i64 0, .int .i64 0] 25) := ⟨_, rfl⟩
            have hb7 : Below w6.heap.size w6 W7 := by rw [hW7]; exact (Below.refl _ _).alloc (Nat.le_refl _) _
            have hM6 : M.length ≤ 6000 := by have := HMl.out; omega
            have HF := Lib.hid (from_any W7 _ v6 M (own_only hown6 (Only.of_below (F := fun _ => False) hb7) (fun _ _ h => h)) hM6)
            have HB7 := Lib.hid (hb6.trans (hb7.mono hb6.size))
            have HW7 := Lib.hid hW7
            clear hown6 hb6 hb7 hW7
            go_wp2_with fail
            rw [← HW7.out]
            refine HF.out.mono ?_
            clear HF
            rintro e w8 ⟨v8, rfl, hown8, hb8⟩
            have HB8 := Lib.hid (HB7.out.trans (hb8.mono HB7.out.size))
            have HSm := Lib.hid (same_any w8 _ _ v8 _ M hown8 (own_only HR.out (Only.of_below (F := fun _ => False) HB8.out) (fun _ _ h => h)) hM6)
            clear hown8 hb8
            go_wp2_with fail
            refine HSm.out.mono ?_
            clear HSm
            rintro e w9 ⟨rfl, hb9⟩
            have HB9 := Lib.hid (HDr.out.trans ((HB8.out.trans (hb9.mono HB8.out.size)).mono HDr.out.size))
            clear hb9
            go_wp2_with fail
            go_ret
            exact ⟨rfl, HB9.out⟩
        · have j1 : ¬ (i : Int) < (L.length : Int) := by omega
          have hwi : wt (L.take i) ≤ wt L := by
            cases hLi : L[i]? with
            | none =>
              have h := List.getElem?_eq_none_iff.1 hLi
              rw [List.take_of_length_le h]
              exact Nat.le_refl _
            | some t =>
              have := (wt_take L i t hLi).1
              omega
          have hzo : (bstr out).size = out.length := size_bstr _
          have hcat3 : bstr out ++ ⟨#[10, 59]⟩ = bstr (out ++ [10, 59]) := by rw [bstr_append]; rfl
          have hol : out.length ≤ 60000 := by omega
          have hz3 : (bstr (out ++ [10, 59])).size ≤ 65000 := by
            rw [size_bstr, List.length_append]
            show out.length + 2 ≤ 65000
            omega
          have HDn := Lib.hid HBl.out.done
          have HSc := Lib.hid (scan_any (bstr (out ++ [10, 59])) hz3 wr mx (HM.out wr HDr.out))
          have s2 : ¬ 9223372036854775807 < out.length + 2 := by omega
          clear hz3 hout
          go_wp2_with fail
          refine HSc.out.mono ?_
          clear HSc
          rintro e w6 ⟨hr, hb6⟩
          rw [HDn.out] at hr
          obtain ⟨v6, rfl, hown6⟩ := hr
          obtain ⟨W7, hW7⟩ : ∃ W7, W7 = w6.alloc (.cells #[.int .i64 0, .int .i64 0] 25) := ⟨_, rfl⟩
          have hb7 : Below w6.heap.size w6 W7 := by rw [hW7]; exact (Below.refl _ _).alloc (Nat.le_refl _) _
          have hM6 : M.length ≤ 6000 := by have := HMl.out; omega
          have HF := Lib.hid (from_any W7 _ v6 M (own_only hown6 (Only.of_below (F := fun _ => False) hb7) (fun _ _ h => h)) hM6)
          have HB7 := Lib.hid (hb6.trans (hb7.mono hb6.size))
          have HW7 := Lib.hid hW7
          clear hown6 hb6 hb7 hW7
          go_wp2_with fail
          rw [← HW7.out]
          refine HF.out.mono ?_
          clear HF
          rintro e w8 ⟨v8, rfl, hown8, hb8⟩
          have HB8 := Lib.hid (HB7.out.trans (hb8.mono HB7.out.size))
          have HSm := Lib.hid (same_any w8 _ _ v8 _ M hown8 (own_only HR.out (Only.of_below (F := fun _ => False) HB8.out) (fun _ _ h => h)) hM6)
          clear hown8 hb8
          go_wp2_with fail
          refine HSm.out.mono ?_
          clear HSm
          rintro e w9 ⟨rfl, hb9⟩
          have HB9 := Lib.hid (HDr.out.trans ((HB8.out.trans (hb9.mono HB8.out.size)).mono HDr.out.size))
          clear hb9
          go_wp2_with fail
          go_ret
          exact ⟨rfl, HB9.out⟩
    · subst h11
      have HL2 := Lib.hid (lexes_any w2 mx (HM.out w2 HD2.out))
      go_wp2_with fail
      refine HL2.out.mono ?_
      rintro e w3 ⟨rfl, hb3⟩
      have HD3 := Lib.hid (HD2.out.trans (hb3.mono HD2.out.size))
      clear hb3
      go_wp2_with fail
      go_ret
      exact ⟨rfl, HD3.out⟩
  · have i1 : (2000 : Int) < (s.size : Int) := by omega
    go_enter Try.func5, Try.ntmps5
    go_wp2_with fail
    refine HL0.out.mono ?_
    rintro e w1 ⟨rfl, hb1⟩
    have HB1 := Lib.hid hb1
    clear hb1
    go_wp2_with fail
    go_ret
    exact ⟨rfl, HB1.out⟩
--@@END
end Go.Proofs.Ytghddknhoiaboaa
