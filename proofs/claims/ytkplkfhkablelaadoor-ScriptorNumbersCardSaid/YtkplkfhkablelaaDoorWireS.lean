/-
  What the walk of the law WireBack says of rows, and of rows of codes.
-/
import Derived.Test.YtkplkfhkablelaaDoorWireO
import Derived.BigQuiet
import Derived.Deep.QuietTactic
import Derived.Deep.RegionHeld3
import Derived.Deep.AppendLies
import Derived.Deep.Onto
namespace Go.Proofs.YtkplkfhkablelaaDoor.Wr
set_option maxRecDepth 100000
open Go.ChangeShapes Go.WideShapes Go.ChangeAt Go.RowKit
set_option linter.unusedVariables false

/-- a slice of integers that came in -/
def IntRow (w : World) (a : Option Addr) (n : Nat) (zs : List Int) : Prop :=
  zs.length = n ∧ n ≤ maxLen ∧ (∀ z ∈ zs, -9223372036854775808 ≤ z ∧ z ≤ 9223372036854775807) ∧ (0 < n → ∃ b o, a = some ⟨b, o, none⟩ ∧ ∀ i, i < n → w.cell? ⟨b, o + i, none⟩ = some (.int .i64 (zs.getD i 0)))
/-- a slice of texts that came in -/
def StrRow (w : World) (a : Option Addr) (n : Nat) (ss : List ByteArray) : Prop :=
  ss.length = n ∧ n ≤ maxLen ∧ (∀ s ∈ ss, s.size ≤ maxLen) ∧ (0 < n → ∃ b o, a = some ⟨b, o, none⟩ ∧ ∀ i, i < n → w.cell? ⟨b, o + i, none⟩ = some (.string (ss.getD i ⟨#[]⟩)))

theorem IntRow.at_ {w : World} {a : Option Addr} {n : Nat} {zs : List Int} (h : IntRow w a n zs) {k : Nat} (hk : k < n) :
    ∃ p : Addr, p.block < w.heap.size ∧ w.cell? p = some (.int .i64 (zs.getD k 0)) ∧ ∀ (cap : Nat) (W : World), (Instr.indexAt 39 (.slice a n cap) (.int .i64 (k : Int))).run Tryd.prog W = .ok (.pointer (some p)) W := by
  obtain ⟨_, _, _, h4⟩ := h
  obtain ⟨b, o, rfl, hc⟩ := h4 (by omega)
  refine ⟨⟨b, o + k, none⟩, cell_lt (hc k hk), hc k hk, fun cap W => ?_⟩
  have h1 : (0 : Int) ≤ (k : Int) := by omega
  have h2 : (k : Int) < (n : Int) := by omega
  clear hc h4
  go_simp
theorem IntRow.bound {w : World} {a : Option Addr} {n : Nat} {zs : List Int} (h : IntRow w a n zs) {k : Nat} (hk : k < n) : -9223372036854775808 ≤ zs.getD k 0 ∧ zs.getD k 0 ≤ 9223372036854775807 := by
  refine h.2.2.1 _ ?_
  have hl : k < zs.length := by rw [h.1]; exact hk
  rw [List.getD_eq_getElem?_getD, List.getElem?_eq_getElem hl]
  exact List.getElem_mem hl
theorem StrRow.bound {w : World} {a : Option Addr} {n : Nat} {ss : List ByteArray} (h : StrRow w a n ss) {k : Nat} (hk : k < n) : (ss.getD k ⟨#[]⟩).size ≤ maxLen := by
  refine h.2.2.1 _ ?_
  have hl : k < ss.length := by rw [h.1]; exact hk
  rw [List.getD_eq_getElem?_getD, List.getElem?_eq_getElem hl]
  exact List.getElem_mem hl

theorem ownsRow_below {w w' : World} {base : Nat} {e : TypeId} {size : Nat} {v : Value} {n : Nat} {xs : List Value} (h : w.ownsRow base e size v n xs) (hb : Below w.heap.size w w') : w'.ownsRow base e size v n xs := by
  have hl := h.lt
  obtain ⟨h1, h2⟩ := h
  refine ⟨h1, ?_⟩
  rcases h2 with h2 | ⟨g, cap, cur, rfl, hbs, hh, r⟩
  · exact .inl h2
  · exact .inr ⟨g, cap, cur, rfl, hbs, by rw [hb.block g (hl g rfl).2]; exact hh, r⟩
theorem below_drewN (w : World) (n : Nat) : Below w.heap.size w (w.drewN n) := ⟨rfl, rfl, rfl, Nat.le_refl _, fun _ _ => rfl⟩

/-- a text, cut -/
def cut200 (s : ByteArray) : ByteArray := s.extract 0 (min s.size 200)
theorem cut200_size (s : ByteArray) : (cut200 s).size ≤ 200 := by
  unfold cut200
  rw [ByteArray.size_extract]
  omega
/-- what numbers, and texts, are written as -/
def codes (zs : List Int) : List Nat := (zs.map code).flatten
def texts (ss : List ByteArray) : List Nat := (ss.map fun s => text (bytesOf (cut200 s))).flatten
theorem text_cut (s : ByteArray) : text (bytesOf (cut200 s)) = code ((cut200 s).size : Int) ++ bytesOf (cut200 s) := by
  unfold text
  rw [bytesOf_length]
theorem codes_len (zs : List Int) : (codes zs).length ≤ 10 * zs.length := by
  induction zs with
  | nil => exact Nat.zero_le _
  | cons z zs ih =>
    have e : codes (z :: zs) = code z ++ codes zs := rfl
    have := code_len z
    rw [e, List.length_append, List.length_cons]
    omega
theorem texts_len (ss : List ByteArray) : (texts ss).length ≤ 210 * ss.length := by
  induction ss with
  | nil => exact Nat.zero_le _
  | cons s ss ih =>
    have e : texts (s :: ss) = text (bytesOf (cut200 s)) ++ texts ss := rfl
    have h1 := code_len ((cut200 s).size : Int)
    have h2 := cut200_size s
    rw [e, text_cut, List.length_append, List.length_append, bytesOf_length, List.length_cons]
    omega
theorem getD_of {α : Type} (l : List α) (k : Nat) (d : α) (h : k < l.length) : l[k]'h = l.getD k d := by
  rw [List.getD_eq_getElem?_getD, List.getElem?_eq_getElem h]
  rfl
theorem codes_take (zs : List Int) (k : Nat) (h : k < zs.length) : codes (zs.take (k + 1)) = codes (zs.take k) ++ code (zs.getD k 0) := by
  rw [List.take_succ_eq_append_getElem h, getD_of zs k 0 h]
  unfold codes
  simp
theorem texts_take (ss : List ByteArray) (k : Nat) (h : k < ss.length) : texts (ss.take (k + 1)) = texts (ss.take k) ++ (code ((cut200 (ss.getD k ⟨#[]⟩)).size : Int) ++ bytesOf (cut200 (ss.getD k ⟨#[]⟩))) := by
  rw [List.take_succ_eq_append_getElem h, getD_of ss k ⟨#[]⟩ h, ← text_cut]
  unfold texts
  simp
theorem codes_drop (zs : List Int) (k : Nat) (h : k < zs.length) : codes (zs.drop k) = code (zs.getD k 0) ++ codes (zs.drop (k + 1)) := by
  rw [List.drop_eq_getElem_cons h, getD_of zs k 0 h]
  rfl
theorem texts_drop (ss : List ByteArray) (k : Nat) (h : k < ss.length) : texts (ss.drop k) = text (bytesOf (cut200 (ss.getD k ⟨#[]⟩))) ++ texts (ss.drop (k + 1)) := by
  rw [List.drop_eq_getElem_cons h, getD_of ss k ⟨#[]⟩ h]
  rfl
theorem code_lt (n : Int) : ∀ c ∈ code n, c < 256 := enc_lt _ _
theorem bytesOf_lt (s : ByteArray) : ∀ c ∈ bytesOf s, c < 256 := by
  intro c hc
  obtain ⟨x, _, rfl⟩ := List.mem_map.1 hc
  exact x.toNat_lt
theorem codes_lt (zs : List Int) : ∀ c ∈ codes zs, c < 256 := by
  intro c hc
  obtain ⟨l, hl, hc⟩ := List.mem_flatten.1 hc
  obtain ⟨z, _, rfl⟩ := List.mem_map.1 hl
  exact code_lt z c hc
theorem texts_lt (ss : List ByteArray) : ∀ c ∈ texts ss, c < 256 := by
  intro c hc
  obtain ⟨l, hl, hc⟩ := List.mem_flatten.1 hc
  obtain ⟨s, _, rfl⟩ := List.mem_map.1 hl
  rw [text_cut] at hc
  rcases List.mem_append.1 hc with h | h
  · exact code_lt _ c h
  · exact bytesOf_lt _ c h

/-- reading a number that stands there, and one of which there is a beginning -/
theorem inNum_code (p : Nat) (z : Int) (R : List Nat) (h1 : -9223372036854775808 ≤ z) (h2 : z ≤ 9223372036854775807) (w : World) (h : InAt w p (code z ++ R) 0) :
    Calls Tryd.prog 40 #[.pointer (some ⟨p, 0, none⟩), .int .i64 (-9223372036854775808), .int .i64 9223372036854775807] w fun e' w' => e' = .returned (.int .i64 z) ∧ InAt w' p R 0 ∧ ∀ B, B ≤ p → Below B w w' := by
  have hc := inNum_any p (-9223372036854775808) 9223372036854775807 _ 0 w h
  rw [readNum_code _ _ z h1 h2 h1 h2 R] at hc
  exact hc
theorem inNum_cut (p : Nat) (z : Int) (R l : List Nat) (e : Int) (h1 : -9223372036854775808 ≤ z) (h2 : z ≤ 9223372036854775807) (w : World) (h : InAt w p l e) (hc : Cut (code z ++ R) l e) :
    Calls Tryd.prog 40 #[.pointer (some ⟨p, 0, none⟩), .int .i64 (-9223372036854775808), .int .i64 9223372036854775807] w fun e' w' => ∃ x, e' = .returned (.int .i64 x) ∧ (∃ l' e2, InAt w' p l' e2 ∧ Cut R l' e2) ∧ ∀ B, B ≤ p → Below B w w' := by
  refine (inNum_any p (-9223372036854775808) 9223372036854775807 l e w h).mono ?_
  rintro e' w' ⟨rfl, hi, hb⟩
  exact ⟨_, rfl, ⟨_, _, hi, Cut.num _ _ h1 h2 h1 h2 hc⟩, hb⟩
theorem bstr_bytesOf' (s : ByteArray) : bstr (bytesOf s) = s := by
  unfold bstr bytesOf
  rw [List.map_map]
  have e : (List.map ((fun c => UInt8.ofNat c) ∘ fun c => c.toNat) s.data.toList) = s.data.toList := by
    conv => rhs; rw [← List.map_id s.data.toList]
    refine List.map_congr_left fun c _ => ?_
    simp
  rw [e]
theorem inStr_text (p : Nat) (s : ByteArray) (R : List Nat) (hs : s.size ≤ 200) (w : World) (h : InAt w p (text (bytesOf s) ++ R) 0) :
    Calls Tryd.prog 26 #[.pointer (some ⟨p, 0, none⟩), .int .i64 200] w fun e' w' => e' = .returned (.string s) ∧ InAt w' p R 0 ∧ ∀ B, B ≤ p → Below B w w' := by
  have hc := inStr_any p 200 _ 0 w h
  rw [readStr_text 200 (bytesOf s) R (by rw [bytesOf_length]; omega) (by rw [bytesOf_length]; omega), bstr_bytesOf'] at hc
  exact hc
theorem inStr_cut (p : Nat) (s : ByteArray) (R l : List Nat) (e : Int) (hs : s.size ≤ 200) (w : World) (h : InAt w p l e) (hc : Cut (text (bytesOf s) ++ R) l e) :
    Calls Tryd.prog 26 #[.pointer (some ⟨p, 0, none⟩), .int .i64 200] w fun e' w' => ∃ x, e' = .returned (.string x) ∧ (∃ l' e2, InAt w' p l' e2 ∧ Cut R l' e2) ∧ ∀ B, B ≤ p → Below B w w' := by
  refine (inStr_any p 200 l e w h).mono ?_
  rintro e' w' ⟨rfl, hi, hb⟩
  exact ⟨_, rfl, ⟨_, _, hi, Cut.text 200 (by rw [bytesOf_length]; omega) (by rw [bytesOf_length]; omega) hc⟩, hb⟩
end Go.Proofs.YtkplkfhkablelaaDoor.Wr
