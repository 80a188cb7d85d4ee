/-
  The contracts of wire.Str and of the laws' own first look; the law WireSizes.
-/
import Derived.Test.YtkplkfhkablelaaDoorWireB
import Derived.WalkSpells
import Derived.Laws.BytesArg
import Derived.Outline
namespace Go.Proofs.YtkplkfhkablelaaDoor.Wr
open Go.ChangeShapes Go.WideShapes Go.ChangeAt Go.RowKit
set_option linter.unusedVariables false

/-- bytes as a text -/
def bstr (l : List Nat) : ByteArray := ⟨(l.map fun c => UInt8.ofNat c).toArray⟩

theorem str_of_own {w : World} {base : Nat} {v : Value} {l : List Nat} (h : w.ownsRow base 5 1 v l.length (vals l)) (hv : v ≠ .slice none 0 0) :
    ∃ g cap, v = .slice (some ⟨g, 0, none⟩) l.length cap ∧ (convert 22 9 v).run Tryd.prog w = .ok (.string (bstr l)) w := by
  obtain ⟨h1, h2⟩ := h
  rcases h2 with ⟨h2, _⟩ | ⟨g, cap, cur, rfl, hb, hh, hn, hm, hs, ht⟩
  · exact absurd h2 hv
  · refine ⟨g, cap, rfl, ?_⟩
    have e : bstr l = strOfNums (l.map fun (n : Nat) => (n : Int)) := by
      unfold bstr strOfNums
      rw [List.map_map]
      rfl
    rw [e]
    refine run_convert_bytes_arg w 22 5 Tryd.underlying22 Tryd.underlying5 g 0 l.length cap _ (by rw [List.length_map]) (fun i hi => ?_) 9 Tryd.underlying9
    have e2 := vals_get l i hi
    rw [← ht, List.getElem?_take, if_pos (by omega)] at e2
    have e3 : (l.map fun (n : Nat) => (n : Int)).getD i 0 = ((l.getD i 0 : Nat) : Int) := by
      simp [List.getD, List.getElem?_map]
      cases l[i]? <;> rfl
    rw [e3, Nat.zero_add]
    simp only [World.cell?, hh]
    simpa using e2

theorem size_bstr (l : List Nat) : (bstr l).size = l.length := by
  unfold bstr
  show (l.map fun c => UInt8.ofNat c).toArray.size = _
  simp

theorem strCells_bstr (s : ByteArray) : Lib.strCells s = vals (s.data.toList.map fun c => c.toNat) := by
  unfold Lib.strCells vals
  rw [List.map_map]
  rfl

/-- a text's bytes -/
def bytesOf (s : ByteArray) : List Nat := s.data.toList.map fun c => c.toNat
theorem bytesOf_length (s : ByteArray) : (bytesOf s).length = s.size := by
  unfold bytesOf
  rw [List.length_map, Array.length_toList]
  rfl
theorem enc_len (k u : Nat) : (enc k u).length ≤ k := by
  induction k generalizing u with
  | zero => exact Nat.le_refl _
  | succ k ih =>
    unfold enc
    split
    · simp
    · simp only [List.length_cons]
      have := ih (u / 128)
      omega
theorem code_len (n : Int) : (code n).length ≤ 10 := enc_len _ _

set_option maxRecDepth 100000 in
theorem str_any (s : ByteArray) (hs : s.size < 70368744177664) (w : World) :
    Calls Tryd.prog 18 #[.string s] w fun e w' => ∃ v, e = .returned v ∧ w'.ownsRow w.heap.size 5 1 v (code s.size ++ bytesOf s).length (vals (code s.size ++ bytesOf s)) ∧ v ≠ .slice none 0 0 ∧ Below w.heap.size w w' := by
  obtain ⟨i0, hi, hz0, hz1, hz2⟩ := info_parts info5
  have hl := code_len s.size
  go_enter Tryd.func18, Tryd.ntmps18
  go_wp2_with (first
    | (go_at_call 29; refine (num_any _ (by omega) (by omega) _).mono ?_; rintro e w1 ⟨v, rfl, ho, hn, hb⟩; have HO := Lib.hid ho; have HN := Lib.hid hn; have HB := Lib.hid hb; clear ho hn hb)
    | (at_builtin; refine Lib.wpList_append_own_string _ rfl (.tmp 5) (.tmp 6) 22 9 rfl w.heap.size 5 i0 Tryd.underlying22 Tryd.underlying9 hi hz0 hz1 hz2 _ (code s.size).length (vals (code s.size)) rfl HO.out s rfl ?c3 ?c4 ?c5 ?_))
  case c3 => unfold maxLen; omega
  case c4 => omega
  case c5 => exact HB.out.size
  intro v' w2 hown hgrow hnil
  have bel : Below w.heap.size w w2 := HB.out.grown hgrow HB.out.size (fun k hk => own_base HO.out hk)
  have hown' : w2.ownsRow w.heap.size 5 1 v' (code s.size ++ bytesOf s).length (vals (code s.size ++ bytesOf s)) := by
    rw [vals_append, List.length_append, bytesOf_length]
    rw [strCells_bstr] at hown
    exact hown
  have hne : v' ≠ .slice none 0 0 := by
    intro h
    exact HN.out (hnil.1 h).1
  have HO2 := Lib.hid hown'
  have HB2 := Lib.hid bel
  have HN2 := Lib.hid hne
  clear hown hgrow hnil bel hown' hne
  go_wp2_with fail
  go_ret
  exact ⟨v', rfl, HO2.out, HN2.out, HB2.out⟩

end Go.Proofs.YtkplkfhkablelaaDoor.Wr
