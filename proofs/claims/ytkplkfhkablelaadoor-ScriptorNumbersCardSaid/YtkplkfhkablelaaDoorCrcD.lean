/-
  The contracts of crc.Sum and of the law's own first look.
-/
import Derived.Test.YtkplkfhkablelaaDoorCrcC
import Derived.Lib.SlBytesConst
import Derived.Below
namespace Go.Proofs.YtkplkfhkablelaaDoor
open Go.ChangeShapes Go.WideShapes Go.ChangeAt Go.RowKit
set_option linter.unusedVariables false

def cat (l : Nat → List Nat) : Nat → List Nat
  | 0 => []
  | k + 1 => cat l k ++ l k

theorem cat_lt (l : Nat → List Nat) (n : Nat) (h : ∀ i, i < n → ∀ c ∈ l i, c < 256) : ∀ c ∈ cat l n, c < 256 := by
  induction n with
  | zero => intro c hc; cases hc
  | succ n ih =>
    intro c hc
    rcases List.mem_append.1 hc with hc | hc
    · exact ih (fun i hi => h i (by omega)) c hc
    · exact h n (by omega) c hc

set_option maxHeartbeats 400000 in
theorem sum_any (b o n cap : Nat) (A : Nat → Option Addr) (L C : Nat → Nat) (l : Nat → List Nat) (w : World) (hn : n ≤ 9223372036854775807)
    (hc : ∀ i, i < n → w.cell? ⟨b, o + i, none⟩ = some (.slice (A i) (L i) (C i))) (hr : ∀ i, i < n → ByteRow w (A i) (L i) (l i)) (ht : Tab w) :
    Calls Tryd.prog 12 #[.slice (some ⟨b, o, none⟩) n cap] w fun e w' => e = .returned (.int .u32 (sum (cat l n) : Nat)) ∧ w = w' := by
  have HC := Lib.hid hc
  have HR := Lib.hid hr
  have HT := Lib.hid ht
  clear hc hr ht
  go_enter Tryd.func12, Tryd.ntmps12
  go_wp2_with fail
  go_loop [3, 8] (fun r i => ∃ k : Nat, k ≤ n ∧ i = .int .i64 k ∧ r = .int .u32 (sum (cat l k) : Nat)) (fun _ i => n - (intOf i).toNat)
  case atStart => exact ⟨0, Nat.zero_le _, rfl, by rw [show cat l 0 = [] from rfl, show sum [] = 0 from by decide]; rfl⟩
  case round =>
    obtain ⟨k, hk, rfl, rfl⟩ := hrel
    have hsl : sum (cat l k) < 4294967296 := more_lt _ _ (by decide) (cat_lt l k (fun i hi => (HR.out i (by omega)).2.2.1))
    by_cases hlt : k < n
    · have hcell := HC.out k hlt
      go_wp2_with (go_at_call 13; refine (more_any _ hsl _ _ _ _ _ (HR.out k hlt) HT.out).mono ?_; rintro e w' ⟨rfl, rfl⟩)
      go_round
      case rel => exact ⟨k + 1, by omega, by go_num, by unfold sum; rw [← more_append]; rfl⟩
      case measure => simp [intOf]; omega
    · go_wp2_with fail
      go_ret
      have e : k = n := by omega
      exact ⟨ret_int (by rw [e]), rfl⟩

theorem sum_one (b n1 : Nat) (a0 : Option Addr) (n0 c0 : Nat) (l0 : List Nat) (w : World) (h0 : w.cell? ⟨b, 0, none⟩ = some (.slice a0 n0 c0)) (r0 : ByteRow w a0 n0 l0) (ht : Tab w) :
    Calls Tryd.prog 12 #[.slice (some ⟨b, 0, none⟩) 1 n1] w fun e w' => e = .returned (.int .u32 (sum l0 : Nat)) ∧ w = w' := by
  have h := sum_any b 0 1 n1 (fun _ => a0) (fun _ => n0) (fun _ => c0) (fun _ => l0) w (by decide)
    (fun i hi => by
      have e : i = 0 := by omega
      subst e
      exact h0)
    (fun i hi => r0) ht
  exact h

theorem sum_two (b n1 : Nat) (a0 : Option Addr) (n0 c0 : Nat) (l0 : List Nat) (a1 : Option Addr) (m1 c1 : Nat) (l1 : List Nat) (w : World) (h0 : w.cell? ⟨b, 0, none⟩ = some (.slice a0 n0 c0)) (h1 : w.cell? ⟨b, 1, none⟩ = some (.slice a1 m1 c1)) (r0 : ByteRow w a0 n0 l0) (r1 : ByteRow w a1 m1 l1) (ht : Tab w) :
    Calls Tryd.prog 12 #[.slice (some ⟨b, 0, none⟩) 2 n1] w fun e w' => e = .returned (.int .u32 (sum (l0 ++ l1) : Nat)) ∧ w = w' := by
  have h := sum_any b 0 2 n1 (fun i => if i = 0 then a0 else a1) (fun i => if i = 0 then n0 else m1) (fun i => if i = 0 then c0 else c1) (fun i => if i = 0 then l0 else l1) w (by decide)
    (fun i hi => by
      have e : i = 0 ∨ i = 1 := by omega
      rcases e with rfl | rfl
      · exact h0
      · exact h1)
    (fun i hi => by
      have e : i = 0 ∨ i = 1 := by omega
      rcases e with rfl | rfl
      · exact r0
      · exact r1) ht
  exact h

theorem sum_three (b n1 : Nat) (a0 : Option Addr) (n0 c0 : Nat) (l0 : List Nat) (a1 : Option Addr) (m1 c1 : Nat) (l1 : List Nat) (a2 : Option Addr) (m2 c2 : Nat) (l2 : List Nat) (w : World) (h0 : w.cell? ⟨b, 0, none⟩ = some (.slice a0 n0 c0)) (h1 : w.cell? ⟨b, 1, none⟩ = some (.slice a1 m1 c1)) (h2 : w.cell? ⟨b, 2, none⟩ = some (.slice a2 m2 c2)) (r0 : ByteRow w a0 n0 l0) (r1 : ByteRow w a1 m1 l1) (r2 : ByteRow w a2 m2 l2) (ht : Tab w) :
    Calls Tryd.prog 12 #[.slice (some ⟨b, 0, none⟩) 3 n1] w fun e w' => e = .returned (.int .u32 (sum (l0 ++ l1 ++ l2) : Nat)) ∧ w = w' := by
  have h := sum_any b 0 3 n1 (fun i => if i = 0 then a0 else if i = 1 then a1 else a2) (fun i => if i = 0 then n0 else if i = 1 then m1 else m2) (fun i => if i = 0 then c0 else if i = 1 then c1 else c2) (fun i => if i = 0 then l0 else if i = 1 then l1 else l2) w (by decide)
    (fun i hi => by
      have e : i = 0 ∨ i = 1 ∨ i = 2 := by omega
      rcases e with rfl | rfl | rfl
      · exact h0
      · exact h1
      · exact h2)
    (fun i hi => by
      have e : i = 0 ∨ i = 1 ∨ i = 2 := by omega
      rcases e with rfl | rfl | rfl
      · exact r0
      · exact r1
      · exact r2) ht
  exact h

theorem ByteRow.nil (w : World) (a : Option Addr) : ByteRow w a 0 [] := ⟨rfl, Nat.zero_le _, (by intro c hc; cases hc), (by intro h; omega)⟩

theorem Tab.alloc {w : World} (h : Tab w) (o : Obj) : Tab (w.alloc o) := fun i hi => Lib.cell?_alloc_marked o (h i hi)

theorem cell_new (w : World) (C : Array Value) (e : TypeId) (fr : Nat × Nat) (b i : Nat) (v : Value) (hb : b = w.heap.size) (h : C[i]? = some v) : (w.alloc (.cells C e fr)).cell? ⟨b, i, none⟩ = some v := by
  subst hb
  have e1 : (w.alloc (.cells C e fr)).heap[w.heap.size]? = some (.cells C e fr) := by
    show (w.heap.push (.cells C e fr))[w.heap.size]? = _
    simp
  simp only [World.cell?, e1]
  exact h

set_option maxRecDepth 100000 in
theorem sums_any (w : World) (ht : Tab w) :
    Calls Tryd.prog 11 #[] w fun e w' => e = .returned (.bool true) ∧ Below w.heap.size w w' := by
  have HT := Lib.hid ht
  clear ht
  have kc := fun (w : World) (C : Array Value) (n c : Nat) => Lib.run_convert_bytes_const (P := Tryd.prog) w 22 5 C n c Tryd.underlying22 Tryd.underlying5
  have kc2 : ∀ (w : World) (X : Obj) (C : Array Value) (n c : Nat), (convert 22 22 (.slice (some ⟨w.heap.size + 1, 0, none⟩) n c)).run Tryd.prog ((w.alloc X).alloc (.cells C 5)) = .ok (.slice (some ⟨w.heap.size + 1, 0, none⟩) n c) ((w.alloc X).alloc (.cells C 5 (C.size, C.size + 1))) := fun w X C n c => by
    have h := Lib.run_convert_bytes_const (P := Tryd.prog) (w.alloc X) 22 5 C n c Tryd.underlying22 Tryd.underlying5
    have e : (w.alloc X).heap.size = w.heap.size + 1 := Array.size_push ..
    rw [e] at h
    exact h
  have hs : ((sum ([49, 50, 51, 52] ++ [] ++ [53, 54, 55, 56, 57]) : Nat) : Int) = 3808858755 := by rw [show sum ([49, 50, 51, 52] ++ [] ++ [53, 54, 55, 56, 57]) = 3808858755 from by decide +kernel]; rfl
  have HS := Lib.hid hs
  clear hs
  go_enter Tryd.func11, Tryd.ntmps11
  go_wp2_with fail
  refine (sum_three _ _ (some ⟨w.heap.size, 0, none⟩) 4 4 [49, 50, 51, 52] none 0 0 [] (some ⟨w.heap.size + 1, 0, none⟩) 5 5 [53, 54, 55, 56, 57] _ ?_ ?_ ?_ ?_ ?_ ?_ ?_).mono ?_
  · go_simp
  · go_simp
  · go_simp
  · refine ⟨rfl, by decide, by decide, fun _ => ⟨_, _, rfl, fun i hi => ?_⟩⟩
    have e : i = 0 ∨ i = 1 ∨ i = 2 ∨ i = 3 := by omega
    rcases e with rfl | rfl | rfl | rfl <;> (go_simp; exact cell_new _ _ _ _ _ _ _ (by simp) rfl)
  · exact ByteRow.nil _ _
  · refine ⟨rfl, by decide, by decide, fun _ => ⟨_, _, rfl, fun i hi => ?_⟩⟩
    have e : i = 0 ∨ i = 1 ∨ i = 2 ∨ i = 3 ∨ i = 4 := by omega
    rcases e with rfl | rfl | rfl | rfl | rfl <;> (go_simp; exact cell_new _ _ _ _ _ _ _ (by simp) rfl)
  · exact ((HT.out.alloc _).alloc _).alloc _
  · rintro e w' ⟨rfl, rfl⟩
    have hs := HS.out
    go_wp2_with fail
    go_ret
    exact ⟨rfl, (((Below.refl _ _).alloc (Nat.le_refl _) _).alloc (by simp) _).alloc (by simp; omega) _⟩

end Go.Proofs.YtkplkfhkablelaaDoor
