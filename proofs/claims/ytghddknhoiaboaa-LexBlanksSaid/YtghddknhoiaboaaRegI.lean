/-
  A region that draws its order, in the round of a range over a function: XReg's and XRegL's laws inside the wide fence's rounds.
-/
import Derived.Test.YtghddknhoiaboaaRegL
import Derived.OrdersIn
import Derived.ControlIn
namespace Go.Proofs.Ytghddknhoiaboaa
open Go.ChangeShapes Go.WideShapes Go.ChangeAt Go.RowKit
set_option linter.unusedVariables false

section
variable {P : Program} {ops : Array Oper} {w : World} {Q : Exit → Act → World → Prop}

theorem rowsIn_of {n : Nat} {l : Nat} {row : String} {args : Array Value} {R : Value → World → Prop} (h : Rows P row args w R) : RowsIn (Fence.wide.inRound l) n P row args w R := fun c cs _ => by
  obtain ⟨v, w', r, s⟩ := h c cs
  exact ⟨v, w', r, stepsIn_wide.2 s⟩
theorem callsIn_of {n : Nat} {l : Nat} {f : FuncId} {args : Array Value} {R : Ending → World → Prop} (h : Calls P f args w R) : CallsIn (Fence.wide.inRound l) n P f args w R := callsIn_wide.2 h
theorem operIn_of {n l : Nat} {o : Oper} {a : Act} {K : Act → World → Prop} (hd : ∀ c, o.op ≠ .defer c) (hQ : ¬ LetsOut Q) (h : o.wp P a w K Q) : o.wpIn (Fence.wide.inRound l) n P a w K Q := by
  refine ⟨fun _ _ => trivial, ?_⟩
  rw [Oper.semAt_eq _ _ _ hd]
  unfold Oper.wp at h
  generalize (execOp a.eval o).run P w = r at *
  cases r with
  | ok x w' =>
    cases x <;> simp only [Oper.upon, Oper.uponIn] at h ⊢ <;>
      first
        | exact h
        | exact h.elim
        | exact ⟨fun e => (by cases e), callsIn_of h⟩
        | exact ⟨fun e => (by cases e), rowsIn_of h⟩
  | halt x w' => cases x <;> simp only [Oper.upon, Oper.uponIn] at h ⊢ <;> exact h
theorem anyIn_of {n l : Nat} {md : Region.Mode} (hd : ∀ o ∈ ops, ∀ c, o.op ≠ .defer c) (hQ : ¬ LetsOut Q) : ∀ (fuel : Nat) (listed : Array Bool) (a : Act) (w : World), wpAny P md ops Q fuel listed a w → wpAnyIn (Fence.wide.inRound l) n P md ops Q fuel listed a w := by
  intro fuel
  induction fuel with
  | zero => exact fun _ _ _ h => h
  | succ fuel ih =>
    intro listed a w h
    refine ⟨h.1, fun i hi => ?_⟩
    have h1 := h.2 i hi
    unfold wpOp at h1
    unfold wpOpIn
    cases ho : ops[i]? with
    | none => rw [ho] at h1; exact ih _ _ _ h1
    | some o =>
      rw [ho] at h1
      have hm : o ∈ ops := Array.mem_of_getElem? ho
      dsimp only at h1 ⊢
      split
      · rename_i hw
        rw [if_pos hw] at h1
        rcases h1 with h1 | h1
        · exact operIn_of (hd o hm) hQ (Oper.wp_mono (fun a w h => ih _ a w h) h1)
        · exact absurd h1.2 hQ
      · rename_i hw
        rw [if_neg hw] at h1
        exact ⟨fun _ _ => trivial, ih _ _ _ h1⟩
def noDefer (l : List Oper) : Bool := l.all fun o => match o.op with | .defer _ => false | _ => true
theorem noDefer_spec {l : List Oper} (h : noDefer l = true) : ∀ o ∈ l.toArray, ∀ c, o.op ≠ .defer c := by
  intro o ho c e
  have := (List.all_eq_true.1 h) o (by simpa using ho)
  rw [e] at this
  cases this
theorem wpIn_region_last_lit {n lr : Nat} {id : Nat} {a : Act} {l : List Oper} (kds : List Kd) (hm : P.follows .mixedOrders = true) (hok : regOK l.toArray = true) (hla : lastAll l.toArray = true) (hlen : kds.length + 1 = l.length) (hnd : noDefer l = true) (hQ : ¬ LetsOut Q)
    (h : wpInvL P l.toArray w.drew (fun a w => Q .normal a w) l kds 0 [] a) : (Code.region id l.toArray true).wpIn (Fence.wide.inRound lr) n P Q a w := by
  have hr := regOK_spec hok
  have hlen' : kds.length + 1 = l.toArray.size := by simpa using hlen
  have hlex := fun (vs : Nat → Value) (hc : Cons kds vs) => lex_stepL (P := P) (w := w.drew) (E := fun a w => Q .normal a w) (a := a) hc hlen' l.toArray.toList 0 (Nat.zero_le _) rfl (by rw [show l.toArray.toList = l by simp]; exact h)
  obtain ⟨vs0, hc0⟩ : ∃ vs, Cons kds vs := ⟨fun i => match kds[i]? with | some (.is c) => c | _ => undef, fun i c hi => by simp only [hi]⟩
  refine wpIn_region_any hm (anyIn_of (noDefer_spec hnd) hQ _ _ _ _ ?_)
  have hn : ∀ j, (Array.replicate l.toArray.size false).getD j false = false := fun j => by
    rw [Array.getD_eq_getD_getElem?, Array.getElem?_replicate]
    split <;> rfl
  refine any_of_lexL (w := w.drew) (E := fun a w => Q .normal a w) hr hla hlen' (fun j o hj ho => ((hlex vs0 hc0).1 j o (Nat.zero_le _) hj ho).1) (fun vs hc j o hj ho => ((hlex vs hc).1 j o (Nat.zero_le _) hj ho).2) (fun vs hc => (hlex vs hc).2) Q (fun _ _ h => h) l.toArray.size _ vs0 a _ ?_ (hn _) ?_
  · have : ∀ (l : Array Bool) k, cnt l k ≤ k := by
      intro l k
      induction k with
      | zero => exact Nat.le_refl _
      | succ k ih => unfold cnt; split <;> omega
    exact this _ _
  · have hno : ∀ j, (Array.replicate l.toArray.size false).getD j false = true → False := fun j hl => by rw [hn j] at hl; cases hl
    exact ⟨by simp, hc0, Gl.refl _, fun j hj hl => (hno j hl).elim, ⟨rfl, rfl, fun t => ⟨fun j _ _ hl => (hno j hl).elim, fun _ => rfl⟩⟩, fun j o _ hl => (hno j hl).elim⟩
end
end Go.Proofs.Ytghddknhoiaboaa
