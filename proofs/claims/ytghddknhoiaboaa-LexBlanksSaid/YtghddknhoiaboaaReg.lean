/-
  A region that draws its order, walked once in the order of the text: each operation yields a value of its kind in every world that has grown out of the region's.
-/
import Derived.Test.YtghddknhoiaboaaRows
import Derived.WalkKit
import Derived.ProofKit
import Derived.OpenShut
import Derived.Lib.Hide
import Derived.OwnWalk
import Derived.Below
import Derived.WalkSpells
import Derived.Orders
namespace Go.Proofs.Ytghddknhoiaboaa
set_option maxRecDepth 100000
open Go.ChangeShapes Go.WideShapes Go.ChangeAt Go.RowKit
set_option linter.unusedVariables false

/-- the heap has only grown -/
def Gl (w w' : World) : Prop := Below w.heap.size w w'
theorem Gl.refl (w : World) : Gl w w := Below.refl _ _
theorem Gl.trans {a b c : World} (h : Gl a b) (k : Gl b c) : Gl a c := Below.trans h (Below.mono k h.size)
theorem Gl.drew (w : World) : Gl w w.drew := (Below.refl w.heap.size w).drew
theorem Gl.alloc (w : World) (o : Obj) : Gl w (w.alloc o) := (Below.refl w.heap.size w).alloc (Nat.le_refl _) o

inductive Kd where
  | is (c : Value)
  | has (g : Value → World → Prop)
def Kd.of : Kd → Value → World → Prop
  | .is c, v, _ => v = c
  | .has g, v, w => g v w
abbrev Fact := Nat × Value × (Value → World → Prop)
def depOn (o : Oper) (j : Nat) : Bool := o.after.any fun e => Region.binds .any e && e.on == j

def invUpon (P : Program) (K : Value → World → Prop) : Result Next → Prop
  | .ok (.value u) w' => K u w'
  | .ok .skip w' => K undef w'
  | .ok (.enter f args) w' => Calls P f args w' fun e w'' => ∃ v, e = .returned v ∧ K v w''
  | _ => False
def StepOK (P : Program) (ops : Array Oper) (w : World) (o : Oper) (acc : List Fact) (g : Value → World → Prop) (A : Act) : Prop :=
  ∀ W, Gl w W → (∀ p ∈ acc, depOn o p.1 = true → p.2.2 p.2.1 W) → ∀ K : Value → World → Prop, (∀ v W', Gl W W' → g v W' → K v W') →
    if Region.wanted o (yielded ops A.tmps) = true then invUpon P K ((execOp A.eval o).run P W) else K undef W
def Stable (g : Value → World → Prop) : Prop := ∀ v W W', Gl W W' → g v W → g v W'

/-- the walk in the order of the text -/
def wpInv (P : Program) (ops : Array Oper) (w : World) (E : Act → World → Prop) : List Oper → List Kd → Nat → List Fact → Act → Prop
  | [], _, _, acc, A => ∀ W, Gl w W → (∀ p ∈ acc, p.2.2 p.2.1 W) → E A W
  | o :: rest, .is c :: kds, i, acc, A => StepOK P ops w o acc (fun v _ => v = c) A ∧ wpInv P ops w E rest kds (i + 1) acc (A.put o.dst c)
  | o :: rest, .has g :: kds, i, acc, A => Stable g ∧ StepOK P ops w o acc g A ∧ ∀ v, wpInv P ops w E rest kds (i + 1) ((i, v, g) :: acc) (A.put o.dst v)
  | _ :: _, [], _, _, _ => False

section
variable {P : Program} {ops : Array Oper} {w : World} {E : Act → World → Prop}

theorem wpInv_is {o : Oper} {rest : List Oper} {c : Value} {kds : List Kd} {i : Nat} {acc : List Fact} {A : Act} (h : StepOK P ops w o acc (fun v _ => v = c) A) (k : wpInv P ops w E rest kds (i + 1) acc (A.put o.dst c)) : wpInv P ops w E (o :: rest) (.is c :: kds) i acc A := ⟨h, k⟩
theorem wpInv_has {o : Oper} {rest : List Oper} {kds : List Kd} {i : Nat} {acc : List Fact} {A : Act} (g : Value → World → Prop) (s : Stable g) (h : StepOK P ops w o acc g A) (k : ∀ v, wpInv P ops w E rest kds (i + 1) ((i, v, g) :: acc) (A.put o.dst v)) : wpInv P ops w E (o :: rest) (.has g :: kds) i acc A := ⟨s, h, k⟩
theorem wpInv_end {i : Nat} {acc : List Fact} {A : Act} (h : ∀ W, Gl w W → (∀ p ∈ acc, p.2.2 p.2.1 W) → E A W) : wpInv P ops w E [] [] i acc A := h

/-! ### What the order of the text gives for each operation -/
def dstOf (ops : Array Oper) (i : Nat) : Option Tmp := (ops[i]?).bind (·.dst)
def putTo (ops : Array Oper) (a : Act) (vs : Nat → Value) : Nat → Act
  | 0 => a
  | i + 1 => (putTo ops a vs i).put (dstOf ops i) (vs i)
def kdOf (kds : List Kd) (i : Nat) : Value → World → Prop := fun v w => ∃ k, kds[i]? = some k ∧ k.of v w
def accOf (kds : List Kd) (vs : Nat → Value) : Nat → List Fact
  | 0 => []
  | i + 1 => match kds[i]? with
    | some (.has g) => (i, vs i, g) :: accOf kds vs i
    | _ => accOf kds vs i
def Cons (kds : List Kd) (vs : Nat → Value) : Prop := ∀ i c, kds[i]? = some (.is c) → vs i = c

theorem accOf_mem {kds : List Kd} {vs : Nat → Value} {i : Nat} {p : Fact} (h : p ∈ accOf kds vs i) : p.1 < i ∧ p.2.1 = vs p.1 ∧ kds[p.1]? = some (.has p.2.2) := by
  induction i with
  | zero => cases h
  | succ i ih =>
    unfold accOf at h
    split at h
    · rename_i g hg
      rcases List.mem_cons.1 h with rfl | h
      · exact ⟨Nat.lt_succ_self _, rfl, hg⟩
      · obtain ⟨h1, h2⟩ := ih h
        exact ⟨Nat.lt_succ_of_lt h1, h2⟩
    · obtain ⟨h1, h2⟩ := ih h
      exact ⟨Nat.lt_succ_of_lt h1, h2⟩

theorem lex_step {a : Act} {kds : List Kd} {vs : Nat → Value} (hc : Cons kds vs) : ∀ (rest : List Oper) (i : Nat), ops.toList.drop i = rest → wpInv P ops w E rest (kds.drop i) i (accOf kds vs i) (putTo ops a vs i) →
    (∀ j o, i ≤ j → ops[j]? = some o → (∀ v W W', Gl W W' → kdOf kds j v W → kdOf kds j v W') ∧ StepOK P ops w o (accOf kds vs j) (kdOf kds j) (putTo ops a vs j)) ∧
    (i ≤ ops.size → ∀ W, Gl w W → (∀ p ∈ accOf kds vs ops.size, p.2.2 p.2.1 W) → E (putTo ops a vs ops.size) W) := by
  intro rest
  induction rest with
  | nil =>
    intro i hd h
    have hl : ops.size ≤ i := by
      have := congrArg List.length hd
      simp at this
      omega
    refine ⟨fun j o hj ho => ?_, fun hi => ?_⟩
    · have := (Array.getElem?_eq_some_iff.1 ho).1
      omega
    · obtain rfl : i = ops.size := by omega
      exact h
  | cons o rest ih =>
    intro i hd h
    have hi : i < ops.size := by
      rcases Nat.lt_or_ge i ops.size with g | g
      · exact g
      · rw [List.drop_eq_nil_of_le (by simpa using g)] at hd
        cases hd
    have hil : i < ops.toList.length := by simpa using hi
    rw [List.drop_eq_getElem_cons hil] at hd
    injection hd with ho hd
    have hoo : ops[i]? = some o := by rw [← ho]; simp [hi]
    have hdst : dstOf ops i = o.dst := by unfold dstOf; rw [hoo]; rfl
    cases hk : kds.drop i with
    | nil => rw [hk] at h; exact h.elim
    | cons k kds' =>
      have hki : kds[i]? = some k := by
        have : (kds.drop i)[0]? = some k := by rw [hk]; rfl
        simpa using this
      have hkd : kds.drop (i + 1) = kds' := by
        have : (kds.drop i).drop 1 = kds' := by rw [hk]; rfl
        rw [List.drop_drop] at this
        exact this
      rw [hk] at h
      cases k with
      | is c =>
        have hvc := hc i c hki
        obtain ⟨h1, h2⟩ := h
        have hacc : accOf kds vs (i + 1) = accOf kds vs i := by show (match kds[i]? with | some (.has g) => _ | _ => _) = _; rw [hki]
        have h3 := ih (i + 1) hd (by rw [hkd, hacc]; show wpInv P ops w E rest kds' (i + 1) _ ((putTo ops a vs i).put (dstOf ops i) (vs i)); rw [hdst, hvc]; exact h2)
        refine ⟨fun j o' hj ho' => ?_, fun _ => h3.2 (by omega)⟩
        rcases Nat.lt_or_ge i j with g | g
        · exact h3.1 j o' g ho'
        · obtain rfl : i = j := by omega
          obtain rfl : o = o' := by rw [hoo] at ho'; exact Option.some.inj ho'
          refine ⟨fun v W W' _ hv => ?_, fun W hW hf K hK => h1 W hW hf K (fun v W' hg hv => hK v W' hg ⟨_, hki, hv⟩)⟩
          obtain ⟨k, e, hv⟩ := hv
          rw [hki] at e
          obtain rfl := Option.some.inj e
          exact ⟨_, hki, hv⟩
      | has g =>
        obtain ⟨hs, h1, h2⟩ := h
        have hacc : accOf kds vs (i + 1) = (i, vs i, g) :: accOf kds vs i := by show (match kds[i]? with | some (.has g) => _ | _ => _) = _; rw [hki]
        have h3 := ih (i + 1) hd (by rw [hkd, hacc]; show wpInv P ops w E rest kds' (i + 1) _ ((putTo ops a vs i).put (dstOf ops i) (vs i)); rw [hdst]; exact h2 (vs i))
        refine ⟨fun j o' hj ho' => ?_, fun _ => h3.2 (by omega)⟩
        rcases Nat.lt_or_ge i j with g' | g'
        · exact h3.1 j o' g' ho'
        · obtain rfl : i = j := by omega
          obtain rfl : o = o' := by rw [hoo] at ho'; exact Option.some.inj ho'
          refine ⟨fun v W W' hW hv => ?_, fun W hW hf K hK => h1 W hW hf K (fun v W' hg hv => hK v W' hg ⟨_, hki, hv⟩)⟩
          obtain ⟨k, e, hv⟩ := hv
          rw [hki] at e
          obtain rfl := Option.some.inj e
          exact ⟨_, hki, hs v W W' hW hv⟩

/-! ### The check on the region -/
def beforeF (ops : Array Oper) : Nat → Nat → Nat → Bool
  | 0, _, _ => false
  | n + 1, j, i => match ops[j]? with
    | some o => o.after.any fun e => Region.binds .any e && (e.on == i || beforeF ops n e.on i)
    | none => false
def regOK (ops : Array Oper) : Bool :=
  Region.noSelect ops &&
  (List.range ops.size).all fun i => match ops[i]? with
    | none => true
    | some o =>
      (o.after.all fun e => !Region.binds .any e || decide (e.on < i)) &&
      ((List.range ops.size).all fun j => j == i || (dstOf ops i).isNone || dstOf ops j != dstOf ops i) &&
      ((o.looksAt ops).all fun t => (List.range ops.size).all fun j => dstOf ops j != some t || j == i || (decide (j < i) && depOn o j) || (decide (i < j) && beforeF ops ops.size j i))

def Closed (ops : Array Oper) (p : Nat → Bool) : Prop := ∀ j o, ops[j]? = some o → p j = true → ∀ e ∈ o.after, Region.binds .any e = true → p e.on = true
theorem before_listed {p : Nat → Bool} (hc : Closed ops p) : ∀ (n j i : Nat), beforeF ops n j i = true → p j = true → p i = true := by
  intro n
  induction n with
  | zero => intro j i h; cases h
  | succ n ih =>
    intro j i h hj
    unfold beforeF at h
    split at h
    · rename_i o ho
      obtain ⟨e, he, hb⟩ := Array.any_eq_true'.1 h
      simp only [Bool.and_eq_true, Bool.or_eq_true, beq_iff_eq] at hb
      have hl := hc j o ho hj e he hb.1
      rcases hb.2 with h1 | h1
      · rw [← h1]; exact hl
      · exact ih e.on i h1 hl
    · cases h

structure RegOK (ops : Array Oper) : Prop where
  sel : Region.noSelect ops = true
  edge : ∀ i o, ops[i]? = some o → ∀ e ∈ o.after, Region.binds .any e = true → e.on < i
  dst : ∀ i j t, i < ops.size → j < ops.size → dstOf ops i = some t → dstOf ops j = some t → i = j
  look : ∀ i o, ops[i]? = some o → ∀ t ∈ o.looksAt ops, ∀ j, j < ops.size → dstOf ops j = some t → j = i ∨ (j < i ∧ depOn o j = true) ∨ (i < j ∧ beforeF ops ops.size j i = true)
theorem regOK_spec (h : regOK ops = true) : RegOK ops := by
  unfold regOK at h
  simp only [Bool.and_eq_true, List.all_eq_true, List.mem_range] at h
  obtain ⟨h1, h2⟩ := h
  have hat : ∀ i o, ops[i]? = some o → (∀ e ∈ o.after, Region.binds .any e = true → e.on < i) ∧ (∀ j, j < ops.size → j = i ∨ dstOf ops i = none ∨ dstOf ops j ≠ dstOf ops i) ∧ (∀ t ∈ o.looksAt ops, ∀ j, j < ops.size → dstOf ops j = some t → j = i ∨ (j < i ∧ depOn o j = true) ∨ (i < j ∧ beforeF ops ops.size j i = true)) := by
    intro i o ho
    have hi := (Array.getElem?_eq_some_iff.1 ho).1
    have := h2 i hi
    rw [ho] at this
    simp only [Bool.and_eq_true, List.all_eq_true, List.mem_range, Array.all_eq_true_iff_forall_mem, Bool.or_eq_true, Bool.not_eq_true', decide_eq_true_eq, beq_iff_eq, bne_iff_ne, Option.isNone_iff_eq_none] at this
    obtain ⟨⟨a1, a2⟩, a3⟩ := this
    refine ⟨fun e he hb => ?_, fun j hj => ?_, fun t ht j hj hd => ?_⟩
    · rcases a1 e he with h | h
      · rw [hb] at h; cases h
      · exact h
    · rcases a2 j hj with (h | h) | h
      · exact .inl h
      · exact .inr (.inl h)
      · exact .inr (.inr h)
    · rcases a3 t ht j hj with ((h | h) | h) | h
      · exact absurd hd h
      · exact .inl h
      · exact .inr (.inl h)
      · exact .inr (.inr h)
  refine ⟨h1, fun i o ho => (hat i o ho).1, fun i j t hi hj h3 h4 => ?_, fun i o ho => (hat i o ho).2.2⟩
  obtain ⟨o, ho⟩ : ∃ o, ops[i]? = some o := ⟨ops[i], by simp [hi]⟩
  rcases (hat i o ho).2.1 j hj with h | h | h
  · exact h.symm
  · rw [h3] at h; cases h
  · exact absurd (h4.trans h3.symm) h

/-! ### Slots -/
theorem put_size (a : Act) (d : Option Tmp) (v : Value) : (a.put d v).tmps.size = a.tmps.size ∧ (a.put d v).defers = a.defers := by
  cases d <;> simp [Act.put]
theorem put_at (a : Act) (d : Option Tmp) (v : Value) (t : Nat) : (a.put d v).tmps[t]? = if d = some t then (a.tmps[t]?).map (fun _ => v) else a.tmps[t]? := by
  cases d with
  | none => simp [Act.put]
  | some d =>
    by_cases h : d = t
    · subst h
      simp only [Act.put, if_true]
      rw [Array.getElem?_setIfInBounds]
      by_cases hs : d < a.tmps.size
      · simp [hs]
      · simp [hs]
    · have h' : ¬ (some d = some t) := fun e => h (Option.some.inj e)
      rw [if_neg h']
      simp [Act.put, Array.getElem?_setIfInBounds_ne h]
theorem putTo_size (a : Act) (vs : Nat → Value) (i : Nat) : (putTo ops a vs i).tmps.size = a.tmps.size ∧ (putTo ops a vs i).defers = a.defers := by
  induction i with
  | zero => exact ⟨rfl, rfl⟩
  | succ i ih => exact ⟨(put_size _ _ _).1.trans ih.1, (put_size _ _ _).2.trans ih.2⟩
/-- what a frame holds when those of p have come up -/
def Slots (ops : Array Oper) (a : Act) (p : Nat → Bool) (vs : Nat → Value) (a' : Act) : Prop :=
  a'.tmps.size = a.tmps.size ∧ a'.defers = a.defers ∧ ∀ t, (∀ j, j < ops.size → dstOf ops j = some t → p j = true → a'.tmps[t]? = (a.tmps[t]?).map (fun _ => vs j)) ∧ ((∀ j, j < ops.size → dstOf ops j = some t → p j = false) → a'.tmps[t]? = a.tmps[t]?)
theorem slots_putTo (hr : RegOK ops) (a : Act) (vs : Nat → Value) : ∀ i, i ≤ ops.size → Slots ops a (fun j => decide (j < i)) vs (putTo ops a vs i) := by
  intro i
  induction i with
  | zero => intro _; exact ⟨rfl, rfl, fun t => ⟨fun j _ _ h => by simp at h, fun _ => rfl⟩⟩
  | succ i ih =>
    intro hi
    obtain ⟨h1, h2, h3⟩ := ih (by omega)
    refine ⟨(put_size _ _ _).1.trans h1, (put_size _ _ _).2.trans h2, fun t => ⟨fun j hj hd hp => ?_, fun hno => ?_⟩⟩
    · show ((putTo ops a vs i).put (dstOf ops i) (vs i)).tmps[t]? = _
      rw [put_at]
      by_cases hij : j = i
      · subst hij
        rw [if_pos hd]
        have hs : (putTo ops a vs j).tmps.size = a.tmps.size := (putTo_size a vs j).1
        rcases Nat.lt_or_ge t a.tmps.size with g | g
        · have g' : t < (putTo ops a vs j).tmps.size := hs.symm ▸ g
          simp [g, g']
        · have g' : (putTo ops a vs j).tmps.size ≤ t := hs.symm ▸ g
          rw [Array.getElem?_eq_none g', Array.getElem?_eq_none g, Option.map_none]
      · rw [if_neg (fun e => hij (hr.dst j i t hj (by omega) hd e))]
        simp only [decide_eq_true_eq] at hp
        exact (h3 t).1 j hj hd (by simp; omega)
    · show ((putTo ops a vs i).put (dstOf ops i) (vs i)).tmps[t]? = _
      rw [put_at, if_neg (fun e => by have := hno i (by omega) e; simp at this)]
      exact (h3 t).2 (fun j hj hd => by have := hno j hj hd; simp at this ⊢; omega)
theorem slots_ext {a a1 a2 : Act} {p : Nat → Bool} {vs : Nat → Value} (h1 : Slots ops a p vs a1) (h2 : Slots ops a p vs a2) : a1 = a2 := by
  obtain ⟨s1, d1, t1⟩ := h1
  obtain ⟨s2, d2, t2⟩ := h2
  have ht : a1.tmps = a2.tmps := by
    apply Array.ext_getElem?
    intro t
    by_cases h : ∃ j, j < ops.size ∧ dstOf ops j = some t ∧ p j = true
    · obtain ⟨j, hj, hd, hp⟩ := h
      rw [(t1 t).1 j hj hd hp, (t2 t).1 j hj hd hp]
    · have hn : ∀ j, j < ops.size → dstOf ops j = some t → p j = false := fun j hj hd => by
        cases hp : p j with
        | false => rfl
        | true => exact absurd ⟨j, hj, hd, hp⟩ h
      rw [(t1 t).2 hn, (t2 t).2 hn]
  cases a1
  cases a2
  simp only at ht d1 d2
  subst ht
  rw [d1, d2]
theorem slots_congr {a a' : Act} {p q : Nat → Bool} {vs us : Nat → Value} (h : Slots ops a p vs a') (e : ∀ j, j < ops.size → p j = q j) (f : ∀ j, j < ops.size → q j = true → vs j = us j) : Slots ops a q us a' := by
  obtain ⟨h1, h2, h3⟩ := h
  refine ⟨h1, h2, fun t => ⟨fun j hj hd hp => ?_, fun hno => (h3 t).2 (fun j hj hd => by rw [e j hj]; exact hno j hj hd)⟩⟩
  rw [(h3 t).1 j hj hd (by rw [e j hj]; exact hp), f j hj hp]

/-! ### Whatever order -/
theorem eval_slots (hr : RegOK ops) {a a1 a2 : Act} {p q : Nat → Bool} {vs us : Nat → Value} (h1 : Slots ops a p vs a1) (h2 : Slots ops a q us a2) {i : Nat} {o : Oper} (ho : ops[i]? = some o)
    (hpi : p i = false) (hqi : q i = false) (hdep : ∀ j, depOn o j = true → p j = true) (hq : ∀ j, q j = decide (j < i)) (hv : ∀ j, j < i → vs j = us j) (hc : Closed ops p) :
    ∀ t ∈ o.looksAt ops, a1.tmps[t]? = a2.tmps[t]? := by
  intro t ht
  by_cases h : ∃ j, j < ops.size ∧ dstOf ops j = some t
  · obtain ⟨j, hj, hd⟩ := h
    have huniq : ∀ k, k < ops.size → dstOf ops k = some t → k = j := fun k hk hkd => hr.dst k j t hk hj hkd hd
    have hcase : p j = q j := by
      rcases hr.look i o ho t ht j hj hd with h | ⟨h, hdo⟩ | ⟨h, hb⟩
      · rw [h, hpi, hqi]
      · rw [hdep j hdo, hq j, decide_eq_true h]
      · cases hp : p j with
        | false => rw [hq j, decide_eq_false (by omega)]
        | true => rw [before_listed hc _ _ _ hb hp] at hpi; cases hpi
    cases hp : p j with
    | true =>
      have hqj : q j = true := hcase ▸ hp
      rw [(h1.2.2 t).1 j hj hd hp, (h2.2.2 t).1 j hj hd hqj]
      rw [hq j] at hqj
      simp only [decide_eq_true_eq] at hqj
      rw [hv j hqj]
    | false =>
      have hqj : q j = false := hcase ▸ hp
      rw [(h1.2.2 t).2 (fun k hk hkd => by rw [huniq k hk hkd]; exact hp), (h2.2.2 t).2 (fun k hk hkd => by rw [huniq k hk hkd]; exact hqj)]
  · have hn : ∀ j, j < ops.size → dstOf ops j = some t → False := fun j hj hd => h ⟨j, hj, hd⟩
    rw [(h1.2.2 t).2 (fun j hj hd => (hn j hj hd).elim), (h2.2.2 t).2 (fun j hj hd => (hn j hj hd).elim)]
theorem exec_slots (hs : Region.noSelect ops = true) {a1 a2 : Act} {i : Nat} {o : Oper} (ho : ops[i]? = some o) (h : ∀ t ∈ o.looksAt ops, a1.tmps[t]? = a2.tmps[t]?) :
    execOp a1.eval o = execOp a2.eval o ∧ Region.wanted o (yielded ops a1.tmps) = Region.wanted o (yielded ops a2.tmps) := by
  refine ⟨execOp_congr o (fun cs b => Region.noSelect_spec hs i o cs b ho) (fun x hx => ?_), ?_⟩
  · cases x with
    | tmp t =>
      have ht : t ∈ o.looksAt ops := List.mem_append_left _ (List.mem_filterMap.2 ⟨.tmp t, by simpa using hx, rfl⟩)
      have := h t ht
      show a1.tmps.getD t undef = a2.tmps.getD t undef
      rw [Array.getD_eq_getD_getElem?, Array.getD_eq_getD_getElem?, this]
    | _ => rfl
  · unfold Region.wanted
    cases hg : o.guard with
    | none => rfl
    | some gw =>
      obtain ⟨g, want⟩ := gw
      have hy : yielded ops a1.tmps g = yielded ops a2.tmps g := by
        unfold yielded
        cases ht : (ops[g]?).bind (·.dst) with
        | none => rfl
        | some t =>
          have hm : t ∈ o.looksAt ops := by simp [Oper.looksAt, hg, ht]
          simp [h t hm]
      simp only [hy]
def cnt (listed : Array Bool) : Nat → Nat
  | 0 => 0
  | k + 1 => cnt listed k + if listed.getD k true = true then 0 else 1
theorem cnt_set {listed : Array Bool} {i : Nat} (hi : i < listed.size) (hf : listed.getD i true = false) : ∀ k, cnt (listed.setIfInBounds i true) k + (if i < k then 1 else 0) = cnt listed k := by
  intro k
  induction k with
  | zero => rfl
  | succ k ih =>
    show cnt (listed.setIfInBounds i true) k + (if (listed.setIfInBounds i true).getD k true = true then 0 else 1) + (if i < k + 1 then 1 else 0) = cnt listed k + (if listed.getD k true = true then 0 else 1)
    by_cases h : i = k
    · subst h
      have e : (listed.setIfInBounds i true).getD i true = true := by simp [hi]
      have ih' : cnt (listed.setIfInBounds i true) i = cnt listed i := by simpa using ih
      rw [e, hf, ih']
      simp
    · rw [getD_set_ne true h]
      generalize (if listed.getD k true = true then 0 else 1) = z
      by_cases g : i < k
      · have g2 : i < k + 1 := by omega
        rw [if_pos g] at ih
        rw [if_pos g2]
        omega
      · have g2 : ¬ i < k + 1 := by omega
        rw [if_neg g] at ih
        rw [if_neg g2]
        omega
theorem cnt_zero {listed : Array Bool} : ∀ k, cnt listed k = 0 → ∀ j, j < k → listed.getD j true = true := by
  intro k
  induction k with
  | zero => intro _ j hj; omega
  | succ k ih =>
    intro h j hj
    unfold cnt at h
    by_cases g : listed.getD k true = true
    · rcases Nat.lt_or_ge j k with h' | h'
      · exact ih (by omega) j h'
      · obtain rfl : j = k := by omega
        exact g
    · rw [if_neg g] at h
      omega
def up (vs : Nat → Value) (i : Nat) (v : Value) : Nat → Value := fun j => if j = i then v else vs j

/-- how a frame and a world stand when those listed have come up -/
structure Stand (ops : Array Oper) (a : Act) (w : World) (kds : List Kd) (listed : Array Bool) (vs : Nat → Value) (a' : Act) (W : World) : Prop where
  size : listed.size = ops.size
  cons : Cons kds vs
  grown : Gl w W
  val : ∀ j, j < ops.size → listed.getD j false = true → kdOf kds j (vs j) W
  slots : Slots ops a (fun j => listed.getD j false) vs a'
  closed : Closed ops (fun j => listed.getD j false)

theorem getD_two {listed : Array Bool} {j : Nat} (h : j < listed.size) : listed.getD j true = listed.getD j false := by simp [h]

theorem any_of_lex (hr : RegOK ops) {a : Act} {kds : List Kd}
    (hst : ∀ j o, ops[j]? = some o → ∀ v W W', Gl W W' → kdOf kds j v W → kdOf kds j v W')
    (hstep : ∀ vs, Cons kds vs → ∀ j o, ops[j]? = some o → StepOK P ops w o (accOf kds vs j) (kdOf kds j) (putTo ops a vs j))
    (hend : ∀ vs, Cons kds vs → ∀ W, Gl w W → (∀ p ∈ accOf kds vs ops.size, p.2.2 p.2.1 W) → E (putTo ops a vs ops.size) W) (Q : Exit → Act → World → Prop) (hQ : ∀ a w, E a w → Q .normal a w) :
    ∀ (fuel : Nat) (listed : Array Bool) (vs : Nat → Value) (a' : Act) (W : World), cnt listed ops.size ≤ fuel → Stand ops a w kds listed vs a' W → wpAny P .any ops Q fuel listed a' W := by
  have hfin : ∀ (listed : Array Bool) (vs : Nat → Value) (a' : Act) (W : World), (∀ j, j < ops.size → listed.getD j false = true) → Stand ops a w kds listed vs a' W → Q .normal a' W := by
    intro listed vs a' W hall hS
    have e : a' = putTo ops a vs ops.size := slots_ext (slots_congr hS.slots (fun j hj => by rw [hall j hj]; simp [hj]) (fun _ _ _ => rfl)) (slots_putTo hr a vs ops.size (Nat.le_refl _))
    rw [e]
    refine hQ _ _ (hend vs hS.cons W hS.grown (fun p hp => ?_))
    obtain ⟨h1, h2, h3⟩ := accOf_mem hp
    obtain ⟨k, e2, hv⟩ := hS.val p.1 h1 (hall p.1 h1)
    rw [h3] at e2
    obtain rfl := Option.some.inj e2
    rw [h2]
    exact hv
  intro fuel
  induction fuel with
  | zero =>
    intro listed vs a' W hc hS
    have hall : ∀ j, j < ops.size → listed.getD j false = true := fun j hj => by rw [← getD_two (by rw [hS.size]; exact hj)]; exact cnt_zero _ (Nat.le_zero.1 hc) j hj
    refine ⟨?_, hfin listed vs a' W hall hS⟩
    cases hR : Region.ready .any ops listed with
    | nil => rfl
    | cons x xs =>
      have hm : x ∈ Region.ready .any ops listed := by rw [hR]; exact List.mem_cons_self ..
      obtain ⟨h1, o, ho, _⟩ := mem_ready.1 hm
      have hx := (Array.getElem?_eq_some_iff.1 ho).1
      rw [getD_two (by rw [hS.size]; exact hx), hall x hx] at h1
      cases h1
  | succ fuel ih =>
    intro listed vs a' W hc hS
    refine ⟨fun hnil => ?_, fun i hi => ?_⟩
    · refine hfin listed vs a' W ?_ hS
      intro j
      induction j using Nat.strongRecOn with
      | ind j ihj =>
        intro hj
        cases hl : listed.getD j false with
        | true => rfl
        | false =>
          obtain ⟨o, ho⟩ : ∃ o, ops[j]? = some o := ⟨ops[j], by simp [hj]⟩
          have hm : j ∈ Region.ready .any ops listed := mem_ready.2 ⟨by rw [getD_two (by rw [hS.size]; exact hj)]; exact hl, o, ho, fun e he hb => by
            have h := hr.edge j o ho e he hb
            exact ihj e.on h (by omega)⟩
          rw [hnil] at hm
          cases hm
    · obtain ⟨hun, o, ho, hall⟩ := mem_ready.1 hi
      have hin := (Array.getElem?_eq_some_iff.1 ho).1
      have hinl : i < listed.size := by rw [hS.size]; exact hin
      have hun' : listed.getD i false = false := by rw [← getD_two hinl]; exact hun
      have hdep : ∀ j, depOn o j = true → listed.getD j false = true := fun j hj => by
        obtain ⟨e, he, hb⟩ := Array.any_eq_true'.1 hj
        simp only [Bool.and_eq_true, beq_iff_eq] at hb
        rw [← hb.2]
        exact hall e he hb.1
      have hlook := eval_slots hr hS.slots (slots_putTo hr a vs i (Nat.le_of_lt hin)) ho hun' (by simp) hdep (fun j => rfl) (fun _ _ => rfl) hS.closed
      obtain ⟨hex, hwa⟩ := exec_slots hr.sel ho hlook
      have hdst : dstOf ops i = o.dst := by unfold dstOf; rw [ho]; rfl
      have hK : ∀ v W', Gl W W' → kdOf kds i v W' → wpAny P .any ops Q fuel (listed.setIfInBounds i true) (a'.put o.dst v) W' := by
        intro v W' hg hv
        have hcnt := cnt_set hinl hun ops.size
        rw [if_pos hin] at hcnt
        have hset : ∀ j, j ≠ i → (listed.setIfInBounds i true).getD j false = listed.getD j false := fun j hj => getD_set_ne false (Ne.symm hj)
        have hseti : (listed.setIfInBounds i true).getD i false = true := by simp [hinl]
        have hmono : ∀ j, listed.getD j false = true → (listed.setIfInBounds i true).getD j false = true := fun j h => getD_set_true h
        refine ih _ (up vs i v) _ W' (by omega) ⟨by rw [Array.size_setIfInBounds]; exact hS.size, fun j c hj => ?_, hS.grown.trans hg, fun j hj hl => ?_, ?_, fun j o' ho' hl e he hb => ?_⟩
        · unfold up
          split
          · rename_i hji
            subst hji
            obtain ⟨k, e, hv'⟩ := hv
            rw [hj] at e
            obtain rfl := Option.some.inj e
            exact hv'
          · exact hS.cons j c hj
        · unfold up
          by_cases hji : j = i
          · subst hji
            rw [if_pos rfl]
            exact hv
          · rw [if_neg hji]
            rw [hset j hji] at hl
            obtain ⟨o', ho'⟩ : ∃ o', ops[j]? = some o' := ⟨ops[j], by simp [hj]⟩
            exact hst j o' ho' _ _ _ hg (hS.val j hj hl)
        · obtain ⟨s1, s2, s3⟩ := hS.slots
          refine ⟨(put_size _ _ _).1.trans s1, (put_size _ _ _).2.trans s2, fun t => ⟨fun j hj hd hl => ?_, fun hno => ?_⟩⟩
          · rw [put_at]
            by_cases hji : j = i
            · subst hji
              rw [← hdst, if_pos hd]
              unfold up
              rw [if_pos rfl]
              rcases Nat.lt_or_ge t a.tmps.size with g | g
              · have g' : t < a'.tmps.size := s1.symm ▸ g
                simp [g, g']
              · have g' : a'.tmps.size ≤ t := s1.symm ▸ g
                rw [Array.getElem?_eq_none g', Array.getElem?_eq_none g, Option.map_none]
            · rw [if_neg (fun e => hji (hr.dst j i t hj hin hd (hdst.trans e)))]
              have hl : (listed.setIfInBounds i true).getD j false = true := hl
              rw [hset j hji] at hl
              rw [(s3 t).1 j hj hd hl]
              unfold up
              rw [if_neg hji]
          · rw [put_at, if_neg (fun e => by have h9 : (listed.setIfInBounds i true).getD i false = false := hno i hin (hdst.trans e); rw [hseti] at h9; cases h9)]
            refine (s3 t).2 (fun j hj hd => ?_)
            have this : (listed.setIfInBounds i true).getD j false = false := hno j hj hd
            by_cases hji : j = i
            · subst hji; rw [hseti] at this; cases this
            · rw [hset j hji] at this; exact this
        · by_cases hji : j = i
          · subst hji
            rw [ho] at ho'
            obtain rfl := Option.some.inj ho'
            exact hmono _ (hall e he hb)
          · have hl' : listed.getD j false = true := by rw [← hset j hji]; exact hl
            exact hmono _ (hS.closed j o' ho' hl' e he hb)
      have hs := hstep vs hS.cons i o ho W hS.grown (fun p hp hd => by
        obtain ⟨h1, h2, h3⟩ := accOf_mem hp
        obtain ⟨k, e2, hv⟩ := hS.val p.1 (by omega) (hdep p.1 hd)
        rw [h3] at e2
        obtain rfl := Option.some.inj e2
        rw [h2]
        exact hv) (fun v W' => wpAny P .any ops Q fuel (listed.setIfInBounds i true) (a'.put o.dst v) W') hK
      unfold wpOp
      simp only [ho]
      rw [hwa]
      split
      · rename_i hw
        rw [if_pos hw] at hs
        refine .inl ?_
        unfold Oper.wp
        rw [hex]
        generalize (execOp (putTo ops a vs i).eval o).run P W = r at *
        cases r with
        | ok n W' =>
          cases n <;> simp only [Oper.upon, invUpon] at hs ⊢
          case value u => exact hs
          case skip => exact hs
          case enter f args =>
            refine Calls.mono hs fun e w2 he => ?_
            obtain ⟨v, rfl, hv⟩ := he
            exact hv
        | halt x W' => simp only [invUpon] at hs
      · rename_i hw
        rw [if_neg hw] at hs
        exact hs

/-- A REGION THAT DRAWS: one walk in the order of the text. -/
theorem wp_region_inv {id : Nat} {a : Act} {Q : Exit → Act → World → Prop} (kds : List Kd) (hm : P.follows .mixedOrders = true) (hok : regOK ops = true)
    (h : wpInv P ops w.drew (fun a w => Q .normal a w) ops.toList kds 0 [] a) : (Code.region id ops true).wp P Q a w := by
  have hr := regOK_spec hok
  have hlex := fun (vs : Nat → Value) (hc : Cons kds vs) => lex_step (P := P) (w := w.drew) (E := fun a w => Q .normal a w) (a := a) hc ops.toList 0 rfl h
  obtain ⟨vs0, hc0⟩ : ∃ vs, Cons kds vs := ⟨fun i => match kds[i]? with | some (.is c) => c | _ => undef, fun i c hi => by simp only [hi]⟩
  refine wp_region_any hm ?_
  refine any_of_lex (w := w.drew) (E := fun a w => Q .normal a w) hr (fun j o ho => ((hlex vs0 hc0).1 j o (Nat.zero_le _) ho).1) (fun vs hc j o ho => ((hlex vs hc).1 j o (Nat.zero_le _) ho).2) (fun vs hc => (hlex vs hc).2 (Nat.zero_le _)) Q (fun _ _ h => h) ops.size _ vs0 a _ ?_ ?_
  · have : ∀ (l : Array Bool) k, cnt l k ≤ k := by
      intro l k
      induction k with
      | zero => exact Nat.le_refl _
      | succ k ih => unfold cnt; split <;> omega
    exact this _ _
  · have hn : ∀ j, (Array.replicate ops.size false).getD j false = false := fun j => by
      rw [Array.getD_eq_getD_getElem?, Array.getElem?_replicate]
      split <;> rfl
    have hno : ∀ j, (Array.replicate ops.size false).getD j false = true → False := fun j hl => by rw [hn j] at hl; cases hl
    exact ⟨by simp, hc0, Gl.refl _, fun j hj hl => (hno j hl).elim, ⟨rfl, rfl, fun t => ⟨fun j _ _ hl => (hno j hl).elim, fun _ => rfl⟩⟩, fun j o _ hl => (hno j hl).elim⟩
theorem wp_region_inv_lit {id : Nat} {a : Act} {Q : Exit → Act → World → Prop} {l : List Oper} (kds : List Kd) (hm : P.follows .mixedOrders = true) (hok : regOK l.toArray = true)
    (h : wpInv P l.toArray w.drew (fun a w => Q .normal a w) l kds 0 [] a) : (Code.region id l.toArray true).wp P Q a w := wp_region_inv kds hm hok (by simpa using h)
theorem Gl.undrew {w W : World} (h : Gl w.drew W) : Below w.heap.size w W := ⟨h.os, h.tape, h.output, h.size, h.block⟩
end
attribute [go_sem] invUpon
end Go.Proofs.Ytghddknhoiaboaa
