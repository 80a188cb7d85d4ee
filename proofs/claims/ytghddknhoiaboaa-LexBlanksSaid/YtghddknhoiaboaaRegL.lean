/-
  A region that draws, whose last operation (which waits for all the others) may change the world as it likes.
-/
import Derived.Test.YtghddknhoiaboaaReg
namespace Go.Proofs.Ytghddknhoiaboaa
open Go.ChangeShapes Go.WideShapes Go.ChangeAt Go.RowKit
set_option linter.unusedVariables false

section
variable {P : Program} {ops : Array Oper} {w : World} {E : Act → World → Prop}

def LastOK (P : Program) (ops : Array Oper) (w : World) (E : Act → World → Prop) (o : Oper) (acc : List Fact) (A : Act) : Prop :=
  ∀ W, Gl w W → (∀ p ∈ acc, p.2.2 p.2.1 W) →
    if Region.wanted o (yielded ops A.tmps) = true then invUpon P (fun v W' => E (A.put o.dst v) W') ((execOp A.eval o).run P W) else E (A.put o.dst undef) W
def wpInvL (P : Program) (ops : Array Oper) (w : World) (E : Act → World → Prop) : List Oper → List Kd → Nat → List Fact → Act → Prop
  | [], _, _, _, _ => False
  | o :: rest, [], _, acc, A => LastOK P ops w E o acc A
  | o :: rest, .is c :: kds, i, acc, A => StepOK P ops w o acc (fun v _ => v = c) A ∧ wpInvL P ops w E rest kds (i + 1) acc (A.put o.dst c)
  | o :: rest, .has g :: kds, i, acc, A => Stable g ∧ StepOK P ops w o acc g A ∧ ∀ v, wpInvL P ops w E rest kds (i + 1) ((i, v, g) :: acc) (A.put o.dst v)
theorem wpInvL_is {o : Oper} {rest : List Oper} {c : Value} {kds : List Kd} {i : Nat} {acc : List Fact} {A : Act} (h : StepOK P ops w o acc (fun v _ => v = c) A) (k : wpInvL P ops w E rest kds (i + 1) acc (A.put o.dst c)) : wpInvL P ops w E (o :: rest) (.is c :: kds) i acc A := ⟨h, k⟩
theorem wpInvL_has {o : Oper} {rest : List Oper} {kds : List Kd} {i : Nat} {acc : List Fact} {A : Act} (g : Value → World → Prop) (s : Stable g) (h : StepOK P ops w o acc g A) (k : ∀ v, wpInvL P ops w E rest kds (i + 1) ((i, v, g) :: acc) (A.put o.dst v)) : wpInvL P ops w E (o :: rest) (.has g :: kds) i acc A := ⟨s, h, k⟩
theorem wpInvL_last {o : Oper} {i : Nat} {acc : List Fact} {A : Act} (h : LastOK P ops w E o acc A) : wpInvL P ops w E [o] [] i acc A := h

theorem lex_stepL {a : Act} {kds : List Kd} {vs : Nat → Value} (hc : Cons kds vs) (hlen : kds.length + 1 = ops.size) : ∀ (rest : List Oper) (i : Nat), i ≤ kds.length → ops.toList.drop i = rest → wpInvL P ops w E rest (kds.drop i) i (accOf kds vs i) (putTo ops a vs i) →
    (∀ j o, i ≤ j → j < kds.length → ops[j]? = some o → (∀ v W W', Gl W W' → kdOf kds j v W → kdOf kds j v W') ∧ StepOK P ops w o (accOf kds vs j) (kdOf kds j) (putTo ops a vs j)) ∧
    (∀ o, ops[kds.length]? = some o → LastOK P ops w E o (accOf kds vs kds.length) (putTo ops a vs kds.length)) := by
  intro rest
  induction rest with
  | nil =>
    intro i _ hd h
    exact h.elim
  | cons o rest ih =>
    intro i hik hd h
    have hi : i < ops.size := by omega
    have hil : i < ops.toList.length := by simpa using hi
    rw [List.drop_eq_getElem_cons hil] at hd
    injection hd with ho hd
    have hoo : ops[i]? = some o := by rw [← ho]; simp [hi]
    have hdst : dstOf ops i = o.dst := by unfold dstOf; rw [hoo]; rfl
    cases hk : kds.drop i with
    | nil =>
      have hle : kds.length ≤ i := by
        have := congrArg List.length hk
        simp at this
        omega
      obtain rfl : i = kds.length := by omega
      rw [hk] at h
      refine ⟨fun j o' hj hj2 ho' => by omega, fun o' ho' => ?_⟩
      obtain rfl : o = o' := by rw [hoo] at ho'; exact Option.some.inj ho'
      exact h
    | cons k kds' =>
      have hki : kds[i]? = some k := by
        have : (kds.drop i)[0]? = some k := by rw [hk]; rfl
        simpa using this
      have hkl : i < kds.length := (List.getElem?_eq_some_iff.1 hki).1
      have hkd : kds.drop (i + 1) = kds' := by
        have : (kds.drop i).drop 1 = kds' := by rw [hk]; rfl
        rw [List.drop_drop] at this
        exact this
      rw [hk] at h
      cases k with
      | is c =>
        have hvc := hc i c hki
        obtain ⟨h1, h2⟩ := h
        have hacc : accOf kds vs (i + 1) = accOf kds vs i := by show (match kds[i]? with | some (.has g) => _ | _ => _) = _; rw [hki]
        have h3 := ih (i + 1) (by omega) hd (by rw [hkd, hacc]; show wpInvL P ops w E rest kds' (i + 1) _ ((putTo ops a vs i).put (dstOf ops i) (vs i)); rw [hdst, hvc]; exact h2)
        refine ⟨fun j o' hj hj2 ho' => ?_, h3.2⟩
        rcases Nat.lt_or_ge i j with g | g
        · exact h3.1 j o' g hj2 ho'
        · obtain rfl : i = j := by omega
          obtain rfl : o = o' := by rw [hoo] at ho'; exact Option.some.inj ho'
          refine ⟨fun v W W' _ hv => ?_, fun W hW hf K hK => h1 W hW hf K (fun v W' hg hv => hK v W' hg ⟨_, hki, hv⟩)⟩
          obtain ⟨k, e, hv⟩ := hv
          rw [hki] at e
          obtain rfl := Option.some.inj e
          exact ⟨_, hki, hv⟩
      | has g =>
        obtain ⟨hs, h1, h2⟩ := h
        have hacc : accOf kds vs (i + 1) = (i, vs i, g) :: accOf kds vs i := by show (match kds[i]? with | some (.has g) => _ | _ => _) = _; rw [hki]
        have h3 := ih (i + 1) (by omega) hd (by rw [hkd, hacc]; show wpInvL P ops w E rest kds' (i + 1) _ ((putTo ops a vs i).put (dstOf ops i) (vs i)); rw [hdst]; exact h2 (vs i))
        refine ⟨fun j o' hj hj2 ho' => ?_, h3.2⟩
        rcases Nat.lt_or_ge i j with g' | g'
        · exact h3.1 j o' g' hj2 ho'
        · obtain rfl : i = j := by omega
          obtain rfl : o = o' := by rw [hoo] at ho'; exact Option.some.inj ho'
          refine ⟨fun v W W' hW hv => ?_, fun W hW hf K hK => h1 W hW hf K (fun v W' hg hv => hK v W' hg ⟨_, hki, hv⟩)⟩
          obtain ⟨k, e, hv⟩ := hv
          rw [hki] at e
          obtain rfl := Option.some.inj e
          exact ⟨_, hki, hs v W W' hW hv⟩

/-- all others stand before the last -/
def lastAll (ops : Array Oper) : Bool := (List.range (ops.size - 1)).all fun j => beforeF ops ops.size (ops.size - 1) j

theorem any_of_lexL (hr : RegOK ops) (hla : lastAll ops = true) {a : Act} {kds : List Kd} (hlen : kds.length + 1 = ops.size)
    (hst : ∀ j o, j < kds.length → ops[j]? = some o → ∀ v W W', Gl W W' → kdOf kds j v W → kdOf kds j v W')
    (hstep : ∀ vs, Cons kds vs → ∀ j o, j < kds.length → ops[j]? = some o → StepOK P ops w o (accOf kds vs j) (kdOf kds j) (putTo ops a vs j))
    (hlast : ∀ vs, Cons kds vs → ∀ o, ops[kds.length]? = some o → LastOK P ops w E o (accOf kds vs kds.length) (putTo ops a vs kds.length)) (Q : Exit → Act → World → Prop) (hQ : ∀ a w, E a w → Q .normal a w) :
    ∀ (fuel : Nat) (listed : Array Bool) (vs : Nat → Value) (a' : Act) (W : World), cnt listed ops.size ≤ fuel → listed.getD kds.length false = false → Stand ops a w kds listed vs a' W → wpAny P .any ops Q fuel listed a' W := by
  have hbef : ∀ j, j < kds.length → beforeF ops ops.size kds.length j = true := fun j hj => by
    unfold lastAll at hla
    rw [List.all_eq_true] at hla
    have h := hla j (List.mem_range.2 (by omega))
    rw [show ops.size - 1 = kds.length by omega] at h
    exact h
  intro fuel
  induction fuel with
  | zero =>
    intro listed vs a' W hc hnl hS
    have := cnt_zero ops.size (Nat.le_zero.1 hc) kds.length (by omega)
    rw [getD_two (by rw [hS.size]; omega), hnl] at this
    cases this
  | succ fuel ih =>
    intro listed vs a' W hc hnl hS
    refine ⟨fun hnil => ?_, fun i hi => ?_⟩
    · have hallj : ∀ j, j < ops.size → listed.getD j false = true := by
        intro j
        induction j using Nat.strongRecOn with
        | ind j ihj =>
          intro hj
          cases hl : listed.getD j false with
          | true => rfl
          | false =>
            obtain ⟨o, ho⟩ : ∃ o, ops[j]? = some o := ⟨ops[j], by simp [hj]⟩
            have hm : j ∈ Region.ready .any ops listed := mem_ready.2 ⟨by rw [getD_two (by rw [hS.size]; exact hj)]; exact hl, o, ho, fun e he hb => by
              have h := hr.edge j o ho e he hb
              exact ihj e.on h (by omega)⟩
            rw [hnil] at hm
            cases hm
      rw [hallj kds.length (by omega)] at hnl
      cases hnl
    · obtain ⟨hun, o, ho, hall⟩ := mem_ready.1 hi
      by_cases hiL : i = kds.length
      · subst hiL
        have hinl : kds.length < listed.size := by rw [hS.size]; omega
        have hallj : ∀ j, j < kds.length → listed.getD j false = true := fun j hj => by
          have hb := hbef j hj
          obtain ⟨n, hn⟩ : ∃ n, ops.size = n + 1 := ⟨kds.length, hlen.symm⟩
          rw [hn] at hb
          unfold beforeF at hb
          rw [ho] at hb
          obtain ⟨e, he, hb⟩ := Array.any_eq_true'.1 hb
          simp only [Bool.and_eq_true, Bool.or_eq_true, beq_iff_eq] at hb
          have hl := hall e he hb.1
          rcases hb.2 with h1 | h1
          · rw [← h1]; exact hl
          · exact before_listed hS.closed n e.on j h1 hl
        have e : a' = putTo ops a vs kds.length := slots_ext (slots_congr hS.slots (fun j hj => by
          rcases Nat.lt_or_ge j kds.length with g | g
          · rw [hallj j g]; simp [g]
          · obtain rfl : j = kds.length := by omega
            rw [hnl]; simp) (fun _ _ _ => rfl)) (slots_putTo hr a vs kds.length (by omega))
        have hs := hlast vs hS.cons o ho W hS.grown (fun p hp => by
          obtain ⟨h1, h2, h3⟩ := accOf_mem hp
          obtain ⟨k, e2, hv⟩ := hS.val p.1 (by omega) (hallj p.1 h1)
          rw [h3] at e2
          obtain rfl := Option.some.inj e2
          rw [h2]
          exact hv)
        rw [← e] at hs
        have hdone : ∀ A W', E A W' → wpAny P .any ops Q fuel (listed.setIfInBounds kds.length true) A W' := by
          intro A W' hE
          have hrd : Region.ready .any ops (listed.setIfInBounds kds.length true) = [] := by
            cases hR : Region.ready .any ops (listed.setIfInBounds kds.length true) with
            | nil => rfl
            | cons x xs =>
              have hm : x ∈ Region.ready .any ops (listed.setIfInBounds kds.length true) := by rw [hR]; exact List.mem_cons_self ..
              obtain ⟨h1, o', ho', _⟩ := mem_ready.1 hm
              have hx := (Array.getElem?_eq_some_iff.1 ho').1
              rw [getD_two (by rw [Array.size_setIfInBounds, hS.size]; exact hx)] at h1
              rcases Nat.lt_or_ge x kds.length with g | g
              · rw [getD_set_true (hallj x g)] at h1; cases h1
              · obtain rfl : x = kds.length := by omega
                rw [show (listed.setIfInBounds kds.length true).getD kds.length false = true by simp [hinl]] at h1
                cases h1
          cases fuel with
          | zero => exact ⟨hrd, hQ _ _ hE⟩
          | succ fuel =>
            refine ⟨fun _ => hQ _ _ hE, fun x hx => ?_⟩
            rw [hrd] at hx
            cases hx
        unfold wpOp
        simp only [ho]
        split
        · rename_i hw
          rw [if_pos hw] at hs
          refine .inl ?_
          unfold Oper.wp
          generalize (execOp a'.eval o).run P W = r at *
          cases r with
          | ok n W' =>
            cases n <;> simp only [Oper.upon, invUpon] at hs ⊢
            case value u => exact hdone _ _ hs
            case skip => exact hdone _ _ hs
            case enter f args =>
              refine Calls.mono hs fun e w2 he => ?_
              obtain ⟨v, rfl, hv⟩ := he
              exact hdone _ _ hv
          | halt x W' => simp only [invUpon] at hs
        · rename_i hw
          rw [if_neg hw] at hs
          exact hdone _ _ hs
      · have hin' : i < ops.size := (Array.getElem?_eq_some_iff.1 ho).1
        have hin := (Array.getElem?_eq_some_iff.1 ho).1
        have hinl : i < listed.size := by rw [hS.size]; exact hin
        have hun' : listed.getD i false = false := by rw [← getD_two hinl]; exact hun
        have hdep : ∀ j, depOn o j = true → listed.getD j false = true := fun j hj => by
          obtain ⟨e, he, hb⟩ := Array.any_eq_true'.1 hj
          simp only [Bool.and_eq_true, beq_iff_eq] at hb
          rw [← hb.2]
          exact hall e he hb.1
        have hlook := eval_slots hr hS.slots (slots_putTo hr a vs i (Nat.le_of_lt hin)) ho hun' (by simp) hdep (fun j => rfl) (fun _ _ => rfl) hS.closed
        obtain ⟨hex, hwa⟩ := exec_slots hr.sel ho hlook
        have hdst : dstOf ops i = o.dst := by unfold dstOf; rw [ho]; rfl
        have hK : ∀ v W', Gl W W' → kdOf kds i v W' → wpAny P .any ops Q fuel (listed.setIfInBounds i true) (a'.put o.dst v) W' := by
          intro v W' hg hv
          have hcnt := cnt_set hinl hun ops.size
          rw [if_pos hin] at hcnt
          have hset : ∀ j, j ≠ i → (listed.setIfInBounds i true).getD j false = listed.getD j false := fun j hj => getD_set_ne false (Ne.symm hj)
          have hseti : (listed.setIfInBounds i true).getD i false = true := by simp [hinl]
          have hmono : ∀ j, listed.getD j false = true → (listed.setIfInBounds i true).getD j false = true := fun j h => getD_set_true h
          refine ih _ (up vs i v) _ W' (by omega) (by rw [hset kds.length (fun e => hiL e.symm)]; exact hnl) ⟨by rw [Array.size_setIfInBounds]; exact hS.size, fun j c hj => ?_, hS.grown.trans hg, fun j hj hl => ?_, ?_, fun j o' ho' hl e he hb => ?_⟩
          · unfold up
            split
            · rename_i hji
              subst hji
              obtain ⟨k, e, hv'⟩ := hv
              rw [hj] at e
              obtain rfl := Option.some.inj e
              exact hv'
            · exact hS.cons j c hj
          · unfold up
            by_cases hji : j = i
            · subst hji
              rw [if_pos rfl]
              exact hv
            · rw [if_neg hji]
              rw [hset j hji] at hl
              obtain ⟨o', ho'⟩ : ∃ o', ops[j]? = some o' := ⟨ops[j], by simp [hj]⟩
              exact hst j o' (by
                have : j ≠ kds.length := fun e => by rw [e, hnl] at hl; cases hl
                omega) ho' _ _ _ hg (hS.val j hj hl)
          · obtain ⟨s1, s2, s3⟩ := hS.slots
            refine ⟨(put_size _ _ _).1.trans s1, (put_size _ _ _).2.trans s2, fun t => ⟨fun j hj hd hl => ?_, fun hno => ?_⟩⟩
            · rw [put_at]
              by_cases hji : j = i
              · subst hji
                rw [← hdst, if_pos hd]
                unfold up
                rw [if_pos rfl]
                rcases Nat.lt_or_ge t a.tmps.size with g | g
                · have g' : t < a'.tmps.size := s1.symm ▸ g
                  simp [g, g']
                · have g' : a'.tmps.size ≤ t := s1.symm ▸ g
                  rw [Array.getElem?_eq_none g', Array.getElem?_eq_none g, Option.map_none]
              · rw [if_neg (fun e => hji (hr.dst j i t hj hin hd (hdst.trans e)))]
                have hl : (listed.setIfInBounds i true).getD j false = true := hl
                rw [hset j hji] at hl
                rw [(s3 t).1 j hj hd hl]
                unfold up
                rw [if_neg hji]
            · rw [put_at, if_neg (fun e => by have h9 : (listed.setIfInBounds i true).getD i false = false := hno i hin (hdst.trans e); rw [hseti] at h9; cases h9)]
              refine (s3 t).2 (fun j hj hd => ?_)
              have this : (listed.setIfInBounds i true).getD j false = false := hno j hj hd
              by_cases hji : j = i
              · subst hji; rw [hseti] at this; cases this
              · rw [hset j hji] at this; exact this
          · by_cases hji : j = i
            · subst hji
              rw [ho] at ho'
              obtain rfl := Option.some.inj ho'
              exact hmono _ (hall e he hb)
            · have hl' : listed.getD j false = true := by rw [← hset j hji]; exact hl
              exact hmono _ (hS.closed j o' ho' hl' e he hb)
        have hs := hstep vs hS.cons i o (by omega) ho W hS.grown (fun p hp hd => by
          obtain ⟨h1, h2, h3⟩ := accOf_mem hp
          obtain ⟨k, e2, hv⟩ := hS.val p.1 (by omega) (hdep p.1 hd)
          rw [h3] at e2
          obtain rfl := Option.some.inj e2
          rw [h2]
          exact hv) (fun v W' => wpAny P .any ops Q fuel (listed.setIfInBounds i true) (a'.put o.dst v) W') hK
        unfold wpOp
        simp only [ho]
        rw [hwa]
        split
        · rename_i hw
          rw [if_pos hw] at hs
          refine .inl ?_
          unfold Oper.wp
          rw [hex]
          generalize (execOp (putTo ops a vs i).eval o).run P W = r at *
          cases r with
          | ok n W' =>
            cases n <;> simp only [Oper.upon, invUpon] at hs ⊢
            case value u => exact hs
            case skip => exact hs
            case enter f args =>
              refine Calls.mono hs fun e w2 he => ?_
              obtain ⟨v, rfl, hv⟩ := he
              exact hv
          | halt x W' => simp only [invUpon] at hs
        · rename_i hw
          rw [if_neg hw] at hs
          exact hs
theorem wp_region_last {id : Nat} {a : Act} {Q : Exit → Act → World → Prop} (kds : List Kd) (hm : P.follows .mixedOrders = true) (hok : regOK ops = true) (hla : lastAll ops = true) (hlen : kds.length + 1 = ops.size)
    (h : wpInvL P ops w.drew (fun a w => Q .normal a w) ops.toList kds 0 [] a) : (Code.region id ops true).wp P Q a w := by
  have hr := regOK_spec hok
  have hlex := fun (vs : Nat → Value) (hc : Cons kds vs) => lex_stepL (P := P) (w := w.drew) (E := fun a w => Q .normal a w) (a := a) hc hlen ops.toList 0 (Nat.zero_le _) rfl h
  obtain ⟨vs0, hc0⟩ : ∃ vs, Cons kds vs := ⟨fun i => match kds[i]? with | some (.is c) => c | _ => undef, fun i c hi => by simp only [hi]⟩
  refine wp_region_any hm ?_
  have hn : ∀ j, (Array.replicate ops.size false).getD j false = false := fun j => by
    rw [Array.getD_eq_getD_getElem?, Array.getElem?_replicate]
    split <;> rfl
  refine any_of_lexL (w := w.drew) (E := fun a w => Q .normal a w) hr hla hlen (fun j o hj ho => ((hlex vs0 hc0).1 j o (Nat.zero_le _) hj ho).1) (fun vs hc j o hj ho => ((hlex vs hc).1 j o (Nat.zero_le _) hj ho).2) (fun vs hc => (hlex vs hc).2) Q (fun _ _ h => h) ops.size _ vs0 a _ ?_ (hn _) ?_
  · have : ∀ (l : Array Bool) k, cnt l k ≤ k := by
      intro l k
      induction k with
      | zero => exact Nat.le_refl _
      | succ k ih => unfold cnt; split <;> omega
    exact this _ _
  · have hno : ∀ j, (Array.replicate ops.size false).getD j false = true → False := fun j hl => by rw [hn j] at hl; cases hl
    exact ⟨by simp, hc0, Gl.refl _, fun j hj hl => (hno j hl).elim, ⟨rfl, rfl, fun t => ⟨fun j _ _ hl => (hno j hl).elim, fun _ => rfl⟩⟩, fun j o _ hl => (hno j hl).elim⟩
theorem wp_region_last_lit {id : Nat} {a : Act} {Q : Exit → Act → World → Prop} {l : List Oper} (kds : List Kd) (hm : P.follows .mixedOrders = true) (hok : regOK l.toArray = true) (hla : lastAll l.toArray = true) (hlen : kds.length + 1 = l.length)
    (h : wpInvL P l.toArray w.drew (fun a w => Q .normal a w) l kds 0 [] a) : (Code.region id l.toArray true).wp P Q a w := wp_region_last kds hm hok hla (by simpa using hlen) (by simpa using h)
end
end Go.Proofs.Ytghddknhoiaboaa
