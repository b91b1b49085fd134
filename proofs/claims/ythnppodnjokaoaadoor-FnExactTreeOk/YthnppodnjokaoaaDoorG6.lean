/-
  Contracts and plain mathematics, joined: QuietR. No statement is proved here.
-/
import Derived.Test.YthnppodnjokaoaaDoorG2
import Derived.Sort.QuietIn
namespace Go.Proofs.YthnppodnjokaoaaDoor
open Go

section
variable {F : Fence} {n : Nat} {P : Program} {ops : Array Oper} {md : Region.Mode} {C : World → Prop}

/-- No operation is a defer. -/
def noDefer (ops : Array Oper) : Bool := ops.toList.all fun o => match o.op with | .defer _ => false | _ => true
theorem noDefer_at {i : Nat} {o : Oper} (h : noDefer ops = true) (hi : ops[i]? = some o) : ∀ c, o.op ≠ .defer c := fun c e => by
  have hm : o ∈ ops.toList := by
    obtain ⟨h1, h2⟩ := Array.getElem?_eq_some_iff.1 hi
    rw [← h2]; simp
  have := List.all_eq_true.1 h o hm
  rw [e] at this
  cases this
theorem quiet_step {o : Oper} {a : Act} {v : Value} {K : Act → World → Prop} {Q : Exit → Act → World → Prop} {w : World} (hnd : Oper.semAt F.round a.eval o = execOp a.eval o) (hw : C w) (ha : o.askedIn F P a C) (hq : o.quietAtIn F n P a C w v) (h : ∀ w', C w' → K (a.put o.dst v) w') : o.wpIn F n P a w K Q := by
  refine ⟨ha w hw, ?_⟩
  rw [hnd]
  unfold Oper.quietAtIn at hq
  revert hq
  cases (execOp a.eval o).run P w with
  | halt x w' => exact fun hq => hq.elim
  | ok x w' =>
    cases x with
    | value u => rintro ⟨rfl, rfl⟩; exact h _ hw
    | skip => rintro ⟨rfl, rfl⟩; exact h _ hw
    | enter f args =>
      rintro ⟨rfl, hd, hc⟩
      exact ⟨hd, hc.mono fun e w2 ⟨he, h2⟩ => by subst he; exact h _ h2⟩
    | _ => exact fun hq => hq.elim
theorem any_of_quiet {Q : Act → Prop} {Q' : Exit → Act → World → Prop} (hd : noDefer ops = true) (hQ : ∀ a w, C w → Q a → Q' .normal a w) : ∀ (fuel : Nat) (listed : Array Bool) (a : Act) (w : World), C w → wpAnyQIn F n P md ops C Q fuel listed a → wpAnyIn F n P md ops Q' fuel listed a w
  | 0, _, _, _, hw, h => ⟨h.1, hQ _ _ hw h.2⟩
  | fuel + 1, listed, a, w, hw, h => by
    refine ⟨fun h0 => hQ _ _ hw (h.1 h0), fun i hi => ?_⟩
    have hq := h.2 i hi
    have ih := any_of_quiet (Q := Q) (Q' := Q') hd hQ fuel (listed.setIfInBounds i true)
    unfold qOpIn at hq
    unfold wpOpIn
    cases ho : ops[i]? with
    | none =>
      simp only [ho] at hq
      exact ih _ _ hw hq
    | some o =>
      simp only [ho] at hq ⊢
      obtain ⟨ha, hq⟩ := hq
      by_cases hwt : Region.wanted o (yielded ops a.tmps) = true
      · rw [if_pos hwt] at hq ⊢
        obtain ⟨v, h1, h2⟩ := hq
        exact quiet_step (Oper.semAt_eq _ _ _ (noDefer_at hd ho)) hw ha (h1 w hw) (fun w' hw' => ih _ _ hw' h2)
      · rw [if_neg hwt] at hq ⊢
        exact ⟨ha w hw, ih _ _ hw hq⟩
theorem region_quietR {id : Nat} {Q : Exit → Act → World → Prop} {a : Act} {w : World} {l : List Oper} (hm : P.follows .mixedOrders = true) (hd : noDefer l.toArray = true) (hB : Region.lexB .any l.toArray = true)
    (h : wpQuietIn F n P l.toArray (fun w' => ∃ k, w' = w.drewN k) (fun a' => ∀ w', (∃ k, w' = w.drewN k) → Q .normal a' w') l a) : (Code.region id l.toArray true).wpIn F n P Q a w := by
  simp only [Region.lexB, Bool.and_eq_true] at hB
  refine wpIn_region_any hm (any_of_quiet (C := fun w' => ∃ k, w' = w.drewN k) (Q := fun a' => ∀ w', (∃ k, w' = w.drewN k) → Q .normal a' w') hd (fun _ w' hw' h => h w' hw') _ _ _ _ ⟨1, rfl⟩ ?_)
  have := wpAnyQIn_lex (F := F) (n := n) (C := fun w' => ∃ k, w' = w.drewN k) (md := .any) hB.1 l 0 (Array.replicate l.toArray.size false) a (by simp) (by simpa using hB.2) h
  simpa using this
end
end Go.Proofs.YthnppodnjokaoaaDoor
