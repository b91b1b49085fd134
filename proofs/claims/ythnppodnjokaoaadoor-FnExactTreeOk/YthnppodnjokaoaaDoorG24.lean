/-
  Contracts and plain mathematics, joined: LoopMarks. No statement is proved here.
-/
import Derived.Test.YthnppodnjokaoaaDoorG21
import Derived.Deep.LoopGhost
namespace Go.Proofs.YthnppodnjokaoaaDoor
open Go.RowKit Go.Shelf

section
variable {P : Program} {F : Fence} {n : Nat}
/-- A loop whose invariant bears a number that each round lowers. -/
theorem wpIn_loop_num {Q : Exit → Act → World → Prop} {a : Act} {w : World} {c : Code} (I : Nat → Act → World → Prop) (n₀ : Nat) (h₀ : I n₀ a w)
    (round : ∀ k a w, I k a w → ∀ K : Act → World → Prop, (∀ k' a' w', k' < k → I k' a' w' → K a' w') → c.wpIn F n P (Exit.then K Q) a w) : (Code.loop c).wpIn F n P Q a w := by
  refine wpIn_loop (fun a w => ∃ k, I k a w) (fun a w => leastOf (fun k => I k a w)) ⟨n₀, h₀⟩ fun a w hI => ?_
  have h1 := (leastOf_spec hI).1
  exact round _ a w h1 _ fun k' a' w' hlt h2 => ⟨⟨k', h2⟩, Nat.lt_of_le_of_lt ((leastOf_spec ⟨k', h2⟩).2 k' h2) hlt⟩

/-- The marks of ranges over functions. -/
def marksOf (ds : List Nat) : List Deferred := ds.map fun D => { target := .collected D, args := #[] }
theorem marksOf_cons (D : Nat) (ds : List Nat) : ({ target := .collected D, args := #[] } : Deferred) :: marksOf ds = marksOf (D :: ds) := rfl
/-- Blocks that are there for the rounds' deferred calls, none twice. -/
def MarksIn (B : Nat) (ds : List Nat) (w : World) : Prop := ds.Nodup ∧ ∀ D ∈ ds, B ≤ D ∧ w.heap[D]? = some (.deferred (some []))
theorem MarksIn.nil (B : Nat) (w : World) : MarksIn B [] w := ⟨List.nodup_nil, fun _ h => by simp at h⟩
theorem MarksIn.kept {B b : Nat} {ds : List Nat} {w w' : World} (h : MarksIn B ds w) (hb : b ≤ B) (hk : KeepsFrom b w w') : MarksIn B ds w' := ⟨h.1, fun D hD => ⟨(h.2 D hD).1, hk.same D _ (by have := (h.2 D hD).1; omega) (h.2 D hD).2 rfl⟩⟩
theorem MarksIn.within {B : Nat} {ds : List Nat} {w w' : World} {S : Nat → Prop} (h : MarksIn B ds w) (hw : Within w w' S) (hn : ∀ k o, w.heap[k]? = some o → o.isCells = false → ¬ S k) : MarksIn B ds w' := ⟨h.1, fun D hD => ⟨(h.2 D hD).1, hw.same (h.2 D hD).2 (hn D _ (h.2 D hD).2 rfl)⟩⟩
theorem MarksIn.push {B D : Nat} {ds : List Nat} {w w0 : World} (h : MarksIn B ds w) (h0 : ∀ x ∈ ds, x < w0.heap.size) (hD : w0.heap.size ≤ D) (hB : B ≤ D) (hd : w.heap[D]? = some (.deferred (some []))) : MarksIn B (D :: ds) w :=
  ⟨List.nodup_cons.2 ⟨fun hm => by have := h0 D hm; omega, h.1⟩, fun x hx => by
    rcases List.mem_cons.1 hx with rfl | hx
    · exact ⟨hB, hd⟩
    · exact h.2 x hx⟩
theorem MarksIn.lt {B : Nat} {ds : List Nat} {w : World} (h : MarksIn B ds w) : ∀ x ∈ ds, x < w.heap.size := fun x hx => (Array.getElem?_eq_some_iff.1 (h.2 x hx).2).1

theorem leaves_marks {fn : Func} {tmps : Array Value} {R : Ending → World → Prop} {B : Nat} : ∀ (ds : List Nat) (w : World), MarksIn B ds w → (∀ w', Within w w' (fun k => B ≤ k ∧ ∃ o, w.heap[k]? = some o ∧ o.isCells = false) → LeavesInM F n P fn tmps R [] .returning w') → LeavesInM F n P fn tmps R (marksOf ds) .returning w
  | [], w, _, h => h w (Within.refl _ _)
  | D :: ds, w, hm, h => by
    have hD := hm.2 D (by simp)
    refine ⟨by simp, .inl ⟨D, _, rfl, run_takeDeferred hD.2, ?_⟩⟩
    have hnd := List.nodup_cons.1 hm.1
    have hw : Within w (w.putObj D (.deferred none)) (fun k => k = D) := within_put _
    refine leaves_marks ds _ ⟨hnd.2, fun x hx => ⟨(hm.2 x (by simp [hx])).1, hw.same (hm.2 x (by simp [hx])).2 (fun e => hnd.1 (e ▸ hx))⟩⟩ fun w' hw' => h w' ?_
    have h1 : Within w (w.putObj D (.deferred none)) (fun k => B ≤ k ∧ ∃ o, w.heap[k]? = some o ∧ o.isCells = false) := hw.mono (fun k e => by subst e; exact ⟨hD.1, _, hD.2, rfl⟩)
    refine ⟨hw'.os.trans h1.os, hw'.tape.trans h1.tape, hw'.output.trans h1.output, Nat.le_trans h1.size hw'.size, fun k hk hn => ?_⟩
    by_cases e : k = D
    · subst e; exact absurd ⟨hD.1, _, hD.2, rfl⟩ hn
    · have e1 := h1.block k hk hn
      have hk2 : k < (w.putObj D (.deferred none)).heap.size := by simpa using hk
      refine (hw'.block k hk2 (fun hx => ?_)).trans e1
      rw [e1] at hx
      exact hn hx
end
end Go.Proofs.YthnppodnjokaoaaDoor
