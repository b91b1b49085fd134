/-
  What the walks of the exact laws share: boxes whose cells stand; the old boxes behind a call. Plain laws over any program. No statement is proved here.
-/
import Derived.Test.YthnppodnjokaoabHelpLib
import Derived.Deep.RegionHeld
namespace Go.Proofs.Ythnppodnjokaoab
open Go.RowKit

/-- Each block that is told begins with the cells that are told. -/
def Keeps (w : World) (L : List (Nat × List Value)) : Prop := ∀ p ∈ L, ∀ j (hj : j < p.2.length), w.cell? ⟨p.1, j, none⟩ = some p.2[j]
theorem Keeps.nil (w : World) : Keeps w [] := fun p hp => by simp at hp
theorem Keeps.later {w w' : World} {L : List (Nat × List Value)} (h : Keeps w L) (hb : Below w.heap.size w w') : Keeps w' L := by
  intro p hp j hj
  have c := h p hp j hj
  exact (hb.cell (p := ⟨p.1, j, none⟩) (World.block_lt_of_cell? w _ c)).trans c
theorem Keeps.box {w : World} {L : List (Nat × List Value)} (h : Keeps w L) (vs : List Value) (t : TypeId) : Keeps (w.alloc (.cells vs.toArray t)) ((w.heap.size, vs) :: L) := by
  intro p hp j hj
  rcases List.mem_cons.1 hp with rfl | hp
  · have e := Lib.cell_of_heap (heap_alloc_new w (.cells vs.toArray t)) j
    rw [e]
    simp at hj
    simp [hj]
  · exact h.later ((Below.refl _ _).alloc (Nat.le_refl _) _) p hp j hj
theorem Keeps.drew {w : World} {L : List (Nat × List Value)} (h : Keeps w L) : Keeps w.drew L := h.later (Below.drew (Below.refl _ _))
theorem Keeps.drewN {w : World} {L : List (Nat × List Value)} (h : Keeps w L) (n : Nat) : Keeps (w.drewN n) L := h.later (below_drew n)

theorem Cells.rdAt {w : World} {base : Nat} {us : List Value} {ds : List Dat} {T : Nat → Prop} (h : Cells w base us ds T) (i : Nat) (hi : i < us.length) (hi' : i < ds.length) : RD w us[i] ds[i] := by
  obtain ⟨G, hl, hr, _⟩ := h
  exact (hr i hi hi').rd
theorem take_atL {P : Program} {ops : Array Oper} {Q : Exit → Act → World → Prop} {md : Region.Mode} {S : World → Prop} {i : Nat} {oi : Oper} {d : Option Tmp} {v : Value} {fuel : Nat} {listed : Array Bool} {a : Act} {w : World} (hi : ops[i]? = some oi) (hd : oi.dst = d)
    (hs : Region.noSelect ops = true) (hf : Region.free md ops listed i = true) (hr : (Region.ready md ops listed).contains i = true)
    (hQ : ∀ c a w, Q (.panic c) (a.put d v) w → Q (.panic c) a w) (hw : Region.wanted oi (yielded ops a.tmps) = true) (hv : ∀ w, S w → (execOp a.eval oi).run P w = .ok (.value v) w) (hS : S w)
    (h : wpAnyH P md ops Q S fuel (listed.setIfInBounds i true) (a.put d v) w) : wpAnyH P md ops Q S (fuel + 1) listed a w := by
  subst hd
  exact wpAnyH_take hi hs hf hr hQ (.inl ⟨hw, hv⟩) hS h
theorem Below.drewed {w w' : World} (h : Below w.heap.size w.drew w') : Below w.heap.size w w' := ⟨h.os, h.tape, h.output, h.size, h.block⟩
end Go.Proofs.Ythnppodnjokaoab
