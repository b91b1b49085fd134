/-
  Arguments opened, by the layout of their types: what the reading of such an argument says of memory. Plain laws over any program. No statement is proved here.
-/
import Derived.Test.YthnppodnjokaoabOpenD
import Derived.Test.YthnppodnjokaoabHelpLib
namespace Go.Proofs.Ythnppodnjokaoab
open Go.RowKit

section
variable {H : Type} (enc : TypeId × Value → H) (P : Program) (w : World) (base : Nat) (spare : Nat → Bool) (held : Bool)
/-- What is read at type t lies as L says. -/
def Opens {α : Type} (t : TypeId) (L : Lay α) : Prop :=
  ∀ n cs y, DataW.trod enc P w base spare held n t cs = some y → ∃ z : α, L.fit z ∧ cs.length = L.sz ∧ ∀ j (hj : j < cs.length) (hj' : j < (L.cells z).length), RD w cs[j] (L.cells z)[j]
end
section
variable {H : Type} {enc : TypeId × Value → H} {P : Program} {w : World} {base : Nat} {spare : Nat → Bool} {held : Bool}
theorem Opens.int {t : TypeId} (ht : P.underlying t = some (.int .i64)) : Opens enc P w base spare held t Lay.int := by
  intro n cs y h
  obtain ⟨k, rfl, _, hw⟩ := DataW.trod_int ht h
  refine ⟨k, hw, rfl, fun j hj hj' => ?_⟩
  match j, hj with
  | 0, _ => exact .val _
theorem Opens.str {t : TypeId} (ht : P.underlying t = some .string) : Opens enc P w base spare held t Lay.str := by
  intro n cs y h
  obtain ⟨s, rfl, _, hs⟩ := DataW.trod_string ht h
  refine ⟨s, hs, rfl, fun j hj hj' => ?_⟩
  match j, hj with
  | 0, _ => exact .val _
theorem Opens.bool {t : TypeId} (ht : P.underlying t = some .bool) : Opens enc P w base spare held t Lay.bool := by
  intro n cs y h
  obtain ⟨b, rfl, _⟩ := DataW.trod_bool ht h
  refine ⟨b, trivial, rfl, fun j hj hj' => ?_⟩
  match j, hj with
  | 0, _ => exact .val _
theorem Opens.list {α : Type} {L : Lay α} {t e : TypeId} (ht : P.underlying t = some (.slice e)) (hc : P.cellsOf e = L.sz) (he : Opens enc P w base spare held e L) : Opens enc P w base spare held t (Lay.list L) := by
  intro n cs y h
  obtain ⟨a, len, cap, rfl⟩ : ∃ a len cap, cs = [.slice a len cap] := by
    rcases DataW.trod_slice ht h with ⟨h0, _⟩ | ⟨a', l', c', _, _, _, _, h0, _⟩
    · exact ⟨none, 0, 0, h0⟩
    · exact ⟨some a', l', c', h0⟩
  obtain ⟨zs, rfl, h2, h3, h4⟩ := open_dat L.cells L.len L.pos L.fit ht hc (fun n _ cs y hy => by
    obtain ⟨z, hz, _, hr⟩ := he n cs y hy
    exact ⟨z, hz, hr⟩) h
  refine ⟨zs, ⟨h2, h4⟩, rfl, fun j hj hj' => ?_⟩
  match j, hj with
  | 0, _ => exact h3
/-- An argument that is a slice. -/
theorem Opens.slice {α : Type} {L : Lay α} {t : TypeId} (he : Opens enc P w base spare held t (Lay.list L)) {n : Nat} {a : Option Addr} {len cap : Nat} {y : DataW H × List MemPlace} (h : DataW.trod enc P w base spare held n t [.slice a len cap] = some y) :
    ∃ zs : List α, len = zs.length ∧ (Lay.list L).fit zs ∧ RD w (.slice a zs.length cap) (slD L zs) := by
  obtain ⟨zs, hf, _, hr⟩ := he n _ y h
  have r : RD w (.slice a len cap) (slD L zs) := hr 0 (by simp) (by simp [Lay.cells_list])
  have e := r.lenL
  subst e
  exact ⟨zs, rfl, hf, r⟩
end
end Go.Proofs.Ythnppodnjokaoab
