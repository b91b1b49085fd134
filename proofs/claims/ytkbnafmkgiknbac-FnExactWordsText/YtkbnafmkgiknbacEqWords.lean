/-
  Contracts of the law package's small helpers on lists of words (eqWord, eqWordS, markWordS, heldWordS) over this translation. No statement is proved here.
-/
import Derived.Test.YtkbnafmkgiknbacWordsMath
import Derived.Test.YtkbnafmkgiknbacMarkText
import Derived.Deep.RegionWith
namespace Go.Proofs.Ytkbnafmkgiknbac
open Go.RowKit

theorem eqWord_same (kd pl : Int) (tx : ByteArray) (w : World) : Calls Try.prog 31 #[.agg #[.int .i64 kd, .int .i64 pl, .string tx], .agg #[.int .i64 kd, .int .i64 pl, .string tx]] w fun e w' => e = .returned (.bool true) ∧ Below w.heap.size w w' := by
  go_enter Try.func31, Try.ntmps31
  go_wp2
  go_ret
  exact ⟨rfl, ((Below.refl _ _).alloc (Nat.le_refl _) _).alloc (by simp) _⟩

/-- The three cells of a word that is read. -/
theorem ReadsT.word {w : World} {a : Option Addr} {zs : List Wd} (h : ReadsT wdE w a zs) {i : Nat} (hi : i < zs.length) :
    ∃ b off, a = some ⟨b, off, none⟩ ∧ b < w.heap.size ∧ w.cell? ⟨b, off + i * 3, none⟩ = some (.int .i64 zs[i].kind) ∧ w.cell? ⟨b, off + i * 3 + 1, none⟩ = some (.int .i64 zs[i].place) ∧ w.cell? ⟨b, off + i * 3 + 2, none⟩ = some (.string zs[i].text) := by
  obtain ⟨b, off, rfl, hb, hc⟩ := h.at hi
  refine ⟨b, off, rfl, hb, ?_, ?_, ?_⟩
  · simpa [wdE] using hc 0 (by decide)
  · simpa [wdE, ← Nat.add_assoc] using hc 1 (by decide)
  · simpa [wdE, ← Nat.add_assoc] using hc 2 (by decide)

theorem eqWordS_same (a b : Option Addr) (c d : Nat) (ws : List Wd) (w : World) (h : ReadsT wdE w a ws) (g : ReadsT wdE w b ws) (hl : ws.length ≤ 1099511627776) :
    Calls Try.prog 11 #[.slice a ws.length c, .slice b ws.length d] w fun e w' => e = .returned (.bool true) ∧ Below w.heap.size w w' := by
  go_enter Try.func11, Try.ntmps11
  go_wp2
  go_loopw [5] (fun i wr => ∃ k : Nat, k ≤ ws.length ∧ i = .int .i64 k ∧ Below w.heap.size w wr) (fun i _ => ws.length - (intOf i).toNat)
  case atStart => exact ⟨0, Nat.zero_le _, rfl, Below.refl _ _⟩
  case round =>
    obtain ⟨k, hk, rfl, hbel⟩ := hrel
    by_cases hlt : k < ws.length
    · obtain ⟨b1, o1, rfl, hb1, q0, q1, q2⟩ := (h.below hbel).word hlt
      obtain ⟨b2, o2, rfl, hb2, r0, r1, r2⟩ := (g.below hbel).word hlt
      generalize ws[k].kind = kd at *
      generalize ws[k].place = pl at *
      generalize ws[k].text = tx at *
      go_wp2
      go_region_with (go_at_call 31; refine (eqWord_same kd pl tx _).mono ?_; rintro e w1 ⟨rfl, hl1⟩)
      all_goals
        go_wp2
        go_roundw
        case rel => exact ⟨k + 1, by omega, by go_num, hbel.drew.trans (hl1.mono hbel.size)⟩
        case measure => simp [intOf]; omega
    · go_wp2
      go_ret
      exact ⟨rfl, hbel⟩

theorem eqWordS_own (b1 b2 : Nat) (u v : Value) (ws : List Wd) (w : World) (h : OwnT wdE w b1 54 u ws) (g : OwnT wdE w b2 54 v ws) (hl : ws.length ≤ 1099511627776) :
    Calls Try.prog 11 #[u, v] w fun e w' => e = .returned (.bool true) ∧ Below w.heap.size w w' := by
  obtain ⟨a, c, rfl, hr, _⟩ := h.shape
  obtain ⟨a2, c2, rfl, gr, _⟩ := g.shape
  exact eqWordS_same a a2 c c2 ws w hr gr hl

/-- A store into one field of a word. -/
theorem OwnT.kindW {w : World} {base g cap : Nat} {e : TypeId} {xs : List Wd} {n : Nat} (hn : n = xs.length) (h : OwnT wdE w base e (.slice (some ⟨g, 0, none⟩) n cap) xs) {i : Nat} (hi : i < xs.length) (z : Int) :
    OwnT wdE (w.setCell ⟨g, i * 3, none⟩ (.int .i64 z)) base e (.slice (some ⟨g, 0, none⟩) n cap) (xs.set i { xs[i] with kind := z }) ∧ w.grownBy (w.setCell ⟨g, i * 3, none⟩ (.int .i64 z)) (some g) ∧ (∃ u, w.cell? ⟨g, i * 3, none⟩ = some u) ∧ w.frozen? ⟨g, i * 3, none⟩ = false := by
  have h1 := h.store hn hi 0 (by decide) (.int .i64 z) { xs[i] with kind := z } rfl
  have h2 := h.at hn hi 0 (by decide)
  exact ⟨h1.1, h1.2, ⟨_, h2.1⟩, h2.2⟩
theorem OwnT.placeW {w : World} {base g cap : Nat} {e : TypeId} {xs : List Wd} {n : Nat} (hn : n = xs.length) (h : OwnT wdE w base e (.slice (some ⟨g, 0, none⟩) n cap) xs) {i : Nat} (hi : i < xs.length) (z : Int) :
    OwnT wdE (w.setCell ⟨g, i * 3 + 1, none⟩ (.int .i64 z)) base e (.slice (some ⟨g, 0, none⟩) n cap) (xs.set i { xs[i] with place := z }) ∧ w.grownBy (w.setCell ⟨g, i * 3 + 1, none⟩ (.int .i64 z)) (some g) ∧ (∃ u, w.cell? ⟨g, i * 3 + 1, none⟩ = some u) ∧ w.frozen? ⟨g, i * 3 + 1, none⟩ = false := by
  have h1 := h.store hn hi 1 (by decide) (.int .i64 z) { xs[i] with place := z } rfl
  have h2 := h.at hn hi 1 (by decide)
  exact ⟨h1.1, h1.2, ⟨_, h2.1⟩, h2.2⟩
theorem OwnT.textW {w : World} {base g cap : Nat} {e : TypeId} {xs : List Wd} {n : Nat} (hn : n = xs.length) (h : OwnT wdE w base e (.slice (some ⟨g, 0, none⟩) n cap) xs) {i : Nat} (hi : i < xs.length) (z : ByteArray) :
    OwnT wdE (w.setCell ⟨g, i * 3 + 2, none⟩ (.string z)) base e (.slice (some ⟨g, 0, none⟩) n cap) (xs.set i { xs[i] with text := z }) ∧ w.grownBy (w.setCell ⟨g, i * 3 + 2, none⟩ (.string z)) (some g) ∧ (∃ u, w.cell? ⟨g, i * 3 + 2, none⟩ = some u) ∧ w.frozen? ⟨g, i * 3 + 2, none⟩ = false := by
  have h1 := h.store hn hi 2 (by decide) (.string z) { xs[i] with text := z } rfl
  have h2 := h.at hn hi 2 (by decide)
  exact ⟨h1.1, h1.2, ⟨_, h2.1⟩, h2.2⟩

theorem set_three {L : List Wd} {j : Nat} (hj : j < L.length) (a b : Int) (t : ByteArray) (h1 : j < (L.set j { L[j] with kind := a }).length) (h2 : j < ((L.set j { L[j] with kind := a }).set j { (L.set j { L[j] with kind := a })[j] with place := b }).length) :
    ((L.set j { L[j] with kind := a }).set j { (L.set j { L[j] with kind := a })[j] with place := b }).set j { ((L.set j { L[j] with kind := a }).set j { (L.set j { L[j] with kind := a })[j] with place := b })[j] with text := t } = L.set j ⟨a, b, t⟩ := by
  simp

end Go.Proofs.Ytkbnafmkgiknbac
