/-
  Contracts and plain mathematics, joined: L7Ways, SpecDerives. No statement is proved here.
-/
import Derived.Test.YthnppodnjokaoaaDoorG19
import Derived.Test.YthnppodnjokaoaaDoorG17
import Derived.Test.YthnppodnjokaoaaDoorG11
namespace Go.Proofs.YthnppodnjokaoaaDoor
open Go.RowKit

theorem NewIn.tab {P : List (List (List Int))} {ws : List Int} {aP : Option Addr} {cP : Nat} {aw : Option Addr} {cw : Nat} {w : World} {vW vD : Value} {bW bD τ : Nat → Nat} {wr : World} (h : NewIn ws aP cP P.length aw cw w vW vD bW bD τ P.length P.length wr) (hp : 0 < P.length) :
    ∃ t : TP, t.bT = w.heap.size + 1 ∧ Tab P ws w t aP cP aw cw (fun _ => False) wr := by
  obtain ⟨HW, HD, t0, t1, hb, hl, c0, c1, c2, hf⟩ := h
  obtain ⟨oW, cW, rfl, lW1, lW2⟩ := HW.own.form hp
  obtain ⟨oD, cD, rfl, lD1, lD2⟩ := HD.own.form hp
  have tW := HW.tagV oW rfl
  have tD := HD.tagV oD rfl
  have fW := HW.tagF
  have fD := HD.tagF
  have lW : ∀ k, k < P.length → bW k < wr.heap.size := fun k hk => (HW.rows k hk).lt
  have lD : ∀ k, k < P.length → bD k < wr.heap.size := fun k hk => (HD.rows k hk).lt
  refine ⟨⟨w.heap.size + 1, oW, oD, cW, cD, bW, bD⟩, rfl, ⟨⟨fun i j hi hj e => ?_, fun i j hi hj e => ?_, fun i j hi hj e => ?_, fun ⟨k, hk, e⟩ => ?_, fun ⟨k, hk, e⟩ => ?_, fun ⟨k, hk, e⟩ => ?_, fun b ⟨k, hk, e⟩ => ?_⟩, hb, ⟨hl, lW2, lD2, fun b ⟨k, hk, e⟩ => ?_⟩, c1, c2, HW.cell, HD.cell, fun k hk => ?_, fun k hk => ?_, fun b ⟨k, hk, e⟩ i => ?_, fun _ _ => false, fun k i hk hi => ⟨?_, .slice none 0 0, ?_, fun e => by cases e⟩⟩⟩
  · have h1 := fW i hi; have h2 := fW j hj; dsimp only at e; rw [e] at h1; omega
  · have h1 := fD i hi; have h2 := fD j hj; dsimp only at e; rw [e] at h1; omega
  · have h1 := fW i hi; have h2 := fD j hj; dsimp only at e; rw [e] at h1; omega
  · dsimp only at e
    rcases e with e | e
    · have h1 := fW k hk; rw [← e] at h1; omega
    · have h1 := fD k hk; rw [← e] at h1; omega
  · dsimp only at e
    rcases e with e | e
    · have h1 := fW k hk; rw [← e] at h1; omega
    · have h1 := fD k hk; rw [← e] at h1; omega
  · dsimp only at e
    rcases e with e | e
    · have h1 := fW k hk; rw [← e] at h1; omega
    · have h1 := fD k hk; rw [← e] at h1; omega
  · dsimp only at e
    rcases e with e | e
    · rw [e]; exact HW.low k hk
    · rw [e]; exact HD.low k hk
  · dsimp only at e
    rcases e with e | e
    · rw [e]; exact lW k hk
    · rw [e]; exact lD k hk
  · have := HW.own.cellAt k (by omega)
    rw [this, rowsAt_get _ _ hk]
  · have := HD.own.cellAt k (by omega)
    rw [this, rowsAt_get _ _ hk]
  · dsimp only at e
    rcases e with e | e
    · rw [e]; exact (HW.rows k hk).frozen i
    · rw [e]; exact (HD.rows k hk).frozen i
  · exact (HD.rows k hk).cell (by omega)
  · exact (HW.rows k hk).cell (by omega)

end Go.Proofs.YthnppodnjokaoaaDoor
namespace Go.Proofs.YthnppodnjokaoaaDoor
open Go.RowKit

theorem resCheck_ok {x : Gm} (h : resCheck x = 0) : gramOkB x.parts = true ∧ NoLoop x.parts := by
  unfold resCheck at h
  split at h
  · rename_i hg
    refine ⟨hg, fun k hk => ?_⟩
    split at h
    · cases h
    · rename_i hl
      by_cases e : hasL (startsL x.parts)[k] (k : Int) = true
      · exact absurd (loopB_yes hk e) hl
      · simpa using e
  · cases h
/-- What Derives answers. -/
def resDerives (x : Gm) (row ws : List Int) : Bool := decide (resCheck x = 0) && inputOkB ws && rowOk x.parts.length row && decide (0 < rowWays x.parts row ws)
theorem resDerives_check {x : Gm} {row ws : List Int} (h : resCheck x ≠ 0) : resDerives x row ws = false := by simp [resDerives, h]
theorem resDerives_input {x : Gm} {row ws : List Int} (h : inputOkB ws = false) : resDerives x row ws = false := by simp [resDerives, h]
theorem resDerives_row {x : Gm} {row ws : List Int} (h : rowOk x.parts.length row = false) : resDerives x row ws = false := by simp [resDerives, h]
theorem resDerives_all {x : Gm} {row ws : List Int} (h1 : resCheck x = 0) (h2 : inputOkB ws = true) (h3 : rowOk x.parts.length row = true) : resDerives x row ws = decide (0 < rowWays x.parts row ws) := by simp [resDerives, h1, h2, h3]
/-- What Accepts answers. -/
def resAccepts (x : Gm) (ws : List Int) : Bool := resDerives x [100] ws
theorem fit_one : (Lay.list Lay.int).fit [100] := ⟨by simp [maxLen], fun x hx => by rw [List.mem_singleton.1 hx]; rfl⟩
theorem OwnInts.oneD {w : World} {base : Nat} {e : TypeId} (x : Int) (h : base ≤ w.heap.size) : OwnInts (w.alloc (.cells #[.int .i64 x] e)) base e (.slice (some ⟨w.heap.size, 0, none⟩) 1 1) [x] :=
  World.ownsRow_lit w #[.int .i64 x] 1 h (by simp [maxLen]) rfl
/-- What Ways answers. -/
def resWays (x : Gm) (ws : List Int) (n : Int) : Int := if resCheck x = 0 ∧ inputOkB ws = true ∧ 0 ≤ n ∧ n ≤ 1000 then min (rowWays x.parts [100] ws : Int) n else 0
theorem one_row {n : Nat} (h : 1 ≤ n) : rowOk n [100] = true := by
  have : symOk n 100 = true := symOk_true.2 (.inr (by omega))
  simp [rowOk, this]
theorem gram_one {P : List (List (List Int))} (h : gramOkB P = true) : 1 ≤ P.length := by simp only [gramOkB, Bool.and_eq_true, inB_true] at h; omega

end Go.Proofs.YthnppodnjokaoaaDoor
