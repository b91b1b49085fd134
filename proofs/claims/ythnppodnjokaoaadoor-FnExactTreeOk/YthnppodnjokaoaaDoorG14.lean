/-
  Contracts and plain mathematics, joined: Errs. No statement is proved here.
-/
import Derived.Test.YthnppodnjokaoaaDoorG1
import Derived.Test.YthnppodnjokaoaaDoorG2
import Derived.Stop.LaidErr
namespace Go.Proofs.YthnppodnjokaoaaDoor
open Go.RowKit

abbrev errV (a : Addr) : Value := .iface 171 (.pointer (some a))
/-- The four variables hold four errors of errors.New's make. -/
structure Errs (w : World) (a0 a1 a2 a3 : Addr) : Prop where
  g0 : w.cell? ⟨0, 0, none⟩ = some (errV a0)
  g1 : w.cell? ⟨1, 0, none⟩ = some (errV a1)
  g2 : w.cell? ⟨2, 0, none⟩ = some (errV a2)
  g3 : w.cell? ⟨3, 0, none⟩ = some (errV a3)
  r0 : ∃ c t, w.heap[a0.block]? = some (.cells c t (0, 0))
  r1 : ∃ c t, w.heap[a1.block]? = some (.cells c t (0, 0))
  r2 : ∃ c t, w.heap[a2.block]? = some (.cells c t (0, 0))
  r3 : ∃ c t, w.heap[a3.block]? = some (.cells c t (0, 0))
  n01 : a0 ≠ a1
  n02 : a0 ≠ a2
  n03 : a0 ≠ a3
  n12 : a1 ≠ a2
  n13 : a1 ≠ a3
  n23 : a2 ≠ a3
theorem row_later {w w' : World} {a : Addr} (h : ∃ c t, w.heap[a.block]? = some (.cells c t (0, 0))) (hb : Below w.heap.size w w') : ∃ c t, w'.heap[a.block]? = some (.cells c t (0, 0)) := by
  obtain ⟨c, t, h⟩ := h
  exact ⟨c, t, by rw [hb.block _ (Array.getElem?_eq_some_iff.1 h).1]; exact h⟩
theorem Errs.later {w w' : World} {a0 a1 a2 a3 : Addr} (h : Errs w a0 a1 a2 a3) (hb : Below w.heap.size w w') : Errs w' a0 a1 a2 a3 :=
  ⟨(hb.cell (World.block_lt_of_cell? w _ h.g0)).trans h.g0, (hb.cell (World.block_lt_of_cell? w _ h.g1)).trans h.g1, (hb.cell (World.block_lt_of_cell? w _ h.g2)).trans h.g2, (hb.cell (World.block_lt_of_cell? w _ h.g3)).trans h.g3,
   row_later h.r0 hb, row_later h.r1 hb, row_later h.r2 hb, row_later h.r3 hb, h.n01, h.n02, h.n03, h.n12, h.n13, h.n23⟩
theorem errIs_no {a b : Addr} (w : World) (hne : a ≠ b) (ha : ∃ c t, w.heap[a.block]? = some (.cells c t (0, 0))) (hb : ∃ c t, w.heap[b.block]? = some (.cells c t (0, 0))) :
    Calls Tryd.prog 99 #[errV a, errV b] w fun e w' => e = .returned (.bool false) ∧ w' = w := by
  obtain ⟨ca, ta, ha⟩ := ha
  obtain ⟨cb, tb, hb⟩ := hb
  exact errIs_other a b ca cb ta tb w hne ha hb

section
variable {w : World} {a0 a1 a2 a3 : Addr}
theorem codeOf_nil (E : Errs w a0 a1 a2 a3) : Calls Tryd.prog 80 #[.nilIface] w fun e w' => e = .returned (.int .i64 0) ∧ w' = w := by
  have g0 := E.g0
  have g1 := E.g1
  have g2 := E.g2
  have g3 := E.g3
  have X : Hid (∀ b, Calls Tryd.prog 99 #[.nilIface, errV b] w fun e w' => e = .returned (.bool false) ∧ w' = w) := fun b => errIs_nil b w
  clear E
  go_enter Tryd.func80, Tryd.ntmps80
  go_wp2_with (go_at_call 99; refine (X.out _).mono ?_; rintro e w' ⟨rfl, hw'⟩; have hw2 := hw'.symm; clear hw'; subst hw2)
  go_ret
  exact ⟨rfl, rfl⟩
theorem codeOf_bad (E : Errs w a0 a1 a2 a3) : Calls Tryd.prog 80 #[errV a0] w fun e w' => e = .returned (.int .i64 1) ∧ w' = w := by
  have g0 := E.g0
  have X : Hid (Calls Tryd.prog 99 #[errV a0, errV a0] w fun e w' => e = .returned (.bool true) ∧ w' = w) := errIs_same a0 w
  clear E
  go_enter Tryd.func80, Tryd.ntmps80
  go_wp2_with (go_at_call 99; refine X.out.mono ?_; rintro e w' ⟨rfl, hw'⟩; have hw2 := hw'.symm; clear hw'; subst hw2)
  go_ret
  exact ⟨rfl, rfl⟩
theorem codeOf_loop (E : Errs w a0 a1 a2 a3) : Calls Tryd.prog 80 #[errV a1] w fun e w' => e = .returned (.int .i64 2) ∧ w' = w := by
  have g0 := E.g0
  have g1 := E.g1
  have X0 : Hid (Calls Tryd.prog 99 #[errV a1, errV a0] w fun e w' => e = .returned (.bool false) ∧ w' = w) := errIs_no w E.n01.symm E.r1 E.r0
  have X : Hid (Calls Tryd.prog 99 #[errV a1, errV a1] w fun e w' => e = .returned (.bool true) ∧ w' = w) := errIs_same a1 w
  clear E
  go_enter Tryd.func80, Tryd.ntmps80
  go_wp2_with fail
  refine X0.out.mono ?_
  rintro e w' ⟨rfl, hw'⟩
  have hw2 := hw'.symm
  clear hw'
  subst hw2
  go_wp2_with fail
  refine X.out.mono ?_
  rintro e w' ⟨rfl, hw'⟩
  have hw2 := hw'.symm
  clear hw'
  subst hw2
  go_wp2
  go_ret
  exact ⟨rfl, rfl⟩
theorem codeOf_dead (E : Errs w a0 a1 a2 a3) : Calls Tryd.prog 80 #[errV a2] w fun e w' => e = .returned (.int .i64 3) ∧ w' = w := by
  have g0 := E.g0
  have g1 := E.g1
  have g2 := E.g2
  have X0 : Hid (Calls Tryd.prog 99 #[errV a2, errV a0] w fun e w' => e = .returned (.bool false) ∧ w' = w) := errIs_no w E.n02.symm E.r2 E.r0
  have X1 : Hid (Calls Tryd.prog 99 #[errV a2, errV a1] w fun e w' => e = .returned (.bool false) ∧ w' = w) := errIs_no w E.n12.symm E.r2 E.r1
  have X : Hid (Calls Tryd.prog 99 #[errV a2, errV a2] w fun e w' => e = .returned (.bool true) ∧ w' = w) := errIs_same a2 w
  clear E
  go_enter Tryd.func80, Tryd.ntmps80
  go_wp2_with fail
  refine X0.out.mono ?_
  rintro e w' ⟨rfl, hw'⟩
  have hw2 := hw'.symm
  clear hw'
  subst hw2
  go_wp2_with fail
  refine X1.out.mono ?_
  rintro e w' ⟨rfl, hw'⟩
  have hw2 := hw'.symm
  clear hw'
  subst hw2
  go_wp2_with fail
  refine X.out.mono ?_
  rintro e w' ⟨rfl, hw'⟩
  have hw2 := hw'.symm
  clear hw'
  subst hw2
  go_wp2
  go_ret
  exact ⟨rfl, rfl⟩
theorem codeOf_far (E : Errs w a0 a1 a2 a3) : Calls Tryd.prog 80 #[errV a3] w fun e w' => e = .returned (.int .i64 4) ∧ w' = w := by
  have g0 := E.g0
  have g1 := E.g1
  have g2 := E.g2
  have g3 := E.g3
  have X0 : Hid (Calls Tryd.prog 99 #[errV a3, errV a0] w fun e w' => e = .returned (.bool false) ∧ w' = w) := errIs_no w E.n03.symm E.r3 E.r0
  have X1 : Hid (Calls Tryd.prog 99 #[errV a3, errV a1] w fun e w' => e = .returned (.bool false) ∧ w' = w) := errIs_no w E.n13.symm E.r3 E.r1
  have X2 : Hid (Calls Tryd.prog 99 #[errV a3, errV a2] w fun e w' => e = .returned (.bool false) ∧ w' = w) := errIs_no w E.n23.symm E.r3 E.r2
  have X : Hid (Calls Tryd.prog 99 #[errV a3, errV a3] w fun e w' => e = .returned (.bool true) ∧ w' = w) := errIs_same a3 w
  clear E
  go_enter Tryd.func80, Tryd.ntmps80
  go_wp2_with fail
  refine X0.out.mono ?_
  rintro e w' ⟨rfl, hw'⟩
  have hw2 := hw'.symm
  clear hw'
  subst hw2
  go_wp2_with fail
  refine X1.out.mono ?_
  rintro e w' ⟨rfl, hw'⟩
  have hw2 := hw'.symm
  clear hw'
  subst hw2
  go_wp2_with fail
  refine X2.out.mono ?_
  rintro e w' ⟨rfl, hw'⟩
  have hw2 := hw'.symm
  clear hw'
  subst hw2
  go_wp2_with fail
  refine X.out.mono ?_
  rintro e w' ⟨rfl, hw'⟩
  have hw2 := hw'.symm
  clear hw'
  subst hw2
  go_wp2
  go_ret
  exact ⟨rfl, rfl⟩
end
end Go.Proofs.YthnppodnjokaoaaDoor
