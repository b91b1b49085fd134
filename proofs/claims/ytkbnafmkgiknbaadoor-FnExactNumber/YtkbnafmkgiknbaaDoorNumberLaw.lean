/-
  The walk of the exact law of Number over this translation, out of the contracts, and what the row's list of variables gives it. No statement is proved here (the frame is in the text that imports this one).
-/
import Derived.Test.YtkbnafmkgiknbaaDoorNumber
import Derived.Test.YtkbnafmkgiknbaaDoorLaid
import Derived.Stop.LaidErr
namespace Go.Proofs.YtkbnafmkgiknbaaDoor
open Go.RowKit

theorem number_law (s : ByteArray) (w : World) (hm : s.size ≤ 9223372036854775807) (hv : LibVars w) :
    Calls Tryd.prog 4 #[.string s] w fun e w' => e = .returned (.bool true) ∧ Below w.heap.size w w' := by
  by_cases hbig : 1048576 < s.size
  · go_enter Tryd.func4, Tryd.ntmps4
    go_wp2
    go_ret
    exact ⟨rfl, Below.refl _ _⟩
  have hs : s.size ≤ 1048576 := by omega
  have HV : Hid (LibVars w) := hv
  clear hv
  go_enter Tryd.func4, Tryd.ntmps4
  go_wp2_with fail
  refine (specNumber_any s _ hs).mono ?_
  rintro e w1 ⟨n, b, rfl, h1, hl1⟩
  go_wp2_with fail
  refine (implNumber_any s _ hs (HV.out.below hl1)).mono ?_
  rintro e w2 ⟨m, c, rfl, h2, hl2⟩
  obtain ⟨rfl, rfl⟩ := h1.one h2
  have k2 := hl1.trans (hl2.mono hl1.size)
  go_wp2
  go_ret
  exact ⟨rfl, k2⟩

theorem star_err : "*" ++ "errors.errorString" = "*errors.errorString" := by decide
theorem err_row (u : TypeId) (h : Tryd.prog.typeName? 3 u = some "*errors.errorString") : u = 75 :=
  typeName_ptr_named (nm := "errors.errorString") (by rw [star_err]; kernel_rfl) (by kernel_rfl) (by decide) u (by rw [star_err]; exact h)

theorem lib_vars {W : World} (hL : laidMet Tryd.prog Rows.fnExactNumberRow.laid W) : LibVars W := by
  refine ⟨pow_tab (by simp [Rows.fnExactNumberRow]) hL, ?_, ?_⟩
  · obtain ⟨a, s, h, _⟩ := laid_sentinel (tp := 75) (te := 77) (ts := 9) hL.tail.tail.tail.tail gSyn (by kernel_rfl) Tryd.underlying37 err_row Tryd.underlying75 Tryd.underlying77 rfl rfl Tryd.underlying9 (by kernel_rfl) (by kernel_rfl)
    exact ⟨_, _, h⟩
  · obtain ⟨a, s, h, _⟩ := laid_sentinel (tp := 75) (te := 77) (ts := 9) hL.tail.tail.tail gRng (by kernel_rfl) Tryd.underlying37 err_row Tryd.underlying75 Tryd.underlying77 rfl rfl Tryd.underlying9 (by kernel_rfl) (by kernel_rfl)
    exact ⟨_, _, h⟩
end Go.Proofs.YtkbnafmkgiknbaaDoor
