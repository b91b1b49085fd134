/-
  Contracts and plain mathematics, joined: AnyLoop, ErrIs, Errs, Check, MIntS, MIntSS, MIntSSS, MGram, ErrsLaid, CheckLaw. No statement is proved here.
-/
import Derived.Test.YtdniejpblhbjkabDoorG6
import Derived.Test.YtdniejpblhbjkabDoorChecked
import Derived.WalkKit
import Derived.LaidEql
import Derived.Stop.Asserts
import Derived.RowKitTokens
import Derived.Test.YtdniejpblhbjkabDoorG1
import Derived.Stop.LaidErr
import Derived.Test.YtdniejpblhbjkabDoorG2
import Derived.Test.YtdniejpblhbjkabDoorG3
import Derived.Test.YtdniejpblhbjkabDoorRows
import Derived.Stop.LaidTwo
import Derived.Test.YtdniejpblhbjkabDoorG4
namespace Go.Proofs.YtdniejpblhbjkabDoor
open Go.RowKit

theorem any_loop {P : List (List (List Int))} {T : List Bool} (hp : P.length ≤ 20) (hM : (startsL P).length = P.length) (h : ∀ k, k < P.length → numsB (fun c => T.getD (k * 27 + c) false) 27 = (startsL P).getD k []) (k : Nat) (hk : k < P.length) : T.getD (k * 27 + k) false = hasL ((startsL P)[k]'(hM.symm ▸ hk)) (k : Int) := by
  have e : (startsL P).getD k [] = (startsL P)[k]'(hM.symm ▸ hk) := by simp [List.getD, show k < (startsL P).length by omega]
  rw [← e, ← h k hk, Bool.eq_iff_iff]
  constructor
  · intro g; exact hasL_yes (mem_numsB.2 ⟨k, by omega, rfl, g⟩)
  · intro g
    obtain ⟨n, _, e, g⟩ := mem_numsB.1 (of_decide_eq_true g)
    have : k = n := by omega
    subst this; exact g

set_option maxHeartbeats 2000000 in
set_option maxRecDepth 100000 in
theorem anyLoop_any (P : List (List (List Int))) (a0 : Option Addr) (c0 : Nat) (w : World) (h0 : RD w (.slice a0 P.length c0) (slD (Lay.list (Lay.list Lay.int)) P)) (hok : gramOkB P = true) :
    Calls Tryd.prog 29 #[.agg #[.slice a0 P.length c0]] w fun e w' => e = .returned (.bool (loopB (startsL P))) ∧ Below w.heap.size w w' := by
  have F := Fits.of hok
  have hp := F.parts
  have hM : (startsL P).length = P.length := (stT_sets (emptiesL P) F (P.length + 1)).1
  have HM : Hid ((startsL P).length = P.length) := hM
  have HS : Hid (∀ W : World, Below w.heap.size w W → Calls Tryd.prog 39 #[.agg #[.slice a0 P.length c0]] W fun e w' => ∃ T, e = .returned (aggB T) ∧ T.length = 540 ∧ Hid (∀ k, k < P.length → numsB (fun c => T.getD (k * 27 + c) false) 27 = (startsL P).getD k []) ∧ Below W.heap.size W w') := fun W hW => startsOf_any P a0 c0 W (h0.later hW) hok
  have B0 := (Below.refl w.heap.size w).alloc (Nat.le_refl _) (.cells #[.slice a0 P.length c0] 27)
  clear h0 hok F hM
  go_enter Tryd.func29, Tryd.ntmps29
  go_wp2_with fail
  refine (HS.out _ B0).mono ?_
  rintro e w1 ⟨T, rfl, hTl, HI, hb1⟩
  have g0 : w1.cell? ⟨w.heap.size, 0, none⟩ = some (.slice a0 P.length c0) := (hb1.cell (p := ⟨w.heap.size, 0, none⟩) (by simp)).trans (by simp)
  have B1 := B0.trans (hb1.mono B0.size)
  have HL : Hid (∀ (k : Nat) (hk : k < P.length), T.getD (k * 27 + k) false = hasL ((startsL P)[k]'(HM.out.symm ▸ hk)) (k : Int)) := fun k hk => any_loop hp HM.out HI.out k hk
  have HYes : Hid (∀ (k : Nat) (hk : k < P.length), T.getD (k * 27 + k) false = true → loopB (startsL P) = true) := fun k hk g => loopB_yes (HM.out.symm ▸ hk) (by rw [← HL.out k hk]; exact g)
  have HNo : Hid ((∀ k, k < P.length → T.getD (k * 27 + k) false = false) → loopB (startsL P) = false) := fun g => loopB_no (fun k hk => by rw [← HL.out k (HM.out ▸ hk)]; exact g k (HM.out ▸ hk))
  have hwl : w.heap.size < w1.heap.size := World.block_lt_of_cell? w1 _ g0
  clear HS B0 hb1 HI HL HM
  go_wp2_with (first | (refine wpList_allocB (w := w1) rfl 64 rfl 540 bt_table ?_; intro w3 hB3 hb3 hs3) | (refine wpList_storeB (w := w3) rfl 64 _ _ rfl w1.heap.size 0 64 _ T rfl rfl (at540S hTl) hB3 (by rw [List.length_replicate, hTl]; decide) ?_; intro w4 hB4 hg4; rw [putB_whole (by rw [List.length_replicate]; exact hTl)] at hB4; have g4 : w4.cell? ⟨w.heap.size, 0, none⟩ = some (.slice a0 P.length c0) := (World.cell?_of_block (w := w3) (a := ⟨w.heap.size, 0, none⟩) (hg4.block w.heap.size (by omega) (some_ne (by omega)))).trans ((hb3.cell (p := ⟨w.heap.size, 0, none⟩) (by simp; omega)).trans g0)))
  have B4 : Below w.heap.size w w4 := (B1.trans (hb3.mono B1.size)).grown hg4 (by have := B1.size; omega) (fun j hj => by cases hj; exact B1.size)
  clear hB3 hb3 hs3 hg4 g0 B1
  generalize w1.heap.size = n1 at *
  go_loop [10] (fun s => ∃ k : Nat, k ≤ P.length ∧ s = .int .i64 k ∧ Hid (∀ j, j < k → T.getD (j * 27 + j) false = false)) (fun s => P.length - (intOf s).toNat)
  case atStart => exact ⟨0, Nat.zero_le _, rfl, fun j hj => by omega⟩
  case round =>
    obtain ⟨k, hk, rfl, HK⟩ := hrel
    by_cases hlt : k < P.length
    · have hk0 : (0 : Int) ≤ (k : Int) := by omega
      have hk1 : (k : Int) < 20 := by omega
      have hk2 : (k : Int) < 27 := by omega
      have q := hB4.cell (n := k * 27 + k) (by omega)
      have HY2 : Hid (T.getD (k * 27 + k) false = true → loopB (startsL P) = true) := HYes.out k hlt
      by_cases hup : T.getD (k * 27 + k) false = true
      · rw [hup] at q
        have HF : Hid (loopB (startsL P) = true) := HY2.out hup
        clear HY2 hup HYes HNo HK
        go_wp2
        go_ret
        exact ⟨ret_bool (by rw [HF.out]), B4⟩
      · have hdn : T.getD (k * 27 + k) false = false := by simpa using hup
        rw [hdn] at q
        have HK2 : Hid (∀ j, j < k + 1 → T.getD (j * 27 + j) false = false) := fun j hj => by
          by_cases e : j = k
          · rw [e]; exact hdn
          · exact HK.out j (by omega)
        clear HY2 hup hdn HYes HNo HK
        go_wp2
        go_round
        case rel => exact ⟨k + 1, by omega, by go_num, HK2⟩
        case measure => simp [intOf]; omega
    · have e : k = P.length := by omega
      subst e
      have HF : Hid (loopB (startsL P) = false) := HNo.out HK.out
      clear HYes HNo HK
      go_wp2
      go_ret
      exact ⟨ret_bool (by rw [HF.out]), B4⟩
end Go.Proofs.YtdniejpblhbjkabDoor
namespace Go.Proofs.YtdniejpblhbjkabDoor
open Go.RowKit Go.Extern.Stop Go.Stop Go.Extern

theorem is_typeOf (v : Value) (w : World) : (Extern.ReflectliteType.typeOf #[.iface 88 v]).run Tryd.prog w = .ok (.iface 71 (.agg #[.pointer (some ⟨4, 88, none⟩)])) w := by kernel_rfl
theorem is_comparable (w : World) : ((Extern.ReflectliteType.method fun t => do Extern.Rtype.noPackHeld "Comparable" t; pure (.bool (← typeInfo t).comparable)) #[.agg #[.pointer (some ⟨4, 88, none⟩)]]).run Tryd.prog w = .ok (.bool true) w := by kernel_rfl
theorem is_called (w : World) : (callFunc 70 #[.agg #[.pointer (some ⟨4, 88, none⟩)]]).run Tryd.prog w = .ok (.value (.bool true)) w := by
  have h32 := @run_callFunc_extern Tryd.prog 70 _ (Extern.ReflectliteType.method fun t => do Extern.Rtype.noPackHeld "Comparable" t; pure (.bool (← typeInfo t).comparable)) Tryd.func70 (by kernel_rfl) (by kernel_rfl) (by kernel_rfl) (by kernel_rfl)
  rw [h32, is_comparable, Result.andThen_ok]
theorem is_method (v : Value) (w : World) : (Go.method 226 71 v "Comparable").run Tryd.prog w = .ok (70, v) w := by kernel_rfl
theorem is_comp : (Tryd.prog.info? 88).map (·.comparable) = some true := by kernel_rfl
theorem is_size : (Tryd.prog.info? 114).map (·.size) = some 1 := by kernel_rfl
theorem no_Is (v : Value) (xT : TypeId) (w : World) : (Instr.typeAssert (.iface 88 v) xT 73 true).run Tryd.prog w = .ok (.tuple #[.nilIface, .bool false]) w := run_typeAssert_lacksB Tryd.underlying73 (by kernel_rfl) (by kernel_rfl) v xT w
theorem no_Unwrap (v : Value) (xT : TypeId) (w : World) : (Instr.typeAssert (.iface 88 v) xT 76 true).run Tryd.prog w = .ok (.tuple #[.nilIface, .bool false]) w := run_typeAssert_lacksB Tryd.underlying76 (by kernel_rfl) (by kernel_rfl) v xT w
theorem no_Unwraps (v : Value) (xT : TypeId) (w : World) : (Instr.typeAssert (.iface 88 v) xT 78 true).run Tryd.prog w = .ok (.tuple #[.nilIface, .bool false]) w := run_typeAssert_lacksB Tryd.underlying78 (by kernel_rfl) (by kernel_rfl) v xT w

set_option maxRecDepth 100000 in
theorem errIs_same (a : Addr) (w : World) :
    Calls Tryd.prog 26 #[.iface 88 (.pointer (some a)), .iface 88 (.pointer (some a))] w fun e w' => e = .returned (.bool true) ∧ w' = w := by
  obtain ⟨i, hi, hcmp⟩ := Option.map_eq_some_iff.1 is_comp
  obtain ⟨j, hj, hjs⟩ := Option.map_eq_some_iff.1 is_size
  have h8 := @run_callFunc_extern Tryd.prog 36 _ Extern.ReflectliteType.typeOf Tryd.func36 (by kernel_rfl) (by kernel_rfl) (by kernel_rfl) (by kernel_rfl)
  have hC := is_called
  have tT := is_typeOf
  have mR := is_method
  have heq := run_eql_iface_ptr_same (P := Tryd.prog) w a Tryd.underlying41 Tryd.underlying88 hi hcmp hj
  go_enter Tryd.func26, Tryd.ntmps26
  go_wp2
  refine wp_loop_rounds 1 ?_
  rw [rounds_succ]
  go_wp2
  go_ret
  exact ⟨rfl, rfl⟩
set_option maxRecDepth 100000 in
theorem errIs_nil (b : Addr) (w : World) :
    Calls Tryd.prog 26 #[.nilIface, .iface 88 (.pointer (some b))] w fun e w' => e = .returned (.bool false) ∧ w' = w := by
  have hn := run_eql_iface_nil_left (P := Tryd.prog) w 88 (.pointer (some b)) Tryd.underlying41
  go_enter Tryd.func26, Tryd.ntmps26
  go_wp2
  go_ret
  exact ⟨rfl, rfl⟩
set_option maxRecDepth 100000 in
theorem errIs_other (a b : Addr) (ca cb : Array Value) (ta tb : TypeId) (w : World) (hne : a ≠ b) (ha : w.heap[a.block]? = some (.cells ca ta (0, 0))) (hb : w.heap[b.block]? = some (.cells cb tb (0, 0))) :
    Calls Tryd.prog 26 #[.iface 88 (.pointer (some a)), .iface 88 (.pointer (some b))] w fun e w' => e = .returned (.bool false) ∧ w' = w := by
  obtain ⟨i, hi, hcmp⟩ := Option.map_eq_some_iff.1 is_comp
  obtain ⟨j, hj, hjs⟩ := Option.map_eq_some_iff.1 is_size
  have h8 := @run_callFunc_extern Tryd.prog 36 _ Extern.ReflectliteType.typeOf Tryd.func36 (by kernel_rfl) (by kernel_rfl) (by kernel_rfl) (by kernel_rfl)
  have hC := is_called
  have tT := is_typeOf
  have mR := is_method
  have nE := no_Is
  have uE := no_Unwrap
  have vE := no_Unwraps
  have heq := run_eql_iface_ptr_other (P := Tryd.prog) w Tryd.underlying41 Tryd.underlying88 hi hcmp hj (by rw [hjs]; decide) hne ha hb
  go_enter Tryd.func26, Tryd.ntmps26
  go_wp2
  refine wp_loop_rounds 1 ?_
  rw [rounds_succ]
  go_wp2
  go_ret
  exact ⟨rfl, rfl⟩
end Go.Proofs.YtdniejpblhbjkabDoor
namespace Go.Proofs.YtdniejpblhbjkabDoor
open Go.RowKit

abbrev errV (a : Addr) : Value := .iface 88 (.pointer (some a))
/-- The four variables hold four errors of errors.New's make. -/
structure Errs (w : World) (a0 a1 a2 a3 : Addr) : Prop where
  g0 : w.cell? ⟨0, 0, none⟩ = some (errV a0)
  g1 : w.cell? ⟨1, 0, none⟩ = some (errV a1)
  g2 : w.cell? ⟨2, 0, none⟩ = some (errV a2)
  g3 : w.cell? ⟨3, 0, none⟩ = some (errV a3)
  r0 : ∃ c t, w.heap[a0.block]? = some (.cells c t (0, 0))
  r1 : ∃ c t, w.heap[a1.block]? = some (.cells c t (0, 0))
  r2 : ∃ c t, w.heap[a2.block]? = some (.cells c t (0, 0))
  r3 : ∃ c t, w.heap[a3.block]? = some (.cells c t (0, 0))
  n01 : a0 ≠ a1
  n02 : a0 ≠ a2
  n03 : a0 ≠ a3
  n12 : a1 ≠ a2
  n13 : a1 ≠ a3
  n23 : a2 ≠ a3
theorem row_later {w w' : World} {a : Addr} (h : ∃ c t, w.heap[a.block]? = some (.cells c t (0, 0))) (hb : Below w.heap.size w w') : ∃ c t, w'.heap[a.block]? = some (.cells c t (0, 0)) := by
  obtain ⟨c, t, h⟩ := h
  exact ⟨c, t, by rw [hb.block _ (Array.getElem?_eq_some_iff.1 h).1]; exact h⟩
theorem Errs.later {w w' : World} {a0 a1 a2 a3 : Addr} (h : Errs w a0 a1 a2 a3) (hb : Below w.heap.size w w') : Errs w' a0 a1 a2 a3 :=
  ⟨(hb.cell (World.block_lt_of_cell? w _ h.g0)).trans h.g0, (hb.cell (World.block_lt_of_cell? w _ h.g1)).trans h.g1, (hb.cell (World.block_lt_of_cell? w _ h.g2)).trans h.g2, (hb.cell (World.block_lt_of_cell? w _ h.g3)).trans h.g3,
   row_later h.r0 hb, row_later h.r1 hb, row_later h.r2 hb, row_later h.r3 hb, h.n01, h.n02, h.n03, h.n12, h.n13, h.n23⟩
theorem errIs_no {a b : Addr} (w : World) (hne : a ≠ b) (ha : ∃ c t, w.heap[a.block]? = some (.cells c t (0, 0))) (hb : ∃ c t, w.heap[b.block]? = some (.cells c t (0, 0))) :
    Calls Tryd.prog 26 #[errV a, errV b] w fun e w' => e = .returned (.bool false) ∧ w' = w := by
  obtain ⟨ca, ta, ha⟩ := ha
  obtain ⟨cb, tb, hb⟩ := hb
  exact errIs_other a b ca cb ta tb w hne ha hb

section
variable {w : World} {a0 a1 a2 a3 : Addr}
theorem codeOf_nil (E : Errs w a0 a1 a2 a3) : Calls Tryd.prog 16 #[.nilIface] w fun e w' => e = .returned (.int .i64 0) ∧ w' = w := by
  have g0 := E.g0
  have g1 := E.g1
  have g2 := E.g2
  have g3 := E.g3
  have X : Hid (∀ b, Calls Tryd.prog 26 #[.nilIface, errV b] w fun e w' => e = .returned (.bool false) ∧ w' = w) := fun b => errIs_nil b w
  clear E
  go_enter Tryd.func16, Tryd.ntmps16
  go_wp2_with (go_at_call 26; refine (X.out _).mono ?_; rintro e w' ⟨rfl, hw'⟩; have hw2 := hw'.symm; clear hw'; subst hw2)
  go_ret
  exact ⟨rfl, rfl⟩
theorem codeOf_bad (E : Errs w a0 a1 a2 a3) : Calls Tryd.prog 16 #[errV a0] w fun e w' => e = .returned (.int .i64 1) ∧ w' = w := by
  have g0 := E.g0
  have X : Hid (Calls Tryd.prog 26 #[errV a0, errV a0] w fun e w' => e = .returned (.bool true) ∧ w' = w) := errIs_same a0 w
  clear E
  go_enter Tryd.func16, Tryd.ntmps16
  go_wp2_with (go_at_call 26; refine X.out.mono ?_; rintro e w' ⟨rfl, hw'⟩; have hw2 := hw'.symm; clear hw'; subst hw2)
  go_ret
  exact ⟨rfl, rfl⟩
theorem codeOf_loop (E : Errs w a0 a1 a2 a3) : Calls Tryd.prog 16 #[errV a1] w fun e w' => e = .returned (.int .i64 2) ∧ w' = w := by
  have g0 := E.g0
  have g1 := E.g1
  have X0 : Hid (Calls Tryd.prog 26 #[errV a1, errV a0] w fun e w' => e = .returned (.bool false) ∧ w' = w) := errIs_no w E.n01.symm E.r1 E.r0
  have X : Hid (Calls Tryd.prog 26 #[errV a1, errV a1] w fun e w' => e = .returned (.bool true) ∧ w' = w) := errIs_same a1 w
  clear E
  go_enter Tryd.func16, Tryd.ntmps16
  go_wp2_with fail
  refine X0.out.mono ?_
  rintro e w' ⟨rfl, hw'⟩
  have hw2 := hw'.symm
  clear hw'
  subst hw2
  go_wp2_with fail
  refine X.out.mono ?_
  rintro e w' ⟨rfl, hw'⟩
  have hw2 := hw'.symm
  clear hw'
  subst hw2
  go_wp2
  go_ret
  exact ⟨rfl, rfl⟩
theorem codeOf_dead (E : Errs w a0 a1 a2 a3) : Calls Tryd.prog 16 #[errV a2] w fun e w' => e = .returned (.int .i64 3) ∧ w' = w := by
  have g0 := E.g0
  have g1 := E.g1
  have g2 := E.g2
  have X0 : Hid (Calls Tryd.prog 26 #[errV a2, errV a0] w fun e w' => e = .returned (.bool false) ∧ w' = w) := errIs_no w E.n02.symm E.r2 E.r0
  have X1 : Hid (Calls Tryd.prog 26 #[errV a2, errV a1] w fun e w' => e = .returned (.bool false) ∧ w' = w) := errIs_no w E.n12.symm E.r2 E.r1
  have X : Hid (Calls Tryd.prog 26 #[errV a2, errV a2] w fun e w' => e = .returned (.bool true) ∧ w' = w) := errIs_same a2 w
  clear E
  go_enter Tryd.func16, Tryd.ntmps16
  go_wp2_with fail
  refine X0.out.mono ?_
  rintro e w' ⟨rfl, hw'⟩
  have hw2 := hw'.symm
  clear hw'
  subst hw2
  go_wp2_with fail
  refine X1.out.mono ?_
  rintro e w' ⟨rfl, hw'⟩
  have hw2 := hw'.symm
  clear hw'
  subst hw2
  go_wp2_with fail
  refine X.out.mono ?_
  rintro e w' ⟨rfl, hw'⟩
  have hw2 := hw'.symm
  clear hw'
  subst hw2
  go_wp2
  go_ret
  exact ⟨rfl, rfl⟩
theorem codeOf_far (E : Errs w a0 a1 a2 a3) : Calls Tryd.prog 16 #[errV a3] w fun e w' => e = .returned (.int .i64 4) ∧ w' = w := by
  have g0 := E.g0
  have g1 := E.g1
  have g2 := E.g2
  have g3 := E.g3
  have X0 : Hid (Calls Tryd.prog 26 #[errV a3, errV a0] w fun e w' => e = .returned (.bool false) ∧ w' = w) := errIs_no w E.n03.symm E.r3 E.r0
  have X1 : Hid (Calls Tryd.prog 26 #[errV a3, errV a1] w fun e w' => e = .returned (.bool false) ∧ w' = w) := errIs_no w E.n13.symm E.r3 E.r1
  have X2 : Hid (Calls Tryd.prog 26 #[errV a3, errV a2] w fun e w' => e = .returned (.bool false) ∧ w' = w) := errIs_no w E.n23.symm E.r3 E.r2
  have X : Hid (Calls Tryd.prog 26 #[errV a3, errV a3] w fun e w' => e = .returned (.bool true) ∧ w' = w) := errIs_same a3 w
  clear E
  go_enter Tryd.func16, Tryd.ntmps16
  go_wp2_with fail
  refine X0.out.mono ?_
  rintro e w' ⟨rfl, hw'⟩
  have hw2 := hw'.symm
  clear hw'
  subst hw2
  go_wp2_with fail
  refine X1.out.mono ?_
  rintro e w' ⟨rfl, hw'⟩
  have hw2 := hw'.symm
  clear hw'
  subst hw2
  go_wp2_with fail
  refine X2.out.mono ?_
  rintro e w' ⟨rfl, hw'⟩
  have hw2 := hw'.symm
  clear hw'
  subst hw2
  go_wp2_with fail
  refine X.out.mono ?_
  rintro e w' ⟨rfl, hw'⟩
  have hw2 := hw'.symm
  clear hw'
  subst hw2
  go_wp2
  go_ret
  exact ⟨rfl, rfl⟩
end
end Go.Proofs.YtdniejpblhbjkabDoor
namespace Go.Proofs.YtdniejpblhbjkabDoor
open Go.RowKit

section
variable {P : Program}
theorem exec_neqB {ρ : Operand → Value} {o : Oper} {w : World} {ty rt : TypeId} {x y : Operand} {us bs : List Bool} (ho : o.op = .binOp .neq ty x y rt) (hx : ρ x = aggB us) (hy : ρ y = aggB bs) (hg : P.eqGuardType P.depth ty = false) (he : (Op.equalIn 10000 ty (aggB us) (aggB bs)).run P w = .ok (decide (us = bs)) w) :
    (execOp ρ o).run P w = .ok (.value (.bool (!decide (us = bs)))) w := by
  unfold execOp
  unfold aggB at *
  simp only [ho, hx, hy, Sem.run_bind, run_eqGuard_agg w _ _ _ _ _ _ hg, Result.andThen_ok, run_neq_struct, he, Sem.run_pure]
end

/-- What is refused. -/
def refV (a0 a1 a2 a3 : Addr) (P : List (List (List Int))) : Value :=
  if gramOkB P then (if loopB (startsL P) then errV a1 else if decide (flagsOf (aliveL P) = parB P.length) then (if decide (flagsOf (reachL P) = parB P.length) then .nilIface else errV a3) else errV a2) else errV a0

set_option maxHeartbeats 4000000 in
set_option maxRecDepth 100000 in
theorem refusalOf_any (x : Gm) (a0 : Option Addr) (c0 : Nat) (e0 e1 e2 e3 : Addr) (w : World) (h0 : RD w (.slice a0 x.parts.length c0) (slD (Lay.list (Lay.list Lay.int)) x.parts)) (hn : Lay.gram.wt x ≤ 1048576) (hf : Lay.gram.fit x) (hE : Errs w e0 e1 e2 e3) :
    Calls Tryd.prog 17 #[.agg #[.slice a0 x.parts.length c0]] w fun e w' => e = .returned (refV e0 e1 e2 e3 x.parts) ∧ Below w.heap.size w w' := by
  have B0 := (Below.refl w.heap.size w).alloc (Nat.le_refl _) (.cells #[.slice a0 x.parts.length c0] 27)
  have HOK : Hid (∀ W : World, Below w.heap.size w W → Calls Tryd.prog 27 #[.agg #[.slice a0 x.parts.length c0]] W fun e w' => e = .returned (.bool (gramOkB x.parts)) ∧ Below W.heap.size W w') := fun W hW => gramOk_any x a0 c0 W (h0.later hW) hn hf
  have HPI : Hid (gramOkB x.parts = true → ∀ W : World, Calls Tryd.prog 28 #[.agg #[.slice a0 x.parts.length c0]] W fun e w' => e = .returned (aggB (parB x.parts.length)) ∧ Below W.heap.size W w') := fun hk W => partsIn_any x.parts.length a0 c0 W (Fits.of hk).parts
  have HAL : Hid (gramOkB x.parts = true → ∀ W : World, Below w.heap.size w W → Calls Tryd.prog 29 #[.agg #[.slice a0 x.parts.length c0]] W fun e w' => e = .returned (.bool (loopB (startsL x.parts))) ∧ Below W.heap.size W w') := fun hk W hW => anyLoop_any x.parts a0 c0 W (h0.later hW) hk
  have HPR : Hid (gramOkB x.parts = true → ∀ W : World, Below w.heap.size w W → Calls Tryd.prog 30 #[.agg #[.slice a0 x.parts.length c0]] W fun e w' => e = .returned (aggB (flagsOf (aliveL x.parts))) ∧ Below W.heap.size W w') := fun hk W hW => productiveOf_any x.parts a0 c0 W (h0.later hW) hk
  have HRE : Hid (gramOkB x.parts = true → ∀ W : World, Below w.heap.size w W → Calls Tryd.prog 31 #[.agg #[.slice a0 x.parts.length c0]] W fun e w' => e = .returned (aggB (flagsOf (reachL x.parts))) ∧ Below W.heap.size W w') := fun hk W hW => reachableOf_any x.parts a0 c0 W (h0.later hW) hk
  have HEE : Hid (∀ W : World, Below w.heap.size w W → Errs W e0 e1 e2 e3) := fun W hW => hE.later hW
  have hPl := parB_length x.parts.length
  have hAl := flagsOf_length (aliveL x.parts)
  have hRl := flagsOf_length (reachL x.parts)
  obtain ⟨rv, HRV⟩ : ∃ rv, Hid (refV e0 e1 e2 e3 x.parts = rv) := ⟨_, rfl⟩
  have HR2 : Hid (refV e0 e1 e2 e3 x.parts = if gramOkB x.parts then (if loopB (startsL x.parts) then errV e1 else if decide (flagsOf (aliveL x.parts) = parB x.parts.length) then (if decide (flagsOf (reachL x.parts) = parB x.parts.length) then .nilIface else errV e3) else errV e2) else errV e0) := rfl
  rw [HRV.out] at HR2 ⊢
  clear HRV
  clear h0 hn hf hE
  generalize loopB (startsL x.parts) = lp at *
  generalize flagsOf (aliveL x.parts) = TA at *
  generalize flagsOf (reachL x.parts) = TR at *
  generalize gramOkB x.parts = ok at *
  generalize x.parts = P at *
  cases ok
  · have HF : Hid (rv = errV e0) := HR2.out
    clear HPI HAL HPR HRE HR2
    go_enter Tryd.func17, Tryd.ntmps17
    go_wp2_with fail
    refine (HOK.out _ B0).mono ?_
    rintro e w1 ⟨rfl, hb1⟩
    have B1 := B0.trans (hb1.mono B0.size)
    have q := (HEE.out w1 B1).g0
    clear HOK HEE B0 hb1
    go_wp2
    go_ret
    exact ⟨by rw [HF.out]; rfl, B1⟩
  · have HF : Hid (rv = if lp then errV e1 else if decide (TA = parB P.length) then (if decide (TR = parB P.length) then .nilIface else errV e3) else errV e2) := HR2.out
    have HPI2 : Hid (∀ W : World, Calls Tryd.prog 28 #[.agg #[.slice a0 P.length c0]] W fun e w' => e = .returned (aggB (parB P.length)) ∧ Below W.heap.size W w') := HPI.out rfl
    have HAL2 : Hid (∀ W : World, Below w.heap.size w W → Calls Tryd.prog 29 #[.agg #[.slice a0 P.length c0]] W fun e w' => e = .returned (.bool lp) ∧ Below W.heap.size W w') := HAL.out rfl
    have HPR2 : Hid (∀ W : World, Below w.heap.size w W → Calls Tryd.prog 30 #[.agg #[.slice a0 P.length c0]] W fun e w' => e = .returned (aggB TA) ∧ Below W.heap.size W w') := HPR.out rfl
    have HRE2 : Hid (∀ W : World, Below w.heap.size w W → Calls Tryd.prog 31 #[.agg #[.slice a0 P.length c0]] W fun e w' => e = .returned (aggB TR) ∧ Below W.heap.size W w') := HRE.out rfl
    clear HPI HAL HPR HRE HR2
    obtain ⟨PB, HPB⟩ : ∃ PB, Hid (parB P.length = PB) := ⟨_, rfl⟩
    rw [HPB.out] at HF HPI2 hPl
    clear HPB
    go_enter Tryd.func17, Tryd.ntmps17
    go_wp2_with fail
    refine (HOK.out _ B0).mono ?_
    rintro e w1 ⟨rfl, hb1⟩
    have g1 : w1.cell? ⟨w.heap.size, 0, none⟩ = some (.slice a0 P.length c0) := (hb1.cell (p := ⟨w.heap.size, 0, none⟩) (by simp)).trans (by simp)
    have b1 := B0.trans (hb1.mono B0.size)
    clear HOK B0 hb1
    go_wp2_with fail
    refine (HPI2.out _).mono ?_
    rintro e w2 ⟨rfl, hb2⟩
    have hl1 : w.heap.size < w1.heap.size := World.block_lt_of_cell? _ _ g1
    have g2 := (hb2.cell (p := ⟨w.heap.size, 0, none⟩) hl1).trans g1
    have b2 := b1.trans (hb2.mono b1.size)
    have hl2 : w.heap.size < w2.heap.size := World.block_lt_of_cell? _ _ g2
    clear HPI2 hb2 g1 b1 hl1
    go_wp2_with (first | (refine wpList_allocB (w := w2) rfl 52 rfl 27 bt_flags ?_; intro w3 hB3 hb3 hs3) | (refine wpList_storeB (w := w3) rfl 52 _ _ rfl w2.heap.size 0 52 _ PB rfl rfl (at27 hPl) hB3 (by rw [List.length_replicate, hPl]; decide) ?_; intro w4 hB4 hg4; rw [putB_whole (by rw [List.length_replicate]; exact hPl)] at hB4; have g4 : w4.cell? ⟨w.heap.size, 0, none⟩ = some (.slice a0 P.length c0) := (World.cell?_of_block (w := w3) (a := ⟨w.heap.size, 0, none⟩) (hg4.block w.heap.size (by omega) (some_ne (by omega)))).trans ((hb3.cell (p := ⟨w.heap.size, 0, none⟩) hl2).trans g2)))
    have b4 : Below w.heap.size w w4 := (b2.trans (hb3.mono b2.size)).grown hg4 (by have := b2.size; omega) (fun j hj => by cases hj; exact b2.size)
    clear hB3 hb3 hs3 hg4 g2 b2
    have hl4 : w.heap.size < w4.heap.size := World.block_lt_of_cell? _ _ g4
    generalize w2.heap.size = nA at *
    refine (HAL2.out _ b4).mono ?_
    rintro e w5 ⟨rfl, hb5⟩
    have b5 := b4.trans (hb5.mono b4.size)
    have g5 := (hb5.cell (p := ⟨w.heap.size, 0, none⟩) hl4).trans g4
    have hB5 := hB4.later hb5
    have hl5 : w.heap.size < w5.heap.size := World.block_lt_of_cell? _ _ g5
    clear HAL2 hb5 g4 b4 hB4 hl4 hl2
    cases lp
    · have HF2 : Hid (rv = if decide (TA = PB) then (if decide (TR = PB) then .nilIface else errV e3) else errV e2) := HF.out
      clear HF
      go_wp2_with fail
      refine wp_region_held_drew (S := fun X => X.cell? ⟨w.heap.size, 0, none⟩ = some (.slice a0 P.length c0) ∧ Bits X nA 52 PB) (by kernel_rfl) ⟨by rw [World.cell?_drew]; exact g5, hB5.later (Below.drew (Below.refl _ _))⟩ (fun hHeld => ?_)
      refine take_atL (i := 0) (d := some 15) (v := .agg #[.slice a0 P.length c0]) rfl rfl (by kernel_rfl) (by kernel_rfl) (by kernel_rfl) (fun _ _ _ h => h) (by rfl) ?_ hHeld ?_
      · intro w' hSw; obtain ⟨s0, _⟩ := hSw; go_simp; try rfl
      try simp only [Act.put, List.setIfInBounds_toArray, List.set_cons_zero, List.set_cons_succ]
      refine take_atL (i := 2) (d := some 17) (v := aggB PB) rfl rfl (by kernel_rfl) (by kernel_rfl) (by kernel_rfl) (fun _ _ _ h => h) (by rfl) ?_ hHeld ?_
      · intro w' hSw; exact exec_loadW (t := 52) (b := nA) rfl rfl (at27 hPl) hSw.2
      try simp only [Act.put, List.setIfInBounds_toArray, List.set_cons_zero, List.set_cons_succ]
      refine wpAnyH_ready (rs := [1]) (by kernel_rfl) (by simp) ?_
      refine AllReadyH.cons (o := _) rfl (fun K hK => ?_) AllReadyH.nil
      rw [if_pos (by rfl)]
      go_simp
      refine (HPR2.out _ (Below.drew b5)).mono ?_
      rintro e w6 ⟨rfl, hb6⟩
      have b6 : Below w.heap.size w w6 := (Below.drew b5).trans (hb6.mono (Below.drew b5).size)
      have k6 : Below w5.heap.size w5 w6 := Below.drewed (by simpa using hb6)
      have g6 := (k6.cell (p := ⟨w.heap.size, 0, none⟩) hl5).trans g5
      have hB6 := hB5.later k6
      have hl6 : w.heap.size < w6.heap.size := World.block_lt_of_cell? _ _ g6
      go_wp2_with fail
      refine hK.out _ _ ⟨g6, hB6⟩ (fun hHeld => ?_)
      clear hK K
      try simp only [Act.put, List.setIfInBounds_toArray, List.set_cons_zero, List.set_cons_succ]
      refine take_atL (i := 3) (d := some 18) (v := .bool (!decide (TA = PB))) rfl rfl (by kernel_rfl) (by kernel_rfl) (by kernel_rfl) (fun _ _ _ h => h) (by rfl) ?_ hHeld ?_
      · intro w' hSw; exact exec_neqB rfl rfl rfl guard_flags (eq_flags27 hAl hPl)
      try simp only [Act.put, List.setIfInBounds_toArray, List.set_cons_zero, List.set_cons_succ]
      refine take_atL (i := 4) (d := some 14) (v := .bool (!decide (TA = PB))) rfl rfl (by kernel_rfl) (by kernel_rfl) (by kernel_rfl) (fun _ _ _ h => h) (by rfl) ?_ hHeld ?_
      · intro w' hSw; go_simp; try rfl
      try simp only [Act.put, List.setIfInBounds_toArray, List.set_cons_zero, List.set_cons_succ]
      refine wpAnyH_done (by kernel_rfl) ?_ _
      clear hHeld
      by_cases hA : TA = PB
      · have dA : decide (TA = PB) = true := decide_eq_true hA
        have HF3 : Hid (rv = if decide (TR = PB) then .nilIface else errV e3) := by show _ = _; rw [HF2.out, if_pos dA]
        rw [dA]
        clear HF2 dA hA
        go_wp2_with fail
        refine wp_region_held_drew (S := fun X => X.cell? ⟨w.heap.size, 0, none⟩ = some (.slice a0 P.length c0) ∧ Bits X nA 52 PB) (by kernel_rfl) ⟨by rw [World.cell?_drew]; exact g6, hB6.later (Below.drew (Below.refl _ _))⟩ (fun hHeld => ?_)
        refine take_atL (i := 0) (d := some 21) (v := .agg #[.slice a0 P.length c0]) rfl rfl (by kernel_rfl) (by kernel_rfl) (by kernel_rfl) (fun _ _ _ h => h) (by rfl) ?_ hHeld ?_
        · intro w' hSw; obtain ⟨s0, _⟩ := hSw; go_simp; try rfl
        try simp only [Act.put, List.setIfInBounds_toArray, List.set_cons_zero, List.set_cons_succ]
        refine take_atL (i := 2) (d := some 23) (v := aggB PB) rfl rfl (by kernel_rfl) (by kernel_rfl) (by kernel_rfl) (fun _ _ _ h => h) (by rfl) ?_ hHeld ?_
        · intro w' hSw; exact exec_loadW (t := 52) (b := nA) rfl rfl (at27 hPl) hSw.2
        try simp only [Act.put, List.setIfInBounds_toArray, List.set_cons_zero, List.set_cons_succ]
        refine wpAnyH_ready (rs := [1]) (by kernel_rfl) (by simp) ?_
        refine AllReadyH.cons (o := _) rfl (fun K hK => ?_) AllReadyH.nil
        rw [if_pos (by rfl)]
        go_simp
        refine (HRE2.out _ (Below.drew b6)).mono ?_
        rintro e w7 ⟨rfl, hb7⟩
        have b7 : Below w.heap.size w w7 := (Below.drew b6).trans (hb7.mono (Below.drew b6).size)
        have k7 : Below w6.heap.size w6 w7 := Below.drewed (by simpa using hb7)
        have g7 := (k7.cell (p := ⟨w.heap.size, 0, none⟩) hl6).trans g6
        have hB7 := hB6.later k7
        have hl7 : w.heap.size < w7.heap.size := World.block_lt_of_cell? _ _ g7
        go_wp2_with fail
        refine hK.out _ _ ⟨g7, hB7⟩ (fun hHeld => ?_)
        clear hK K
        try simp only [Act.put, List.setIfInBounds_toArray, List.set_cons_zero, List.set_cons_succ]
        refine take_atL (i := 3) (d := some 24) (v := .bool (!decide (TR = PB))) rfl rfl (by kernel_rfl) (by kernel_rfl) (by kernel_rfl) (fun _ _ _ h => h) (by rfl) ?_ hHeld ?_
        · intro w' hSw; exact exec_neqB rfl rfl rfl guard_flags (eq_flags27 hRl hPl)
        try simp only [Act.put, List.setIfInBounds_toArray, List.set_cons_zero, List.set_cons_succ]
        refine take_atL (i := 4) (d := some 20) (v := .bool (!decide (TR = PB))) rfl rfl (by kernel_rfl) (by kernel_rfl) (by kernel_rfl) (fun _ _ _ h => h) (by rfl) ?_ hHeld ?_
        · intro w' hSw; go_simp; try rfl
        try simp only [Act.put, List.setIfInBounds_toArray, List.set_cons_zero, List.set_cons_succ]
        refine wpAnyH_done (by kernel_rfl) ?_ _
        clear hHeld
        by_cases hR : TR = PB
        · have dR : decide (TR = PB) = true := decide_eq_true hR
          have HF4 : Hid (rv = .nilIface) := by show _ = _; rw [HF3.out, if_pos dR]
          rw [dR]
          clear HF3 dR hR
          go_wp2
          go_ret
          exact ⟨by rw [HF4.out]; rfl, b7⟩
        · have dR : decide (TR = PB) = false := decide_eq_false hR
          have HF4 : Hid (rv = errV e3) := by show _ = _; rw [HF3.out, if_neg (by rw [dR]; simp)]
          rw [dR]
          have q := (HEE.out w7 b7).g3
          clear HF3 dR hR HEE
          go_wp2
          go_ret
          exact ⟨by rw [HF4.out]; rfl, b7⟩
      · have dA : decide (TA = PB) = false := decide_eq_false hA
        have HF3 : Hid (rv = errV e2) := by show _ = _; rw [HF2.out, if_neg (by rw [dA]; simp)]
        rw [dA]
        have q := (HEE.out w6 b6).g2
        clear HF2 dA hA HEE
        go_wp2
        go_ret
        exact ⟨by rw [HF3.out]; rfl, b6⟩
    · have HF2 : Hid (rv = errV e1) := HF.out
      have q := (HEE.out w5 b5).g1
      clear HF HEE
      go_wp2
      go_ret
      exact ⟨by rw [HF2.out]; rfl, b5⟩

set_option maxRecDepth 100000 in
theorem codeOf_ref {w : World} {e0 e1 e2 e3 : Addr} (E : Errs w e0 e1 e2 e3) (x : Gm) (hok : gramOkB x.parts = true → x.parts.length ≤ 20) :
    Calls Tryd.prog 16 #[refV e0 e1 e2 e3 x.parts] w fun e w' => e = .returned (.int .i64 (resCheck x)) ∧ w' = w := by
  unfold refV resCheck
  by_cases h1 : gramOkB x.parts = true
  · rw [if_pos h1, if_pos h1]
    have F := Fits.of h1
    have hp := hok h1
    have h0 : 0 < x.parts.length := by
      simp only [gramOkB, Bool.and_eq_true] at h1
      have := inB_true.1 h1.1
      omega
    by_cases h2 : loopB (startsL x.parts) = true
    · rw [if_pos h2, if_pos h2]; exact codeOf_loop E
    · rw [if_neg h2, if_neg h2]
      have hA : flagsOf (aliveL x.parts) = parB x.parts.length ↔ ¬ (aliveL x.parts).length < x.parts.length := flags_all hp (growT_sorted (p := aliveE) x.parts (x.parts.length + 1)) (growT_setB (p := aliveE) x.parts (x.parts.length + 1))
      have hR : flagsOf (reachL x.parts) = parB x.parts.length ↔ ¬ (reachL x.parts).length < x.parts.length := flags_all hp (reachT_sorted x.parts (x.parts.length + 1)) (reachT_setB (SymsIn.of h1) h0 (x.parts.length + 1))
      by_cases h3 : flagsOf (aliveL x.parts) = parB x.parts.length
      · rw [if_pos (decide_eq_true h3), if_neg (hA.1 h3)]
        by_cases h4 : flagsOf (reachL x.parts) = parB x.parts.length
        · rw [if_pos (decide_eq_true h4), if_neg (hR.1 h4)]; exact codeOf_nil E
        · rw [if_neg (by simpa using h4), if_pos (Decidable.not_not.1 (fun h => h4 (hR.2 h)))]; exact codeOf_far E
      · rw [if_neg (by simpa using h3), if_pos (Decidable.not_not.1 (fun h => h3 (hA.2 h)))]; exact codeOf_dead E
  · rw [if_neg h1, if_neg h1]; exact codeOf_bad E
set_option maxRecDepth 100000 in
theorem check_at (x : Gm) (a0 : Option Addr) (c0 : Nat) (e0 e1 e2 e3 : Addr) (w : World) (h0 : RD w (.slice a0 x.parts.length c0) (slD (Lay.list (Lay.list Lay.int)) x.parts)) (hn : Lay.gram.wt x ≤ 1048576) (hf : Lay.gram.fit x) (hE : Errs w e0 e1 e2 e3) :
    Calls Tryd.prog 7 #[.agg #[.slice a0 x.parts.length c0]] w fun e w' => e = .returned (.int .i64 (resCheck x)) ∧ Below w.heap.size w w' := by
  have B0 := (Below.refl w.heap.size w).alloc (Nat.le_refl _) (.cells #[.slice a0 x.parts.length c0] 27)
  have HRF : Hid (∀ W : World, Below w.heap.size w W → Calls Tryd.prog 17 #[.agg #[.slice a0 x.parts.length c0]] W fun e w' => e = .returned (refV e0 e1 e2 e3 x.parts) ∧ Below W.heap.size W w') := fun W hW => refusalOf_any x a0 c0 e0 e1 e2 e3 W (h0.later hW) hn hf (hE.later hW)
  have HCO : Hid (∀ W : World, Below w.heap.size w W → Calls Tryd.prog 16 #[refV e0 e1 e2 e3 x.parts] W fun e w' => e = .returned (.int .i64 (resCheck x)) ∧ w' = W) := fun W hW => codeOf_ref (hE.later hW) x (fun h => (Fits.of h).parts)
  clear h0 hn hf hE
  generalize refV e0 e1 e2 e3 x.parts = rv at *
  obtain ⟨rc, Hrc⟩ : ∃ rc, Hid (resCheck x = rc) := ⟨_, rfl⟩
  rw [Hrc.out] at HCO ⊢
  clear Hrc
  generalize x.parts.length = n at *
  go_enter Tryd.func7, Tryd.ntmps7
  go_wp2_with fail
  refine (HRF.out _ B0).mono ?_
  rintro e w1 ⟨rfl, hb1⟩
  have B1 := B0.trans (hb1.mono B0.size)
  clear HRF hb1 B0
  go_wp2_with fail
  refine (HCO.out _ B1).mono ?_
  rintro e w' ⟨rfl, hw'⟩
  have hw2 := hw'.symm
  clear hw'
  subst hw2
  go_wp2
  go_ret
  exact ⟨rfl, B1⟩
end Go.Proofs.YtdniejpblhbjkabDoor
namespace Go.Proofs.YtdniejpblhbjkabDoor
open Go.RowKit

end Go.Proofs.YtdniejpblhbjkabDoor
namespace Go.Proofs.YtdniejpblhbjkabDoor
open Go.RowKit

def cntIntSS : List (List Int) → Nat := cntL cntIntS
def mkIntSS : Nat → List (List Int) → List (List Int) := mkL cntIntS mkIntS
theorem cntIntSS_le (xs : List (List Int)) : cntIntSS xs ≤ (Lay.list (Lay.list Lay.int)).wt xs := cntL_le _ (fun x => by have := cntIntS_le x; omega) xs
theorem cntIntSS_room {xs : List (List Int)} {j k M : Nat} (hlt : j < xs.length) (hk : k + (xs.length + (Lay.list Lay.int).sumL xs) ≤ M) : k + cntIntSS (xs.take j) + (Lay.list Lay.int).wt xs[j] ≤ M := by
  have h1 := cntIntSS_le (xs.take j)
  rw [Lay.wt_list, List.length_take] at h1
  have h2 := Lay.sumL_take (Lay.list Lay.int) hlt
  have h3 := Lay.sumL_take_le (Lay.list Lay.int) xs (j + 1)
  omega

end Go.Proofs.YtdniejpblhbjkabDoor
namespace Go.Proofs.YtdniejpblhbjkabDoor
open Go.RowKit

def cntIntSSS : List (List (List Int)) → Nat := cntL cntIntSS
def mkIntSSS : Nat → List (List (List Int)) → List (List (List Int)) := mkL cntIntSS mkIntSS
theorem cntIntSSS_le (xs : List (List (List Int))) : cntIntSSS xs ≤ (Lay.list (Lay.list (Lay.list Lay.int))).wt xs := cntL_le _ (fun x => by have := cntIntSS_le x; omega) xs
theorem cntIntSSS_room {xs : List (List (List Int))} {j k M : Nat} (hlt : j < xs.length) (hk : k + (xs.length + (Lay.list (Lay.list Lay.int)).sumL xs) ≤ M) : k + cntIntSSS (xs.take j) + (Lay.list (Lay.list Lay.int)).wt xs[j] ≤ M := by
  have h1 := cntIntSSS_le (xs.take j)
  rw [Lay.wt_list, List.length_take] at h1
  have h2 := Lay.sumL_take (Lay.list (Lay.list Lay.int)) hlt
  have h3 := Lay.sumL_take_le (Lay.list (Lay.list Lay.int)) xs (j + 1)
  omega

end Go.Proofs.YtdniejpblhbjkabDoor
namespace Go.Proofs.YtdniejpblhbjkabDoor
open Go.RowKit

def cntGram (x : Gm) : Nat := cntIntSSS x.parts
def mkGram (k : Nat) (x : Gm) : Gm := ⟨mkIntSSS k x.parts⟩
theorem cntGram_le (x : Gm) : cntGram x ≤ Lay.gram.wt x := cntIntSSS_le x.parts
theorem mkGram_len (k : Nat) (x : Gm) : (mkGram k x).parts.length = x.parts.length := mkL_length _ _ _ _

end Go.Proofs.YtdniejpblhbjkabDoor
namespace Go.Proofs.YtdniejpblhbjkabDoor
open Go.RowKit

/-- The four variables hold four errors. -/
def ErrsIs (w : World) : Prop := ∃ e0 e1 e2 e3, Errs w e0 e1 e2 e3
theorem ErrsIs.later {w w' : World} (h : ErrsIs w) (hb : Below w.heap.size w w') : ErrsIs w' := by
  obtain ⟨e0, e1, e2, e3, h⟩ := h
  exact ⟨e0, e1, e2, e3, h.later hb⟩
theorem check_any (x : Gm) (a0 : Option Addr) (c0 : Nat) (w : World) (h0 : RD w (.slice a0 x.parts.length c0) (slD (Lay.list (Lay.list Lay.int)) x.parts)) (hn : Lay.gram.wt x ≤ 1048576) (hf : Lay.gram.fit x) (hE : ErrsIs w) :
    Calls Tryd.prog 7 #[.agg #[.slice a0 x.parts.length c0]] w fun e w' => e = .returned (.int .i64 (resCheck x)) ∧ Below w.heap.size w w' := by
  obtain ⟨e0, e1, e2, e3, h⟩ := hE
  exact check_at x a0 c0 e0 e1 e2 e3 w h0 hn hf h
theorem err_star : "*" ++ "errors.errorString" = "*errors.errorString" := by decide
theorem err_row (u : TypeId) (h : Tryd.prog.typeName? 3 u = some "*errors.errorString") : u = 88 :=
  typeName_ptr_named (nm := "errors.errorString") (by rw [err_star]; kernel_rfl) (by kernel_rfl) (by decide) u (by rw [err_star]; exact h)
theorem laid4 {P : Program} {n0 n1 n2 n3 nm : String} {x0 x1 x2 x3 : List UInt8} {W : World} {g0 g1 g2 g3 : Nat} {ti tp te ts : TypeId} {ms : Array (String × TypeId)} {f : Field}
    (h : laidMet P [(n0, .iface nm (.ptr (.agg [.lit (.string x0)]))), (n1, .iface nm (.ptr (.agg [.lit (.string x1)]))), (n2, .iface nm (.ptr (.agg [.lit (.string x2)]))), (n3, .iface nm (.ptr (.agg [.lit (.string x3)])))] W)
    (hg0 : P.globalNamed n0 = some g0) (ht0 : (P.globals[g0]?).map (·.type) = some ti) (hg1 : P.globalNamed n1 = some g1) (ht1 : (P.globals[g1]?).map (·.type) = some ti) (hg2 : P.globalNamed n2 = some g2) (ht2 : (P.globals[g2]?).map (·.type) = some ti) (hg3 : P.globalNamed n3 = some g3) (ht3 : (P.globals[g3]?).map (·.type) = some ti)
    (hi : P.underlying ti = some (.interface ms)) (hrow : ∀ u, P.typeName? 3 u = some nm → u = tp)
    (hp : P.underlying tp = some (.pointer te)) (he : P.underlying te = some (.struct #[f])) (hft : f.type = ts) (hfo : f.offset = 0) (hs : P.underlying ts = some .string) (hc : P.cellsOf te = 1) (hcs : P.cellsOf ts = 1) :
    ∃ a0 a1 a2 a3 : Addr, (W.cell? ⟨g0, 0, none⟩ = some (.iface tp (.pointer (some a0))) ∧ W.cell? ⟨g1, 0, none⟩ = some (.iface tp (.pointer (some a1))) ∧ W.cell? ⟨g2, 0, none⟩ = some (.iface tp (.pointer (some a2))) ∧ W.cell? ⟨g3, 0, none⟩ = some (.iface tp (.pointer (some a3)))) ∧
      ((∃ c t, W.heap[a0.block]? = some (.cells c t (0, 0))) ∧ (∃ c t, W.heap[a1.block]? = some (.cells c t (0, 0))) ∧ (∃ c t, W.heap[a2.block]? = some (.cells c t (0, 0))) ∧ (∃ c t, W.heap[a3.block]? = some (.cells c t (0, 0)))) ∧
      (a0 ≠ a1 ∧ a0 ≠ a2 ∧ a0 ≠ a3 ∧ a1 ≠ a2 ∧ a1 ≠ a3 ∧ a2 ≠ a3) := by
  obtain ⟨ps, ⟨g0', t0', cs0, f0, p0, q0, hg0', ht0', hv0, hd0, ⟨g1', t1', cs1, f1, p1, q1, hg1', ht1', hv1, hd1, ⟨g2', t2', cs2, f2, p2, q2, hg2', ht2', hv2, hd2, ⟨g3', t3', cs3, f3, p3, q3, hg3', ht3', hv3, hd3, eq, e3⟩, e2⟩, e1⟩, e0⟩, hnd, hrows⟩ := h
  obtain rfl := Option.some.inj (hg0.symm.trans hg0')
  obtain rfl := Option.some.inj (hg1.symm.trans hg1')
  obtain rfl := Option.some.inj (hg2.symm.trans hg2')
  obtain rfl := Option.some.inj (hg3.symm.trans hg3')
  obtain rfl := Option.some.inj (ht0.symm.trans ht0')
  obtain rfl := Option.some.inj (ht1.symm.trans ht1')
  obtain rfl := Option.some.inj (ht2.symm.trans ht2')
  obtain rfl := Option.some.inj (ht3.symm.trans ht3')
  subst e3
  subst e2
  subst e1
  subst e0
  obtain ⟨l0⟩ := cs0
  obtain ⟨l1⟩ := cs1
  obtain ⟨l2⟩ := cs2
  obtain ⟨l3⟩ := cs3
  have ok0 : ∀ u v, l0 = [.iface u v] → Value.okWide P W .any 0 u v := fun u v e => by
    subst e
    exact (hrows g0 0 (by simp [MemPlace.row])).2 u v (by simpa using World.var?_cell hg0' hv0 0)
  have ok1 : ∀ u v, l1 = [.iface u v] → Value.okWide P W .any 0 u v := fun u v e => by
    subst e
    exact (hrows g1 0 (by simp [MemPlace.row])).2 u v (by simpa using World.var?_cell hg1' hv1 0)
  have ok2 : ∀ u v, l2 = [.iface u v] → Value.okWide P W .any 0 u v := fun u v e => by
    subst e
    exact (hrows g2 0 (by simp [MemPlace.row])).2 u v (by simpa using World.var?_cell hg2' hv2 0)
  have ok3 : ∀ u v, l3 = [.iface u v] → Value.okWide P W .any 0 u v := fun u v e => by
    subst e
    exact (hrows g3 0 (by simp [MemPlace.row])).2 u v (by simpa using World.var?_cell hg3' hv3 0)
  obtain ⟨a0, s0, rfl, hc0, hs0, hz0, rfl⟩ := errorString_of_trod hi hrow hp he hft hfo hs hc hcs hd0 ok0
  obtain ⟨a1, s1, rfl, hc1, hs1, hz1, rfl⟩ := errorString_of_trod hi hrow hp he hft hfo hs hc hcs hd1 ok1
  obtain ⟨a2, s2, rfl, hc2, hs2, hz2, rfl⟩ := errorString_of_trod hi hrow hp he hft hfo hs hc hcs hd2 ok2
  obtain ⟨a3, s3, rfl, hc3, hs3, hz3, rfl⟩ := errorString_of_trod hi hrow hp he hft hfo hs hc hcs hd3 ok3
  refine ⟨a0, a1, a2, a3, ⟨by simpa using World.var?_cell hg0' hv0 0, by simpa using World.var?_cell hg1' hv1 0, by simpa using World.var?_cell hg2' hv2 0, by simpa using World.var?_cell hg3' hv3 0⟩,
    ⟨(hrows a0.block a0.off (by simp [MemPlace.row])).1, (hrows a1.block a1.off (by simp [MemPlace.row])).1, (hrows a2.block a2.off (by simp [MemPlace.row])).1, (hrows a3.block a3.off (by simp [MemPlace.row])).1⟩, ?_, ?_, ?_, ?_, ?_, ?_⟩
  all_goals
    rintro rfl
    simp [MemPlace.row] at hnd
theorem errs_laid {W : World} (h : laidMet Tryd.prog Rows.fnExactCheckRow.laid W) : ErrsIs W := by
  obtain ⟨a0, a1, a2, a3, ⟨c0, c1, c2, c3⟩, ⟨r0, r1, r2, r3⟩, n01, n02, n03, n12, n13, n23⟩ := laid4 h (ti := 41) (tp := 88) (te := 114) (ts := 9) (g0 := 0) (g1 := 1) (g2 := 2) (g3 := 3) (by kernel_rfl) (by kernel_rfl) (by kernel_rfl) (by kernel_rfl) (by kernel_rfl) (by kernel_rfl) (by kernel_rfl) (by kernel_rfl) Tryd.underlying41 err_row Tryd.underlying88 Tryd.underlying114 rfl rfl Tryd.underlying9 (by kernel_rfl) (by kernel_rfl)
  exact ⟨a0, a1, a2, a3, c0, c1, c2, c3, r0, r1, r2, r3, n01, n02, n03, n12, n13, n23⟩
end Go.Proofs.YtdniejpblhbjkabDoor
namespace Go.Proofs.YtdniejpblhbjkabDoor
open Go.RowKit

set_option maxHeartbeats 4000000 in
set_option maxRecDepth 100000 in
theorem fnExactCheck_law (x0 : Gm) (a0 : Option Addr) (c0 : Nat) (w : World) (h0 : RD w (.slice a0 x0.parts.length c0) (slD (Lay.list (Lay.list Lay.int)) x0.parts)) (hf0 : Lay.gram.fit x0) (hT : ErrsIs w) :
    Calls Tryd.prog 3 #[.agg #[.slice a0 x0.parts.length c0]] w fun e w' => e = .returned (.bool true) ∧ Below w.heap.size w w' := by
  have HH0 : Hid (Holds w w [] []) := Holds.start w
  have HT : Hid (ErrsIs w) := hT
  clear hT
  have H0 : Hid (RD w (.slice a0 x0.parts.length c0) (slD (Lay.list (Lay.list Lay.int)) x0.parts)) := h0
  clear h0
  have HF0 : Hid (Lay.gram.fit x0) := hf0
  have HH1 : Hid (Holds w (w.alloc (.cells #[.slice a0 x0.parts.length c0] 24)) [(w.heap.size, [.slice a0 x0.parts.length c0])] []) := by show Holds _ _ _ _; simpa using HH0.out.box [.slice a0 x0.parts.length c0] 24
  clear HH0
  go_enter Tryd.func3, Tryd.ntmps3
  have q0 : (w.alloc (.cells #[.slice a0 x0.parts.length c0] 24)).cell? ⟨w.heap.size, 0, none⟩ = some (.slice a0 x0.parts.length c0) := HH1.out.cell (w.heap.size, [.slice a0 x0.parts.length c0]) List.mem_cons_self 0 (by simp)
  go_wp2_with fail
  refine (szGram_l x0 a0 c0 _ _ (H0.out.later HH1.out.below) HF0.out (by omega) (by omega)).mono ?_
  rintro e w3 ⟨r0, rfl, hr0, B2⟩
  clear q0
  have HH4 : Hid (Holds w w3 [(w.heap.size, [.slice a0 x0.parts.length c0])] []) := HH1.out.later B2
  clear HH1
  clear B2
  rcases hr0 with rfl | ⟨hr0a, hr0b⟩
  · go_wp2
    go_ret
    exact ⟨rfl, HH4.out.below⟩
  have HW0 : Hid (Lay.gram.wt x0 ≤ 1048576) := by show _ ≤ _; omega
  have hr0c : r0 ≤ 1048576 := by omega
  clear hr0b hf0
  have q0 : w3.cell? ⟨w.heap.size, 0, none⟩ = some (.slice a0 x0.parts.length c0) := HH4.out.cell (w.heap.size, [.slice a0 x0.parts.length c0]) List.mem_cons_self 0 (by simp)
  go_wp2_with fail
  refine (toGram_l x0 a0 c0 _ (H0.out.later HH4.out.below) (by have := HW0.out; omega)).mono ?_
  rintro e w7 ⟨a0s, c0s, S0s, rfl, O6, B5⟩
  clear q0
  have HH8 : Hid (Holds w w7 [(w.heap.size, [.slice a0 x0.parts.length c0])] [([.slice a0s x0.parts.length c0s], Lay.gram.cells x0)]) := HH4.out.push B5 O6
  clear HH4
  clear B5 O6
  have R9 : Hid (RD w7 (.slice a0s x0.parts.length c0s) (slD (Lay.list (Lay.list Lay.int)) x0.parts)) := HH8.out.rd ([.slice a0s x0.parts.length c0s], Lay.gram.cells x0) List.mem_cons_self 0 (by simp) (by simp [Lay.gram])
  have q0 : w7.cell? ⟨w.heap.size, 0, none⟩ = some (.slice a0 x0.parts.length c0) := HH8.out.cell (w.heap.size, [.slice a0 x0.parts.length c0]) List.mem_cons_self 0 (by simp)
  go_wp2_with fail
  refine (specCheck_any x0 a0s c0s _ R9.out (by have := HW0.out; omega) HF0.out).mono ?_
  rintro e w11 ⟨rfl, B10⟩
  clear q0
  have HH12 : Hid (Holds w w11 [(w.heap.size, [.slice a0 x0.parts.length c0])] [([.slice a0s x0.parts.length c0s], Lay.gram.cells x0)]) := HH8.out.later B10
  clear HH8
  clear B10
  clear R9
  have HH13 : Hid (Holds w w11 [(w.heap.size, [.slice a0 x0.parts.length c0])] []) := Holds.drop (P := []) (x := ([.slice a0s x0.parts.length c0s], Lay.gram.cells x0)) (Q := []) HH12.out
  clear HH12
  have q0 : w11.cell? ⟨w.heap.size, 0, none⟩ = some (.slice a0 x0.parts.length c0) := HH13.out.cell (w.heap.size, [.slice a0 x0.parts.length c0]) List.mem_cons_self 0 (by simp)
  go_wp2_with fail
  refine (toGram_l x0 a0 c0 _ (H0.out.later HH13.out.below) (by have := HW0.out; omega)).mono ?_
  rintro e w16 ⟨a0m, c0m, S0m, rfl, O15, B14⟩
  clear q0
  have HH17 : Hid (Holds w w16 [(w.heap.size, [.slice a0 x0.parts.length c0])] [([.slice a0m x0.parts.length c0m], Lay.gram.cells x0)]) := HH13.out.push B14 O15
  clear HH13
  clear B14 O15
  have HH18 : Hid (Holds w (w16.alloc (.cells #[.slice a0m x0.parts.length c0m] 27)) [(w16.heap.size, [.slice a0m x0.parts.length c0m]), (w.heap.size, [.slice a0 x0.parts.length c0])] [([.slice a0m x0.parts.length c0m], Lay.gram.cells x0)]) := by show Holds _ _ _ _; simpa using HH17.out.box [.slice a0m x0.parts.length c0m] 27
  clear HH17
  have R19 : Hid (RD (w16.alloc (.cells #[.slice a0m x0.parts.length c0m] 27)) (.slice a0m x0.parts.length c0m) (slD (Lay.list (Lay.list Lay.int)) x0.parts)) := HH18.out.rd ([.slice a0m x0.parts.length c0m], Lay.gram.cells x0) List.mem_cons_self 0 (by simp) (by simp [Lay.gram])
  have q0 : (w16.alloc (.cells #[.slice a0m x0.parts.length c0m] 27)).cell? ⟨w16.heap.size, 0, none⟩ = some (.slice a0m x0.parts.length c0m) := HH18.out.cell (w16.heap.size, [.slice a0m x0.parts.length c0m]) List.mem_cons_self 0 (by simp)
  have q1 : (w16.alloc (.cells #[.slice a0m x0.parts.length c0m] 27)).cell? ⟨w.heap.size, 0, none⟩ = some (.slice a0 x0.parts.length c0) := HH18.out.cell (w.heap.size, [.slice a0 x0.parts.length c0]) (List.mem_cons_of_mem _ List.mem_cons_self) 0 (by simp)
  go_wp2_with fail
  refine (check_any x0 a0m c0m _ R19.out (by have := HW0.out; omega) HF0.out (HT.out.later HH18.out.below)).mono ?_
  rintro e w21 ⟨rfl, B20⟩
  clear q0 q1
  have HH22 : Hid (Holds w w21 [(w16.heap.size, [.slice a0m x0.parts.length c0m]), (w.heap.size, [.slice a0 x0.parts.length c0])] [([.slice a0m x0.parts.length c0m], Lay.gram.cells x0)]) := HH18.out.later B20
  clear HH18
  clear B20
  clear R19
  generalize resCheck x0 = T at *
  have hTT : (T != T) = false := by simp
  have q0 : w21.cell? ⟨w16.heap.size, 0, none⟩ = some (.slice a0m x0.parts.length c0m) := HH22.out.cell (w16.heap.size, [.slice a0m x0.parts.length c0m]) List.mem_cons_self 0 (by simp)
  have q1 : w21.cell? ⟨w.heap.size, 0, none⟩ = some (.slice a0 x0.parts.length c0) := HH22.out.cell (w.heap.size, [.slice a0 x0.parts.length c0]) (List.mem_cons_of_mem _ List.mem_cons_self) 0 (by simp)
  go_wp2_with fail
  refine wp_region_held_drew (S := fun w' => Keeps w' [(w16.heap.size, [.slice a0m x0.parts.length c0m]), (w.heap.size, [.slice a0 x0.parts.length c0])]) (by kernel_rfl) HH22.out.boxes.drew (fun hHeld => ?_)
  refine take_atL (i := 0) (d := some 22) (v := .agg #[.slice a0m x0.parts.length c0m]) rfl rfl (by kernel_rfl) (by kernel_rfl) (by kernel_rfl) (fun _ _ _ h => h) (by rfl) ?_ hHeld ?_
  · intro w' hSw
    have p0 : w'.cell? ⟨w16.heap.size, 0, none⟩ = some (.slice a0m x0.parts.length c0m) := hSw (w16.heap.size, [.slice a0m x0.parts.length c0m]) List.mem_cons_self 0 (by simp)
    go_simp; try rfl
  try simp only [Act.put, List.setIfInBounds_toArray, List.set_cons_zero, List.set_cons_succ]
  refine take_atL (i := 1) (d := some 23) (v := .agg #[.slice a0 x0.parts.length c0]) rfl rfl (by kernel_rfl) (by kernel_rfl) (by kernel_rfl) (fun _ _ _ h => h) (by rfl) ?_ hHeld ?_
  · intro w' hSw
    have p0 : w'.cell? ⟨w.heap.size, 0, none⟩ = some (.slice a0 x0.parts.length c0) := hSw (w.heap.size, [.slice a0 x0.parts.length c0]) (List.mem_cons_of_mem _ List.mem_cons_self) 0 (by simp)
    go_simp; try rfl
  try simp only [Act.put, List.setIfInBounds_toArray, List.set_cons_zero, List.set_cons_succ]
  clear q0 q1
  refine wpAnyH_ready (rs := [2]) (by kernel_rfl) (by simp) ?_
  refine AllReadyH.cons (o := _) rfl (fun K hK => ?_) AllReadyH.nil
  rw [if_pos (by rfl)]
  go_simp
  refine (toGram_l x0 a0 c0 _ (H0.out.later (Below.drew HH22.out.below)) (by have := HW0.out; omega)).mono ?_
  rintro e w23 ⟨a0e, c0e, S0e, rfl, O25, B24d⟩
  have B24 : Below (w21).heap.size w21 w23 := Below.drewed (by simpa using B24d)
  clear B24d hHeld
  have HH26 : Hid (Holds w w23 [(w16.heap.size, [.slice a0m x0.parts.length c0m]), (w.heap.size, [.slice a0 x0.parts.length c0])] [([.slice a0e x0.parts.length c0e], Lay.gram.cells x0), ([.slice a0m x0.parts.length c0m], Lay.gram.cells x0)]) := HH22.out.push B24 O25
  clear HH22
  clear B24 O25
  go_wp2_with fail
  refine hK.out _ _ HH26.out.boxes (fun hHeld => ?_)
  clear hK K
  try simp only [Act.put, List.setIfInBounds_toArray, List.set_cons_zero, List.set_cons_succ]
  refine wpAnyH_ready (rs := [3]) (by kernel_rfl) (by simp) ?_
  refine AllReadyH.cons (o := _) rfl (fun K hK => ?_) AllReadyH.nil
  rw [if_pos (by rfl)]
  go_simp
  have R27 : Hid (RD w23 (.slice a0m x0.parts.length c0m) (slD (Lay.list (Lay.list Lay.int)) x0.parts)) := HH26.out.rd ([.slice a0m x0.parts.length c0m], Lay.gram.cells x0) (List.mem_cons_of_mem _ List.mem_cons_self) 0 (by simp) (by simp [Lay.gram])
  have R28 : Hid (RD w23 (.slice a0e x0.parts.length c0e) (slD (Lay.list (Lay.list Lay.int)) x0.parts)) := HH26.out.rd ([.slice a0e x0.parts.length c0e], Lay.gram.cells x0) List.mem_cons_self 0 (by simp) (by simp [Lay.gram])
  refine (eqGram_l x0 a0m a0e c0m c0e _ R27.out R28.out (by have := HW0.out; omega)).mono ?_
  rintro e w29 ⟨rfl, B30⟩
  clear hHeld R27 R28
  have HH31 : Hid (Holds w w29 [(w16.heap.size, [.slice a0m x0.parts.length c0m]), (w.heap.size, [.slice a0 x0.parts.length c0])] [([.slice a0e x0.parts.length c0e], Lay.gram.cells x0), ([.slice a0m x0.parts.length c0m], Lay.gram.cells x0)]) := HH26.out.later B30
  clear HH26
  clear B30
  have HH32 : Hid (Holds w w29 [(w16.heap.size, [.slice a0m x0.parts.length c0m]), (w.heap.size, [.slice a0 x0.parts.length c0])] [([.slice a0m x0.parts.length c0m], Lay.gram.cells x0)]) := Holds.drop (P := []) (x := ([.slice a0e x0.parts.length c0e], Lay.gram.cells x0)) (Q := [([.slice a0m x0.parts.length c0m], Lay.gram.cells x0)]) HH31.out
  clear HH31
  go_wp2_with fail
  refine hK.out _ _ HH32.out.boxes (fun hHeld => ?_)
  clear hK K
  try simp only [Act.put, List.setIfInBounds_toArray, List.set_cons_zero, List.set_cons_succ]
  refine take_atL (i := 4) (d := some 26) (v := .bool false) rfl rfl (by kernel_rfl) (by kernel_rfl) (by kernel_rfl) (fun _ _ _ h => h) (by rfl) ?_ hHeld ?_
  · intro w' hSw; go_simp; try rfl
  try simp only [Act.put, List.setIfInBounds_toArray, List.set_cons_zero, List.set_cons_succ]
  refine wpAnyH_done (by kernel_rfl) ?_ _
  clear hHeld
  go_wp2
  go_ret
  exact ⟨rfl, HH32.out.below⟩
end Go.Proofs.YtdniejpblhbjkabDoor
