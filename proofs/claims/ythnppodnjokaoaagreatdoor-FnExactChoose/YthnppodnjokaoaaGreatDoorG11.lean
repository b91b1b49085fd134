/-
  Contracts and plain mathematics, joined: CheckParts, AnyLoop, ErrIs, Errs, Check, ErrsLaid, CanAsk, CanGo, Vals, Stretch, StrJoin, TrIn. No statement is proved here.
-/
import Derived.Test.YthnppodnjokaoaaGreatDoorG10
import Derived.Test.YthnppodnjokaoaaGreatDoorG6
import Derived.Test.YthnppodnjokaoaaGreatDoorChecked
import Derived.WalkKit
import Derived.LaidEql
import Derived.Stop.Asserts
import Derived.RowKitTokens
import Derived.Test.YthnppodnjokaoaaGreatDoorG2
import Derived.Stop.LaidErr
import Derived.Test.YthnppodnjokaoaaGreatDoorRows
import Derived.Stop.LaidTwo
import Derived.Test.YthnppodnjokaoaaGreatDoorG7
import Derived.Test.YthnppodnjokaoaaGreatDoorG9
import Derived.Test.YthnppodnjokaoaaGreatDoorG3
namespace Go.Proofs.YthnppodnjokaoaaGreatDoor
open Go.RowKit

/-- The flags of the first n parts. -/
def parB (n : Nat) : List Bool := (List.range 27).map fun i => decide (i < n)
theorem parB_length (n : Nat) : (parB n).length = 27 := by simp [parB]
theorem parB_get {n i : Nat} (h : i < 27) : (parB n).getD i false = decide (i < n) := by simp [parB, List.getD, h]
theorem parB_zero : parB 0 = List.replicate 27 false := by
  apply list_ext_getD (by rw [parB_length, List.length_replicate])
  intro i hi
  rw [parB_length] at hi
  rw [parB_get hi, rep_getD]; simp
theorem parB_next {k : Nat} (hk : k < 27) : parB (k + 1) = (parB k).set k true := by
  apply list_ext_getD (by rw [List.length_set, parB_length, parB_length])
  intro i hi
  rw [parB_length] at hi
  rw [parB_get hi, getD_setB, parB_length, parB_get hi]
  by_cases e : i = k
  · subst e; simp [hk]
  · rw [if_neg (fun h => e h.1)]
    rw [Bool.eq_iff_iff]; simp; omega
theorem nums_par_len (n : Nat) : ∀ m, (numsB (fun i => decide (i < n)) m).length = min n m
  | 0 => by simp [numsB]
  | m + 1 => by
    rw [numsB]
    have ih := nums_par_len n m
    split
    · rename_i h
      have := of_decide_eq_true h
      rw [List.length_append, List.length_singleton]; omega
    · rename_i h
      have : ¬ m < n := fun g => h (decide_eq_true g)
      omega
/-- Flags of a set of parts are those of all just where there are as many. -/
theorem flags_all {n : Nat} (hn : n ≤ 20) {E : List Int} (hs : E.Pairwise (· < ·)) (hb : SetB (n : Int) E) : flagsOf E = parB n ↔ ¬ E.length < n := by
  constructor
  · intro h
    have e := nums_flags (E := E) hs (fun x hx => by have := hb.lt x hx; omega) (f := fun i => (flagsOf E).getD i false) (fun i hi => flagsOf_get E hi)
    have e2 : numsB (fun i => (flagsOf E).getD i false) 27 = numsB (fun i => decide (i < n)) 27 := by
      have : ∀ m, m ≤ 27 → numsB (fun i => (flagsOf E).getD i false) m = numsB (fun i => decide (i < n)) m := by
        intro m
        induction m with
        | zero => intro _; rfl
        | succ m ih =>
          intro hm
          rw [numsB, numsB, ih (by omega), h, parB_get (by omega)]
      exact this 27 (Nat.le_refl _)
    rw [← e, e2, nums_par_len]; omega
  · intro h
    apply list_ext_getD (by rw [flagsOf_length, parB_length])
    intro i hi
    rw [flagsOf_length] at hi
    rw [flagsOf_get _ hi, parB_get hi, Bool.eq_iff_iff]
    constructor
    · intro g
      have : (i : Int) ∈ E := of_decide_eq_true g
      have := hb.lt _ this
      exact decide_eq_true (by omega)
    · intro g
      have hi2 := of_decide_eq_true g
      by_cases hm : (i : Int) ∈ E
      · exact hasL_yes hm
      · exfalso
        have : ((i : Int) :: E).length ≤ n := nodup_le (List.nodup_cons.2 ⟨hm, hb.nodup⟩) (fun x hx => by
          rcases List.mem_cons.1 hx with rfl | hx
          · omega
          · exact hb.lt x hx)
        rw [List.length_cons] at this
        omega

set_option maxHeartbeats 2000000 in
set_option maxRecDepth 100000 in
theorem partsIn_any (n : Nat) (a0 : Option Addr) (c0 : Nat) (w : World) (hn : n ≤ 20) :
    Calls Tryz.prog 90 #[.agg #[.slice a0 n c0]] w fun e w' => e = .returned (aggB (parB n)) ∧ Below w.heap.size w w' := by
  have B0 := (Below.refl w.heap.size w).alloc (Nat.le_refl _) (.cells #[.slice a0 n c0] 29)
  have hsb : (w.alloc (.cells #[.slice a0 n c0] 29)).heap.size = w.heap.size + 1 := by simp
  have HQ0 : Hid ((w.alloc (.cells #[.slice a0 n c0] 29)).cell? ⟨w.heap.size, 0, none⟩ = some (.slice a0 n c0)) := by show _ = _; simp
  go_enter Tryz.func90, Tryz.ntmps90
  go_wp2_with (first | (refine wpList_allocB (w := w.alloc _) rfl 119 rfl 27 bt_flags ?_; rw [hsb]; intro w1 hB1 hb1 hs1; have q1 := (hb1.cell (p := ⟨w.heap.size, 0, none⟩) (by simp)).trans HQ0.out; have h1 : w.heap.size + 1 < w1.heap.size := (by omega); clear hs1) | (refine wpList_allocB (w := w1) rfl 119 rfl 27 bt_flags ?_; intro w2 hB2 hb2 hs2; have q2 := (hb2.cell (p := ⟨w.heap.size, 0, none⟩) (by simp; omega)).trans q1; have h2 : w1.heap.size < w2.heap.size := (by omega); clear hs2 q1))
  have hB12 := hB1.later hb2
  have b1 : Below w.heap.size w w1 := B0.trans (hb1.mono (by omega))
  have b2 : Below w.heap.size w w2 := b1.trans (hb2.mono b1.size)
  have hw1 := b1.size
  clear hB1 hb1 hb2 q2 HQ0 B0 b1
  generalize w1.heap.size = n1 at *
  go_loopw [8] (fun s wr => ∃ k : Nat, k ≤ n ∧ s = .int .i64 k ∧ Bits wr n1 119 (parB k) ∧ Bits wr (w.heap.size + 1) 119 (List.replicate 27 false) ∧ Below w.heap.size w wr) (fun s _ => n - (intOf s).toNat)
  case atStart => exact ⟨0, Nat.zero_le _, rfl, by rw [parB_zero]; exact hB2, hB12, b2⟩
  case round =>
    obtain ⟨k, hk, rfl, hBk, hBr, hbk⟩ := hrel
    clear hB2 hB12 b2
    by_cases hlt : k < n
    · have hk0 : (0 : Int) ≤ (k : Int) := by omega
      have hk1 : (k : Int) < 27 := by omega
      have q := hBk.cell (n := k) (by rw [parB_length]; omega)
      have f := hBk.frozen k
      have hBs := hBk.set k true
      have HN : Hid (parB (k + 1) = (parB k).set k true) := parB_next (by omega)
      rw [← HN.out] at hBs
      have hBrs := hBr.grown (setCell_grown wr n1 k (.bool true)) (fun h => by have := Option.some.inj h; omega)
      have hbs : Below w.heap.size w (wr.setCell ⟨n1, k, none⟩ (.bool true)) := hbk.setCell (p := ⟨n1, k, none⟩) hw1 _
      have HE : Hid (Bits (wr.setCell ⟨n1, k, none⟩ (.bool true)) n1 119 (parB (k + 1)) ∧ Bits (wr.setCell ⟨n1, k, none⟩ (.bool true)) (w.heap.size + 1) 119 (List.replicate 27 false) ∧ Below w.heap.size w (wr.setCell ⟨n1, k, none⟩ (.bool true))) := ⟨hBs, hBrs, hbs⟩
      clear hBs hBrs hbs HN hBk hBr hbk
      generalize (parB k).getD k false = y at *
      go_wp2
      go_roundw
      case rel => exact ⟨k + 1, by omega, by go_num, HE.out.1, HE.out.2.1, HE.out.2.2⟩
      case measure => simp [intOf]; omega
    · have e : k = n := by omega
      subst e
      have hl := parB_length k
      obtain ⟨T, HT⟩ : ∃ T, Hid (parB k = T) := ⟨_, rfl⟩
      rw [HT.out] at hBk hl
      go_wp2_with (first | (refine wpList_loadW rfl 119 _ rfl n1 119 T rfl (at27 hl) hBk ?_) | (refine wpList_storeB rfl 119 _ _ rfl (w.heap.size + 1) 0 119 _ T rfl rfl (at27 hl) hBr (by rw [List.length_replicate, hl]; decide) ?_; intro w5 hB5 hg5))
      rw [putB_whole (by rw [List.length_replicate]; exact hl)] at hB5
      have b5 : Below w.heap.size w w5 := hbk.grown hg5 hbk.size (fun j hj => by cases hj; omega)
      exact bodyPost_ret (v := aggB T) (ret_cell 119 rfl rfl hB5 (at27 hl)) rfl ⟨by rw [HT.out], b5⟩
end Go.Proofs.YthnppodnjokaoaaGreatDoor
namespace Go.Proofs.YthnppodnjokaoaaGreatDoor
open Go.RowKit

theorem any_loop {P : List (List (List Int))} {T : List Bool} (hp : P.length ≤ 20) (hM : (startsL P).length = P.length) (h : ∀ k, k < P.length → numsB (fun c => T.getD (k * 27 + c) false) 27 = (startsL P).getD k []) (k : Nat) (hk : k < P.length) : T.getD (k * 27 + k) false = hasL ((startsL P)[k]'(hM.symm ▸ hk)) (k : Int) := by
  have e : (startsL P).getD k [] = (startsL P)[k]'(hM.symm ▸ hk) := by simp [List.getD, show k < (startsL P).length by omega]
  rw [← e, ← h k hk, Bool.eq_iff_iff]
  constructor
  · intro g; exact hasL_yes (mem_numsB.2 ⟨k, by omega, rfl, g⟩)
  · intro g
    obtain ⟨n, _, e, g⟩ := mem_numsB.1 (of_decide_eq_true g)
    have : k = n := by omega
    subst this; exact g

set_option maxHeartbeats 2000000 in
set_option maxRecDepth 100000 in
theorem anyLoop_any (P : List (List (List Int))) (a0 : Option Addr) (c0 : Nat) (w : World) (h0 : RD w (.slice a0 P.length c0) (slD (Lay.list (Lay.list Lay.int)) P)) (hok : gramOkB P = true) :
    Calls Tryz.prog 91 #[.agg #[.slice a0 P.length c0]] w fun e w' => e = .returned (.bool (loopB (startsL P))) ∧ Below w.heap.size w w' := by
  have F := Fits.of hok
  have hp := F.parts
  have hM : (startsL P).length = P.length := (stT_sets (emptiesL P) F (P.length + 1)).1
  have HM : Hid ((startsL P).length = P.length) := hM
  have HS : Hid (∀ W : World, Below w.heap.size w W → Calls Tryz.prog 104 #[.agg #[.slice a0 P.length c0]] W fun e w' => ∃ T, e = .returned (aggB T) ∧ T.length = 540 ∧ Hid (∀ k, k < P.length → numsB (fun c => T.getD (k * 27 + c) false) 27 = (startsL P).getD k []) ∧ Below W.heap.size W w') := fun W hW => startsOf_any P a0 c0 W (h0.later hW) hok
  have B0 := (Below.refl w.heap.size w).alloc (Nat.le_refl _) (.cells #[.slice a0 P.length c0] 29)
  clear h0 hok F hM
  go_enter Tryz.func91, Tryz.ntmps91
  go_wp2_with fail
  refine (HS.out _ B0).mono ?_
  rintro e w1 ⟨T, rfl, hTl, HI, hb1⟩
  have g0 : w1.cell? ⟨w.heap.size, 0, none⟩ = some (.slice a0 P.length c0) := (hb1.cell (p := ⟨w.heap.size, 0, none⟩) (by simp)).trans (by simp)
  have B1 := B0.trans (hb1.mono B0.size)
  have HL : Hid (∀ (k : Nat) (hk : k < P.length), T.getD (k * 27 + k) false = hasL ((startsL P)[k]'(HM.out.symm ▸ hk)) (k : Int)) := fun k hk => any_loop hp HM.out HI.out k hk
  have HYes : Hid (∀ (k : Nat) (hk : k < P.length), T.getD (k * 27 + k) false = true → loopB (startsL P) = true) := fun k hk g => loopB_yes (HM.out.symm ▸ hk) (by rw [← HL.out k hk]; exact g)
  have HNo : Hid ((∀ k, k < P.length → T.getD (k * 27 + k) false = false) → loopB (startsL P) = false) := fun g => loopB_no (fun k hk => by rw [← HL.out k (HM.out ▸ hk)]; exact g k (HM.out ▸ hk))
  have hwl : w.heap.size < w1.heap.size := World.block_lt_of_cell? w1 _ g0
  clear HS B0 hb1 HI HL HM
  go_wp2_with (first | (refine wpList_allocB (w := w1) rfl 135 rfl 540 bt_table ?_; intro w3 hB3 hb3 hs3) | (refine wpList_storeB (w := w3) rfl 135 _ _ rfl w1.heap.size 0 135 _ T rfl rfl (at540S hTl) hB3 (by rw [List.length_replicate, hTl]; decide) ?_; intro w4 hB4 hg4; rw [putB_whole (by rw [List.length_replicate]; exact hTl)] at hB4; have g4 : w4.cell? ⟨w.heap.size, 0, none⟩ = some (.slice a0 P.length c0) := (World.cell?_of_block (w := w3) (a := ⟨w.heap.size, 0, none⟩) (hg4.block w.heap.size (by omega) (some_ne (by omega)))).trans ((hb3.cell (p := ⟨w.heap.size, 0, none⟩) (by simp; omega)).trans g0)))
  have B4 : Below w.heap.size w w4 := (B1.trans (hb3.mono B1.size)).grown hg4 (by have := B1.size; omega) (fun j hj => by cases hj; exact B1.size)
  clear hB3 hb3 hs3 hg4 g0 B1
  generalize w1.heap.size = n1 at *
  go_loop [10] (fun s => ∃ k : Nat, k ≤ P.length ∧ s = .int .i64 k ∧ Hid (∀ j, j < k → T.getD (j * 27 + j) false = false)) (fun s => P.length - (intOf s).toNat)
  case atStart => exact ⟨0, Nat.zero_le _, rfl, fun j hj => by omega⟩
  case round =>
    obtain ⟨k, hk, rfl, HK⟩ := hrel
    by_cases hlt : k < P.length
    · have hk0 : (0 : Int) ≤ (k : Int) := by omega
      have hk1 : (k : Int) < 20 := by omega
      have hk2 : (k : Int) < 27 := by omega
      have q := hB4.cell (n := k * 27 + k) (by omega)
      have HY2 : Hid (T.getD (k * 27 + k) false = true → loopB (startsL P) = true) := HYes.out k hlt
      by_cases hup : T.getD (k * 27 + k) false = true
      · rw [hup] at q
        have HF : Hid (loopB (startsL P) = true) := HY2.out hup
        clear HY2 hup HYes HNo HK
        go_wp2
        go_ret
        exact ⟨ret_bool (by rw [HF.out]), B4⟩
      · have hdn : T.getD (k * 27 + k) false = false := by simpa using hup
        rw [hdn] at q
        have HK2 : Hid (∀ j, j < k + 1 → T.getD (j * 27 + j) false = false) := fun j hj => by
          by_cases e : j = k
          · rw [e]; exact hdn
          · exact HK.out j (by omega)
        clear HY2 hup hdn HYes HNo HK
        go_wp2
        go_round
        case rel => exact ⟨k + 1, by omega, by go_num, HK2⟩
        case measure => simp [intOf]; omega
    · have e : k = P.length := by omega
      subst e
      have HF : Hid (loopB (startsL P) = false) := HNo.out HK.out
      clear HYes HNo HK
      go_wp2
      go_ret
      exact ⟨ret_bool (by rw [HF.out]), B4⟩
end Go.Proofs.YthnppodnjokaoaaGreatDoor
namespace Go.Proofs.YthnppodnjokaoaaGreatDoor
open Go.RowKit Go.Extern.Stop Go.Stop Go.Extern

theorem is_typeOf (v : Value) (w : World) : (Extern.ReflectliteType.typeOf #[.iface 158 v]).run Tryz.prog w = .ok (.iface 144 (.agg #[.pointer (some ⟨4, 158, none⟩)])) w := by kernel_rfl
theorem is_comparable (w : World) : ((Extern.ReflectliteType.method fun t => do Extern.Rtype.noPackHeld "Comparable" t; pure (.bool (← typeInfo t).comparable)) #[.agg #[.pointer (some ⟨4, 158, none⟩)]]).run Tryz.prog w = .ok (.bool true) w := by kernel_rfl
theorem is_called (w : World) : (callFunc 132 #[.agg #[.pointer (some ⟨4, 158, none⟩)]]).run Tryz.prog w = .ok (.value (.bool true)) w := by
  have h32 := @run_callFunc_extern Tryz.prog 132 _ (Extern.ReflectliteType.method fun t => do Extern.Rtype.noPackHeld "Comparable" t; pure (.bool (← typeInfo t).comparable)) Tryz.func132 (by kernel_rfl) (by kernel_rfl) (by kernel_rfl) (by kernel_rfl)
  rw [h32, is_comparable, Result.andThen_ok]
theorem is_method (v : Value) (w : World) : (Go.method 295 144 v "Comparable").run Tryz.prog w = .ok (132, v) w := by kernel_rfl
theorem is_comp : (Tryz.prog.info? 158).map (·.comparable) = some true := by kernel_rfl
theorem is_size : (Tryz.prog.info? 183).map (·.size) = some 1 := by kernel_rfl
theorem no_Is (v : Value) (xT : TypeId) (w : World) : (Instr.typeAssert (.iface 158 v) xT 146 true).run Tryz.prog w = .ok (.tuple #[.nilIface, .bool false]) w := run_typeAssert_lacksB Tryz.underlying146 (by kernel_rfl) (by kernel_rfl) v xT w
theorem no_Unwrap (v : Value) (xT : TypeId) (w : World) : (Instr.typeAssert (.iface 158 v) xT 149 true).run Tryz.prog w = .ok (.tuple #[.nilIface, .bool false]) w := run_typeAssert_lacksB Tryz.underlying149 (by kernel_rfl) (by kernel_rfl) v xT w
theorem no_Unwraps (v : Value) (xT : TypeId) (w : World) : (Instr.typeAssert (.iface 158 v) xT 151 true).run Tryz.prog w = .ok (.tuple #[.nilIface, .bool false]) w := run_typeAssert_lacksB Tryz.underlying151 (by kernel_rfl) (by kernel_rfl) v xT w

set_option maxRecDepth 100000 in
theorem errIs_same (a : Addr) (w : World) :
    Calls Tryz.prog 89 #[.iface 158 (.pointer (some a)), .iface 158 (.pointer (some a))] w fun e w' => e = .returned (.bool true) ∧ w' = w := by
  obtain ⟨i, hi, hcmp⟩ := Option.map_eq_some_iff.1 is_comp
  obtain ⟨j, hj, hjs⟩ := Option.map_eq_some_iff.1 is_size
  have h8 := @run_callFunc_extern Tryz.prog 102 _ Extern.ReflectliteType.typeOf Tryz.func102 (by kernel_rfl) (by kernel_rfl) (by kernel_rfl) (by kernel_rfl)
  have hC := is_called
  have tT := is_typeOf
  have mR := is_method
  have heq := run_eql_iface_ptr_same (P := Tryz.prog) w a Tryz.underlying101 Tryz.underlying158 hi hcmp hj
  go_enter Tryz.func89, Tryz.ntmps89
  go_wp2
  refine wp_loop_rounds 1 ?_
  rw [rounds_succ]
  go_wp2
  go_ret
  exact ⟨rfl, rfl⟩
set_option maxRecDepth 100000 in
theorem errIs_nil (b : Addr) (w : World) :
    Calls Tryz.prog 89 #[.nilIface, .iface 158 (.pointer (some b))] w fun e w' => e = .returned (.bool false) ∧ w' = w := by
  have hn := run_eql_iface_nil_left (P := Tryz.prog) w 158 (.pointer (some b)) Tryz.underlying101
  go_enter Tryz.func89, Tryz.ntmps89
  go_wp2
  go_ret
  exact ⟨rfl, rfl⟩
set_option maxRecDepth 100000 in
theorem errIs_other (a b : Addr) (ca cb : Array Value) (ta tb : TypeId) (w : World) (hne : a ≠ b) (ha : w.heap[a.block]? = some (.cells ca ta (0, 0))) (hb : w.heap[b.block]? = some (.cells cb tb (0, 0))) :
    Calls Tryz.prog 89 #[.iface 158 (.pointer (some a)), .iface 158 (.pointer (some b))] w fun e w' => e = .returned (.bool false) ∧ w' = w := by
  obtain ⟨i, hi, hcmp⟩ := Option.map_eq_some_iff.1 is_comp
  obtain ⟨j, hj, hjs⟩ := Option.map_eq_some_iff.1 is_size
  have h8 := @run_callFunc_extern Tryz.prog 102 _ Extern.ReflectliteType.typeOf Tryz.func102 (by kernel_rfl) (by kernel_rfl) (by kernel_rfl) (by kernel_rfl)
  have hC := is_called
  have tT := is_typeOf
  have mR := is_method
  have nE := no_Is
  have uE := no_Unwrap
  have vE := no_Unwraps
  have heq := run_eql_iface_ptr_other (P := Tryz.prog) w Tryz.underlying101 Tryz.underlying158 hi hcmp hj (by rw [hjs]; decide) hne ha hb
  go_enter Tryz.func89, Tryz.ntmps89
  go_wp2
  refine wp_loop_rounds 1 ?_
  rw [rounds_succ]
  go_wp2
  go_ret
  exact ⟨rfl, rfl⟩
end Go.Proofs.YthnppodnjokaoaaGreatDoor
namespace Go.Proofs.YthnppodnjokaoaaGreatDoor
open Go.RowKit

abbrev errV (a : Addr) : Value := .iface 158 (.pointer (some a))
/-- The four variables hold four errors of errors.New's make. -/
structure Errs (w : World) (a0 a1 a2 a3 : Addr) : Prop where
  g0 : w.cell? ⟨0, 0, none⟩ = some (errV a0)
  g1 : w.cell? ⟨1, 0, none⟩ = some (errV a1)
  g2 : w.cell? ⟨2, 0, none⟩ = some (errV a2)
  g3 : w.cell? ⟨3, 0, none⟩ = some (errV a3)
  r0 : ∃ c t, w.heap[a0.block]? = some (.cells c t (0, 0))
  r1 : ∃ c t, w.heap[a1.block]? = some (.cells c t (0, 0))
  r2 : ∃ c t, w.heap[a2.block]? = some (.cells c t (0, 0))
  r3 : ∃ c t, w.heap[a3.block]? = some (.cells c t (0, 0))
  n01 : a0 ≠ a1
  n02 : a0 ≠ a2
  n03 : a0 ≠ a3
  n12 : a1 ≠ a2
  n13 : a1 ≠ a3
  n23 : a2 ≠ a3
theorem row_later {w w' : World} {a : Addr} (h : ∃ c t, w.heap[a.block]? = some (.cells c t (0, 0))) (hb : Below w.heap.size w w') : ∃ c t, w'.heap[a.block]? = some (.cells c t (0, 0)) := by
  obtain ⟨c, t, h⟩ := h
  exact ⟨c, t, by rw [hb.block _ (Array.getElem?_eq_some_iff.1 h).1]; exact h⟩
theorem Errs.later {w w' : World} {a0 a1 a2 a3 : Addr} (h : Errs w a0 a1 a2 a3) (hb : Below w.heap.size w w') : Errs w' a0 a1 a2 a3 :=
  ⟨(hb.cell (World.block_lt_of_cell? w _ h.g0)).trans h.g0, (hb.cell (World.block_lt_of_cell? w _ h.g1)).trans h.g1, (hb.cell (World.block_lt_of_cell? w _ h.g2)).trans h.g2, (hb.cell (World.block_lt_of_cell? w _ h.g3)).trans h.g3,
   row_later h.r0 hb, row_later h.r1 hb, row_later h.r2 hb, row_later h.r3 hb, h.n01, h.n02, h.n03, h.n12, h.n13, h.n23⟩
theorem errIs_no {a b : Addr} (w : World) (hne : a ≠ b) (ha : ∃ c t, w.heap[a.block]? = some (.cells c t (0, 0))) (hb : ∃ c t, w.heap[b.block]? = some (.cells c t (0, 0))) :
    Calls Tryz.prog 89 #[errV a, errV b] w fun e w' => e = .returned (.bool false) ∧ w' = w := by
  obtain ⟨ca, ta, ha⟩ := ha
  obtain ⟨cb, tb, hb⟩ := hb
  exact errIs_other a b ca cb ta tb w hne ha hb

section
variable {w : World} {a0 a1 a2 a3 : Addr}
theorem codeOf_nil (E : Errs w a0 a1 a2 a3) : Calls Tryz.prog 72 #[.nilIface] w fun e w' => e = .returned (.int .i64 0) ∧ w' = w := by
  have g0 := E.g0
  have g1 := E.g1
  have g2 := E.g2
  have g3 := E.g3
  have X : Hid (∀ b, Calls Tryz.prog 89 #[.nilIface, errV b] w fun e w' => e = .returned (.bool false) ∧ w' = w) := fun b => errIs_nil b w
  clear E
  go_enter Tryz.func72, Tryz.ntmps72
  go_wp2_with (go_at_call 89; refine (X.out _).mono ?_; rintro e w' ⟨rfl, hw'⟩; have hw2 := hw'.symm; clear hw'; subst hw2)
  go_ret
  exact ⟨rfl, rfl⟩
theorem codeOf_bad (E : Errs w a0 a1 a2 a3) : Calls Tryz.prog 72 #[errV a0] w fun e w' => e = .returned (.int .i64 1) ∧ w' = w := by
  have g0 := E.g0
  have X : Hid (Calls Tryz.prog 89 #[errV a0, errV a0] w fun e w' => e = .returned (.bool true) ∧ w' = w) := errIs_same a0 w
  clear E
  go_enter Tryz.func72, Tryz.ntmps72
  go_wp2_with (go_at_call 89; refine X.out.mono ?_; rintro e w' ⟨rfl, hw'⟩; have hw2 := hw'.symm; clear hw'; subst hw2)
  go_ret
  exact ⟨rfl, rfl⟩
theorem codeOf_loop (E : Errs w a0 a1 a2 a3) : Calls Tryz.prog 72 #[errV a1] w fun e w' => e = .returned (.int .i64 2) ∧ w' = w := by
  have g0 := E.g0
  have g1 := E.g1
  have X0 : Hid (Calls Tryz.prog 89 #[errV a1, errV a0] w fun e w' => e = .returned (.bool false) ∧ w' = w) := errIs_no w E.n01.symm E.r1 E.r0
  have X : Hid (Calls Tryz.prog 89 #[errV a1, errV a1] w fun e w' => e = .returned (.bool true) ∧ w' = w) := errIs_same a1 w
  clear E
  go_enter Tryz.func72, Tryz.ntmps72
  go_wp2_with fail
  refine X0.out.mono ?_
  rintro e w' ⟨rfl, hw'⟩
  have hw2 := hw'.symm
  clear hw'
  subst hw2
  go_wp2_with fail
  refine X.out.mono ?_
  rintro e w' ⟨rfl, hw'⟩
  have hw2 := hw'.symm
  clear hw'
  subst hw2
  go_wp2
  go_ret
  exact ⟨rfl, rfl⟩
theorem codeOf_dead (E : Errs w a0 a1 a2 a3) : Calls Tryz.prog 72 #[errV a2] w fun e w' => e = .returned (.int .i64 3) ∧ w' = w := by
  have g0 := E.g0
  have g1 := E.g1
  have g2 := E.g2
  have X0 : Hid (Calls Tryz.prog 89 #[errV a2, errV a0] w fun e w' => e = .returned (.bool false) ∧ w' = w) := errIs_no w E.n02.symm E.r2 E.r0
  have X1 : Hid (Calls Tryz.prog 89 #[errV a2, errV a1] w fun e w' => e = .returned (.bool false) ∧ w' = w) := errIs_no w E.n12.symm E.r2 E.r1
  have X : Hid (Calls Tryz.prog 89 #[errV a2, errV a2] w fun e w' => e = .returned (.bool true) ∧ w' = w) := errIs_same a2 w
  clear E
  go_enter Tryz.func72, Tryz.ntmps72
  go_wp2_with fail
  refine X0.out.mono ?_
  rintro e w' ⟨rfl, hw'⟩
  have hw2 := hw'.symm
  clear hw'
  subst hw2
  go_wp2_with fail
  refine X1.out.mono ?_
  rintro e w' ⟨rfl, hw'⟩
  have hw2 := hw'.symm
  clear hw'
  subst hw2
  go_wp2_with fail
  refine X.out.mono ?_
  rintro e w' ⟨rfl, hw'⟩
  have hw2 := hw'.symm
  clear hw'
  subst hw2
  go_wp2
  go_ret
  exact ⟨rfl, rfl⟩
theorem codeOf_far (E : Errs w a0 a1 a2 a3) : Calls Tryz.prog 72 #[errV a3] w fun e w' => e = .returned (.int .i64 4) ∧ w' = w := by
  have g0 := E.g0
  have g1 := E.g1
  have g2 := E.g2
  have g3 := E.g3
  have X0 : Hid (Calls Tryz.prog 89 #[errV a3, errV a0] w fun e w' => e = .returned (.bool false) ∧ w' = w) := errIs_no w E.n03.symm E.r3 E.r0
  have X1 : Hid (Calls Tryz.prog 89 #[errV a3, errV a1] w fun e w' => e = .returned (.bool false) ∧ w' = w) := errIs_no w E.n13.symm E.r3 E.r1
  have X2 : Hid (Calls Tryz.prog 89 #[errV a3, errV a2] w fun e w' => e = .returned (.bool false) ∧ w' = w) := errIs_no w E.n23.symm E.r3 E.r2
  have X : Hid (Calls Tryz.prog 89 #[errV a3, errV a3] w fun e w' => e = .returned (.bool true) ∧ w' = w) := errIs_same a3 w
  clear E
  go_enter Tryz.func72, Tryz.ntmps72
  go_wp2_with fail
  refine X0.out.mono ?_
  rintro e w' ⟨rfl, hw'⟩
  have hw2 := hw'.symm
  clear hw'
  subst hw2
  go_wp2_with fail
  refine X1.out.mono ?_
  rintro e w' ⟨rfl, hw'⟩
  have hw2 := hw'.symm
  clear hw'
  subst hw2
  go_wp2_with fail
  refine X2.out.mono ?_
  rintro e w' ⟨rfl, hw'⟩
  have hw2 := hw'.symm
  clear hw'
  subst hw2
  go_wp2_with fail
  refine X.out.mono ?_
  rintro e w' ⟨rfl, hw'⟩
  have hw2 := hw'.symm
  clear hw'
  subst hw2
  go_wp2
  go_ret
  exact ⟨rfl, rfl⟩
end
end Go.Proofs.YthnppodnjokaoaaGreatDoor
namespace Go.Proofs.YthnppodnjokaoaaGreatDoor
open Go.RowKit

section
variable {P : Program}
theorem exec_neqB {ρ : Operand → Value} {o : Oper} {w : World} {ty rt : TypeId} {x y : Operand} {us bs : List Bool} (ho : o.op = .binOp .neq ty x y rt) (hx : ρ x = aggB us) (hy : ρ y = aggB bs) (hg : P.eqGuardType P.depth ty = false) (he : (Op.equalIn 10000 ty (aggB us) (aggB bs)).run P w = .ok (decide (us = bs)) w) :
    (execOp ρ o).run P w = .ok (.value (.bool (!decide (us = bs)))) w := by
  unfold execOp
  unfold aggB at *
  simp only [ho, hx, hy, Sem.run_bind, run_eqGuard_agg w _ _ _ _ _ _ hg, Result.andThen_ok, run_neq_struct, he, Sem.run_pure]
end

/-- What is refused. -/
def refV (a0 a1 a2 a3 : Addr) (P : List (List (List Int))) : Value :=
  if gramOkB P then (if loopB (startsL P) then errV a1 else if decide (flagsOf (aliveL P) = parB P.length) then (if decide (flagsOf (reachL P) = parB P.length) then .nilIface else errV a3) else errV a2) else errV a0

set_option maxHeartbeats 4000000 in
set_option maxRecDepth 100000 in
theorem refusalOf_any (x : Gm) (a0 : Option Addr) (c0 : Nat) (e0 e1 e2 e3 : Addr) (w : World) (h0 : RD w (.slice a0 x.parts.length c0) (slD (Lay.list (Lay.list Lay.int)) x.parts)) (hn : Lay.gram.wt x ≤ 1048576) (hf : Lay.gram.fit x) (hE : Errs w e0 e1 e2 e3) :
    Calls Tryz.prog 73 #[.agg #[.slice a0 x.parts.length c0]] w fun e w' => e = .returned (refV e0 e1 e2 e3 x.parts) ∧ Below w.heap.size w w' := by
  have B0 := (Below.refl w.heap.size w).alloc (Nat.le_refl _) (.cells #[.slice a0 x.parts.length c0] 29)
  have HOK : Hid (∀ W : World, Below w.heap.size w W → Calls Tryz.prog 42 #[.agg #[.slice a0 x.parts.length c0]] W fun e w' => e = .returned (.bool (gramOkB x.parts)) ∧ Below W.heap.size W w') := fun W hW => gramOk_any x a0 c0 W (h0.later hW) hn hf
  have HPI : Hid (gramOkB x.parts = true → ∀ W : World, Calls Tryz.prog 90 #[.agg #[.slice a0 x.parts.length c0]] W fun e w' => e = .returned (aggB (parB x.parts.length)) ∧ Below W.heap.size W w') := fun hk W => partsIn_any x.parts.length a0 c0 W (Fits.of hk).parts
  have HAL : Hid (gramOkB x.parts = true → ∀ W : World, Below w.heap.size w W → Calls Tryz.prog 91 #[.agg #[.slice a0 x.parts.length c0]] W fun e w' => e = .returned (.bool (loopB (startsL x.parts))) ∧ Below W.heap.size W w') := fun hk W hW => anyLoop_any x.parts a0 c0 W (h0.later hW) hk
  have HPR : Hid (gramOkB x.parts = true → ∀ W : World, Below w.heap.size w W → Calls Tryz.prog 92 #[.agg #[.slice a0 x.parts.length c0]] W fun e w' => e = .returned (aggB (flagsOf (aliveL x.parts))) ∧ Below W.heap.size W w') := fun hk W hW => productiveOf_any x.parts a0 c0 W (h0.later hW) hk
  have HRE : Hid (gramOkB x.parts = true → ∀ W : World, Below w.heap.size w W → Calls Tryz.prog 93 #[.agg #[.slice a0 x.parts.length c0]] W fun e w' => e = .returned (aggB (flagsOf (reachL x.parts))) ∧ Below W.heap.size W w') := fun hk W hW => reachableOf_any x.parts a0 c0 W (h0.later hW) hk
  have HEE : Hid (∀ W : World, Below w.heap.size w W → Errs W e0 e1 e2 e3) := fun W hW => hE.later hW
  have hPl := parB_length x.parts.length
  have hAl := flagsOf_length (aliveL x.parts)
  have hRl := flagsOf_length (reachL x.parts)
  obtain ⟨rv, HRV⟩ : ∃ rv, Hid (refV e0 e1 e2 e3 x.parts = rv) := ⟨_, rfl⟩
  have HR2 : Hid (refV e0 e1 e2 e3 x.parts = if gramOkB x.parts then (if loopB (startsL x.parts) then errV e1 else if decide (flagsOf (aliveL x.parts) = parB x.parts.length) then (if decide (flagsOf (reachL x.parts) = parB x.parts.length) then .nilIface else errV e3) else errV e2) else errV e0) := rfl
  rw [HRV.out] at HR2 ⊢
  clear HRV
  clear h0 hn hf hE
  generalize loopB (startsL x.parts) = lp at *
  generalize flagsOf (aliveL x.parts) = TA at *
  generalize flagsOf (reachL x.parts) = TR at *
  generalize gramOkB x.parts = ok at *
  generalize x.parts = P at *
  cases ok
  · have HF : Hid (rv = errV e0) := HR2.out
    clear HPI HAL HPR HRE HR2
    go_enter Tryz.func73, Tryz.ntmps73
    go_wp2_with fail
    refine (HOK.out _ B0).mono ?_
    rintro e w1 ⟨rfl, hb1⟩
    have B1 := B0.trans (hb1.mono B0.size)
    have q := (HEE.out w1 B1).g0
    clear HOK HEE B0 hb1
    go_wp2
    go_ret
    exact ⟨by rw [HF.out]; rfl, B1⟩
  · have HF : Hid (rv = if lp then errV e1 else if decide (TA = parB P.length) then (if decide (TR = parB P.length) then .nilIface else errV e3) else errV e2) := HR2.out
    have HPI2 : Hid (∀ W : World, Calls Tryz.prog 90 #[.agg #[.slice a0 P.length c0]] W fun e w' => e = .returned (aggB (parB P.length)) ∧ Below W.heap.size W w') := HPI.out rfl
    have HAL2 : Hid (∀ W : World, Below w.heap.size w W → Calls Tryz.prog 91 #[.agg #[.slice a0 P.length c0]] W fun e w' => e = .returned (.bool lp) ∧ Below W.heap.size W w') := HAL.out rfl
    have HPR2 : Hid (∀ W : World, Below w.heap.size w W → Calls Tryz.prog 92 #[.agg #[.slice a0 P.length c0]] W fun e w' => e = .returned (aggB TA) ∧ Below W.heap.size W w') := HPR.out rfl
    have HRE2 : Hid (∀ W : World, Below w.heap.size w W → Calls Tryz.prog 93 #[.agg #[.slice a0 P.length c0]] W fun e w' => e = .returned (aggB TR) ∧ Below W.heap.size W w') := HRE.out rfl
    clear HPI HAL HPR HRE HR2
    obtain ⟨PB, HPB⟩ : ∃ PB, Hid (parB P.length = PB) := ⟨_, rfl⟩
    rw [HPB.out] at HF HPI2 hPl
    clear HPB
    go_enter Tryz.func73, Tryz.ntmps73
    go_wp2_with fail
    refine (HOK.out _ B0).mono ?_
    rintro e w1 ⟨rfl, hb1⟩
    have g1 : w1.cell? ⟨w.heap.size, 0, none⟩ = some (.slice a0 P.length c0) := (hb1.cell (p := ⟨w.heap.size, 0, none⟩) (by simp)).trans (by simp)
    have b1 := B0.trans (hb1.mono B0.size)
    clear HOK B0 hb1
    go_wp2_with fail
    refine (HPI2.out _).mono ?_
    rintro e w2 ⟨rfl, hb2⟩
    have hl1 : w.heap.size < w1.heap.size := World.block_lt_of_cell? _ _ g1
    have g2 := (hb2.cell (p := ⟨w.heap.size, 0, none⟩) hl1).trans g1
    have b2 := b1.trans (hb2.mono b1.size)
    have hl2 : w.heap.size < w2.heap.size := World.block_lt_of_cell? _ _ g2
    clear HPI2 hb2 g1 b1 hl1
    go_wp2_with (first | (refine wpList_allocB (w := w2) rfl 119 rfl 27 bt_flags ?_; intro w3 hB3 hb3 hs3) | (refine wpList_storeB (w := w3) rfl 119 _ _ rfl w2.heap.size 0 119 _ PB rfl rfl (at27 hPl) hB3 (by rw [List.length_replicate, hPl]; decide) ?_; intro w4 hB4 hg4; rw [putB_whole (by rw [List.length_replicate]; exact hPl)] at hB4; have g4 : w4.cell? ⟨w.heap.size, 0, none⟩ = some (.slice a0 P.length c0) := (World.cell?_of_block (w := w3) (a := ⟨w.heap.size, 0, none⟩) (hg4.block w.heap.size (by omega) (some_ne (by omega)))).trans ((hb3.cell (p := ⟨w.heap.size, 0, none⟩) hl2).trans g2)))
    have b4 : Below w.heap.size w w4 := (b2.trans (hb3.mono b2.size)).grown hg4 (by have := b2.size; omega) (fun j hj => by cases hj; exact b2.size)
    clear hB3 hb3 hs3 hg4 g2 b2
    have hl4 : w.heap.size < w4.heap.size := World.block_lt_of_cell? _ _ g4
    generalize w2.heap.size = nA at *
    refine (HAL2.out _ b4).mono ?_
    rintro e w5 ⟨rfl, hb5⟩
    have b5 := b4.trans (hb5.mono b4.size)
    have g5 := (hb5.cell (p := ⟨w.heap.size, 0, none⟩) hl4).trans g4
    have hB5 := hB4.later hb5
    have hl5 : w.heap.size < w5.heap.size := World.block_lt_of_cell? _ _ g5
    clear HAL2 hb5 g4 b4 hB4 hl4 hl2
    cases lp
    · have HF2 : Hid (rv = if decide (TA = PB) then (if decide (TR = PB) then .nilIface else errV e3) else errV e2) := HF.out
      clear HF
      go_wp2_with fail
      refine wp_region_held_drew (S := fun X => X.cell? ⟨w.heap.size, 0, none⟩ = some (.slice a0 P.length c0) ∧ Bits X nA 119 PB) (by kernel_rfl) ⟨by rw [World.cell?_drew]; exact g5, hB5.later (Below.drew (Below.refl _ _))⟩ (fun hHeld => ?_)
      refine take_atL (i := 0) (d := some 15) (v := .agg #[.slice a0 P.length c0]) rfl rfl (by kernel_rfl) (by kernel_rfl) (by kernel_rfl) (fun _ _ _ h => h) (by rfl) ?_ hHeld ?_
      · intro w' hSw; obtain ⟨s0, _⟩ := hSw; go_simp; try rfl
      try simp only [Act.put, List.setIfInBounds_toArray, List.set_cons_zero, List.set_cons_succ]
      refine take_atL (i := 2) (d := some 17) (v := aggB PB) rfl rfl (by kernel_rfl) (by kernel_rfl) (by kernel_rfl) (fun _ _ _ h => h) (by rfl) ?_ hHeld ?_
      · intro w' hSw; exact exec_loadW (t := 119) (b := nA) rfl rfl (at27 hPl) hSw.2
      try simp only [Act.put, List.setIfInBounds_toArray, List.set_cons_zero, List.set_cons_succ]
      refine wpAnyH_ready (rs := [1]) (by kernel_rfl) (by simp) ?_
      refine AllReadyH.cons (o := _) rfl (fun K hK => ?_) AllReadyH.nil
      rw [if_pos (by rfl)]
      go_simp
      refine (HPR2.out _ (Below.drew b5)).mono ?_
      rintro e w6 ⟨rfl, hb6⟩
      have b6 : Below w.heap.size w w6 := (Below.drew b5).trans (hb6.mono (Below.drew b5).size)
      have k6 : Below w5.heap.size w5 w6 := Below.drewed (by simpa using hb6)
      have g6 := (k6.cell (p := ⟨w.heap.size, 0, none⟩) hl5).trans g5
      have hB6 := hB5.later k6
      have hl6 : w.heap.size < w6.heap.size := World.block_lt_of_cell? _ _ g6
      go_wp2_with fail
      refine hK.out _ _ ⟨g6, hB6⟩ (fun hHeld => ?_)
      clear hK K
      try simp only [Act.put, List.setIfInBounds_toArray, List.set_cons_zero, List.set_cons_succ]
      refine take_atL (i := 3) (d := some 18) (v := .bool (!decide (TA = PB))) rfl rfl (by kernel_rfl) (by kernel_rfl) (by kernel_rfl) (fun _ _ _ h => h) (by rfl) ?_ hHeld ?_
      · intro w' hSw; exact exec_neqB rfl rfl rfl guard_flags (eq_flags27 hAl hPl)
      try simp only [Act.put, List.setIfInBounds_toArray, List.set_cons_zero, List.set_cons_succ]
      refine take_atL (i := 4) (d := some 14) (v := .bool (!decide (TA = PB))) rfl rfl (by kernel_rfl) (by kernel_rfl) (by kernel_rfl) (fun _ _ _ h => h) (by rfl) ?_ hHeld ?_
      · intro w' hSw; go_simp; try rfl
      try simp only [Act.put, List.setIfInBounds_toArray, List.set_cons_zero, List.set_cons_succ]
      refine wpAnyH_done (by kernel_rfl) ?_ _
      clear hHeld
      by_cases hA : TA = PB
      · have dA : decide (TA = PB) = true := decide_eq_true hA
        have HF3 : Hid (rv = if decide (TR = PB) then .nilIface else errV e3) := by show _ = _; rw [HF2.out, if_pos dA]
        rw [dA]
        clear HF2 dA hA
        go_wp2_with fail
        refine wp_region_held_drew (S := fun X => X.cell? ⟨w.heap.size, 0, none⟩ = some (.slice a0 P.length c0) ∧ Bits X nA 119 PB) (by kernel_rfl) ⟨by rw [World.cell?_drew]; exact g6, hB6.later (Below.drew (Below.refl _ _))⟩ (fun hHeld => ?_)
        refine take_atL (i := 0) (d := some 21) (v := .agg #[.slice a0 P.length c0]) rfl rfl (by kernel_rfl) (by kernel_rfl) (by kernel_rfl) (fun _ _ _ h => h) (by rfl) ?_ hHeld ?_
        · intro w' hSw; obtain ⟨s0, _⟩ := hSw; go_simp; try rfl
        try simp only [Act.put, List.setIfInBounds_toArray, List.set_cons_zero, List.set_cons_succ]
        refine take_atL (i := 2) (d := some 23) (v := aggB PB) rfl rfl (by kernel_rfl) (by kernel_rfl) (by kernel_rfl) (fun _ _ _ h => h) (by rfl) ?_ hHeld ?_
        · intro w' hSw; exact exec_loadW (t := 119) (b := nA) rfl rfl (at27 hPl) hSw.2
        try simp only [Act.put, List.setIfInBounds_toArray, List.set_cons_zero, List.set_cons_succ]
        refine wpAnyH_ready (rs := [1]) (by kernel_rfl) (by simp) ?_
        refine AllReadyH.cons (o := _) rfl (fun K hK => ?_) AllReadyH.nil
        rw [if_pos (by rfl)]
        go_simp
        refine (HRE2.out _ (Below.drew b6)).mono ?_
        rintro e w7 ⟨rfl, hb7⟩
        have b7 : Below w.heap.size w w7 := (Below.drew b6).trans (hb7.mono (Below.drew b6).size)
        have k7 : Below w6.heap.size w6 w7 := Below.drewed (by simpa using hb7)
        have g7 := (k7.cell (p := ⟨w.heap.size, 0, none⟩) hl6).trans g6
        have hB7 := hB6.later k7
        have hl7 : w.heap.size < w7.heap.size := World.block_lt_of_cell? _ _ g7
        go_wp2_with fail
        refine hK.out _ _ ⟨g7, hB7⟩ (fun hHeld => ?_)
        clear hK K
        try simp only [Act.put, List.setIfInBounds_toArray, List.set_cons_zero, List.set_cons_succ]
        refine take_atL (i := 3) (d := some 24) (v := .bool (!decide (TR = PB))) rfl rfl (by kernel_rfl) (by kernel_rfl) (by kernel_rfl) (fun _ _ _ h => h) (by rfl) ?_ hHeld ?_
        · intro w' hSw; exact exec_neqB rfl rfl rfl guard_flags (eq_flags27 hRl hPl)
        try simp only [Act.put, List.setIfInBounds_toArray, List.set_cons_zero, List.set_cons_succ]
        refine take_atL (i := 4) (d := some 20) (v := .bool (!decide (TR = PB))) rfl rfl (by kernel_rfl) (by kernel_rfl) (by kernel_rfl) (fun _ _ _ h => h) (by rfl) ?_ hHeld ?_
        · intro w' hSw; go_simp; try rfl
        try simp only [Act.put, List.setIfInBounds_toArray, List.set_cons_zero, List.set_cons_succ]
        refine wpAnyH_done (by kernel_rfl) ?_ _
        clear hHeld
        by_cases hR : TR = PB
        · have dR : decide (TR = PB) = true := decide_eq_true hR
          have HF4 : Hid (rv = .nilIface) := by show _ = _; rw [HF3.out, if_pos dR]
          rw [dR]
          clear HF3 dR hR
          go_wp2
          go_ret
          exact ⟨by rw [HF4.out]; rfl, b7⟩
        · have dR : decide (TR = PB) = false := decide_eq_false hR
          have HF4 : Hid (rv = errV e3) := by show _ = _; rw [HF3.out, if_neg (by rw [dR]; simp)]
          rw [dR]
          have q := (HEE.out w7 b7).g3
          clear HF3 dR hR HEE
          go_wp2
          go_ret
          exact ⟨by rw [HF4.out]; rfl, b7⟩
      · have dA : decide (TA = PB) = false := decide_eq_false hA
        have HF3 : Hid (rv = errV e2) := by show _ = _; rw [HF2.out, if_neg (by rw [dA]; simp)]
        rw [dA]
        have q := (HEE.out w6 b6).g2
        clear HF2 dA hA HEE
        go_wp2
        go_ret
        exact ⟨by rw [HF3.out]; rfl, b6⟩
    · have HF2 : Hid (rv = errV e1) := HF.out
      have q := (HEE.out w5 b5).g1
      clear HF HEE
      go_wp2
      go_ret
      exact ⟨by rw [HF2.out]; rfl, b5⟩

set_option maxRecDepth 100000 in
theorem codeOf_ref {w : World} {e0 e1 e2 e3 : Addr} (E : Errs w e0 e1 e2 e3) (x : Gm) (hok : gramOkB x.parts = true → x.parts.length ≤ 20) :
    Calls Tryz.prog 72 #[refV e0 e1 e2 e3 x.parts] w fun e w' => e = .returned (.int .i64 (resCheck x)) ∧ w' = w := by
  unfold refV resCheck
  by_cases h1 : gramOkB x.parts = true
  · rw [if_pos h1, if_pos h1]
    have F := Fits.of h1
    have hp := hok h1
    have h0 : 0 < x.parts.length := by
      simp only [gramOkB, Bool.and_eq_true] at h1
      have := inB_true.1 h1.1
      omega
    by_cases h2 : loopB (startsL x.parts) = true
    · rw [if_pos h2, if_pos h2]; exact codeOf_loop E
    · rw [if_neg h2, if_neg h2]
      have hA : flagsOf (aliveL x.parts) = parB x.parts.length ↔ ¬ (aliveL x.parts).length < x.parts.length := flags_all hp (growT_sorted (p := aliveE) x.parts (x.parts.length + 1)) (growT_setB (p := aliveE) x.parts (x.parts.length + 1))
      have hR : flagsOf (reachL x.parts) = parB x.parts.length ↔ ¬ (reachL x.parts).length < x.parts.length := flags_all hp (reachT_sorted x.parts (x.parts.length + 1)) (reachT_setB (SymsIn.of h1) h0 (x.parts.length + 1))
      by_cases h3 : flagsOf (aliveL x.parts) = parB x.parts.length
      · rw [if_pos (decide_eq_true h3), if_neg (hA.1 h3)]
        by_cases h4 : flagsOf (reachL x.parts) = parB x.parts.length
        · rw [if_pos (decide_eq_true h4), if_neg (hR.1 h4)]; exact codeOf_nil E
        · rw [if_neg (by simpa using h4), if_pos (Decidable.not_not.1 (fun h => h4 (hR.2 h)))]; exact codeOf_far E
      · rw [if_neg (by simpa using h3), if_pos (Decidable.not_not.1 (fun h => h3 (hA.2 h)))]; exact codeOf_dead E
  · rw [if_neg h1, if_neg h1]; exact codeOf_bad E
set_option maxRecDepth 100000 in
theorem check_at (x : Gm) (a0 : Option Addr) (c0 : Nat) (e0 e1 e2 e3 : Addr) (w : World) (h0 : RD w (.slice a0 x.parts.length c0) (slD (Lay.list (Lay.list Lay.int)) x.parts)) (hn : Lay.gram.wt x ≤ 1048576) (hf : Lay.gram.fit x) (hE : Errs w e0 e1 e2 e3) :
    Calls Tryz.prog 58 #[.agg #[.slice a0 x.parts.length c0]] w fun e w' => e = .returned (.int .i64 (resCheck x)) ∧ Below w.heap.size w w' := by
  have B0 := (Below.refl w.heap.size w).alloc (Nat.le_refl _) (.cells #[.slice a0 x.parts.length c0] 29)
  have HRF : Hid (∀ W : World, Below w.heap.size w W → Calls Tryz.prog 73 #[.agg #[.slice a0 x.parts.length c0]] W fun e w' => e = .returned (refV e0 e1 e2 e3 x.parts) ∧ Below W.heap.size W w') := fun W hW => refusalOf_any x a0 c0 e0 e1 e2 e3 W (h0.later hW) hn hf (hE.later hW)
  have HCO : Hid (∀ W : World, Below w.heap.size w W → Calls Tryz.prog 72 #[refV e0 e1 e2 e3 x.parts] W fun e w' => e = .returned (.int .i64 (resCheck x)) ∧ w' = W) := fun W hW => codeOf_ref (hE.later hW) x (fun h => (Fits.of h).parts)
  clear h0 hn hf hE
  generalize refV e0 e1 e2 e3 x.parts = rv at *
  obtain ⟨rc, Hrc⟩ : ∃ rc, Hid (resCheck x = rc) := ⟨_, rfl⟩
  rw [Hrc.out] at HCO ⊢
  clear Hrc
  generalize x.parts.length = n at *
  go_enter Tryz.func58, Tryz.ntmps58
  go_wp2_with fail
  refine (HRF.out _ B0).mono ?_
  rintro e w1 ⟨rfl, hb1⟩
  have B1 := B0.trans (hb1.mono B0.size)
  clear HRF hb1 B0
  go_wp2_with fail
  refine (HCO.out _ B1).mono ?_
  rintro e w' ⟨rfl, hw'⟩
  have hw2 := hw'.symm
  clear hw'
  subst hw2
  go_wp2
  go_ret
  exact ⟨rfl, B1⟩
end Go.Proofs.YthnppodnjokaoaaGreatDoor
namespace Go.Proofs.YthnppodnjokaoaaGreatDoor
open Go.RowKit

/-- The four variables hold four errors. -/
def ErrsIs (w : World) : Prop := ∃ e0 e1 e2 e3, Errs w e0 e1 e2 e3
theorem ErrsIs.later {w w' : World} (h : ErrsIs w) (hb : Below w.heap.size w w') : ErrsIs w' := by
  obtain ⟨e0, e1, e2, e3, h⟩ := h
  exact ⟨e0, e1, e2, e3, h.later hb⟩
theorem check_any (x : Gm) (a0 : Option Addr) (c0 : Nat) (w : World) (h0 : RD w (.slice a0 x.parts.length c0) (slD (Lay.list (Lay.list Lay.int)) x.parts)) (hn : Lay.gram.wt x ≤ 1048576) (hf : Lay.gram.fit x) (hE : ErrsIs w) :
    Calls Tryz.prog 58 #[.agg #[.slice a0 x.parts.length c0]] w fun e w' => e = .returned (.int .i64 (resCheck x)) ∧ Below w.heap.size w w' := by
  obtain ⟨e0, e1, e2, e3, h⟩ := hE
  exact check_at x a0 c0 e0 e1 e2 e3 w h0 hn hf h
theorem err_star : "*" ++ "errors.errorString" = "*errors.errorString" := by decide
theorem err_row (u : TypeId) (h : Tryz.prog.typeName? 3 u = some "*errors.errorString") : u = 158 :=
  typeName_ptr_named (nm := "errors.errorString") (by rw [err_star]; kernel_rfl) (by kernel_rfl) (by decide) u (by rw [err_star]; exact h)
theorem laid4 {P : Program} {n0 n1 n2 n3 nm : String} {x0 x1 x2 x3 : List UInt8} {W : World} {g0 g1 g2 g3 : Nat} {ti tp te ts : TypeId} {ms : Array (String × TypeId)} {f : Field}
    (h : laidMet P [(n0, .iface nm (.ptr (.agg [.lit (.string x0)]))), (n1, .iface nm (.ptr (.agg [.lit (.string x1)]))), (n2, .iface nm (.ptr (.agg [.lit (.string x2)]))), (n3, .iface nm (.ptr (.agg [.lit (.string x3)])))] W)
    (hg0 : P.globalNamed n0 = some g0) (ht0 : (P.globals[g0]?).map (·.type) = some ti) (hg1 : P.globalNamed n1 = some g1) (ht1 : (P.globals[g1]?).map (·.type) = some ti) (hg2 : P.globalNamed n2 = some g2) (ht2 : (P.globals[g2]?).map (·.type) = some ti) (hg3 : P.globalNamed n3 = some g3) (ht3 : (P.globals[g3]?).map (·.type) = some ti)
    (hi : P.underlying ti = some (.interface ms)) (hrow : ∀ u, P.typeName? 3 u = some nm → u = tp)
    (hp : P.underlying tp = some (.pointer te)) (he : P.underlying te = some (.struct #[f])) (hft : f.type = ts) (hfo : f.offset = 0) (hs : P.underlying ts = some .string) (hc : P.cellsOf te = 1) (hcs : P.cellsOf ts = 1) :
    ∃ a0 a1 a2 a3 : Addr, (W.cell? ⟨g0, 0, none⟩ = some (.iface tp (.pointer (some a0))) ∧ W.cell? ⟨g1, 0, none⟩ = some (.iface tp (.pointer (some a1))) ∧ W.cell? ⟨g2, 0, none⟩ = some (.iface tp (.pointer (some a2))) ∧ W.cell? ⟨g3, 0, none⟩ = some (.iface tp (.pointer (some a3)))) ∧
      ((∃ c t, W.heap[a0.block]? = some (.cells c t (0, 0))) ∧ (∃ c t, W.heap[a1.block]? = some (.cells c t (0, 0))) ∧ (∃ c t, W.heap[a2.block]? = some (.cells c t (0, 0))) ∧ (∃ c t, W.heap[a3.block]? = some (.cells c t (0, 0)))) ∧
      (a0 ≠ a1 ∧ a0 ≠ a2 ∧ a0 ≠ a3 ∧ a1 ≠ a2 ∧ a1 ≠ a3 ∧ a2 ≠ a3) := by
  obtain ⟨ps, ⟨g0', t0', cs0, f0, p0, q0, hg0', ht0', hv0, hd0, ⟨g1', t1', cs1, f1, p1, q1, hg1', ht1', hv1, hd1, ⟨g2', t2', cs2, f2, p2, q2, hg2', ht2', hv2, hd2, ⟨g3', t3', cs3, f3, p3, q3, hg3', ht3', hv3, hd3, eq, e3⟩, e2⟩, e1⟩, e0⟩, hnd, hrows⟩ := h
  obtain rfl := Option.some.inj (hg0.symm.trans hg0')
  obtain rfl := Option.some.inj (hg1.symm.trans hg1')
  obtain rfl := Option.some.inj (hg2.symm.trans hg2')
  obtain rfl := Option.some.inj (hg3.symm.trans hg3')
  obtain rfl := Option.some.inj (ht0.symm.trans ht0')
  obtain rfl := Option.some.inj (ht1.symm.trans ht1')
  obtain rfl := Option.some.inj (ht2.symm.trans ht2')
  obtain rfl := Option.some.inj (ht3.symm.trans ht3')
  subst e3
  subst e2
  subst e1
  subst e0
  obtain ⟨l0⟩ := cs0
  obtain ⟨l1⟩ := cs1
  obtain ⟨l2⟩ := cs2
  obtain ⟨l3⟩ := cs3
  have ok0 : ∀ u v, l0 = [.iface u v] → Value.okWide P W .any 0 u v := fun u v e => by
    subst e
    exact (hrows g0 0 (by simp [MemPlace.row])).2 u v (by simpa using World.var?_cell hg0' hv0 0)
  have ok1 : ∀ u v, l1 = [.iface u v] → Value.okWide P W .any 0 u v := fun u v e => by
    subst e
    exact (hrows g1 0 (by simp [MemPlace.row])).2 u v (by simpa using World.var?_cell hg1' hv1 0)
  have ok2 : ∀ u v, l2 = [.iface u v] → Value.okWide P W .any 0 u v := fun u v e => by
    subst e
    exact (hrows g2 0 (by simp [MemPlace.row])).2 u v (by simpa using World.var?_cell hg2' hv2 0)
  have ok3 : ∀ u v, l3 = [.iface u v] → Value.okWide P W .any 0 u v := fun u v e => by
    subst e
    exact (hrows g3 0 (by simp [MemPlace.row])).2 u v (by simpa using World.var?_cell hg3' hv3 0)
  obtain ⟨a0, s0, rfl, hc0, hs0, hz0, rfl⟩ := errorString_of_trod hi hrow hp he hft hfo hs hc hcs hd0 ok0
  obtain ⟨a1, s1, rfl, hc1, hs1, hz1, rfl⟩ := errorString_of_trod hi hrow hp he hft hfo hs hc hcs hd1 ok1
  obtain ⟨a2, s2, rfl, hc2, hs2, hz2, rfl⟩ := errorString_of_trod hi hrow hp he hft hfo hs hc hcs hd2 ok2
  obtain ⟨a3, s3, rfl, hc3, hs3, hz3, rfl⟩ := errorString_of_trod hi hrow hp he hft hfo hs hc hcs hd3 ok3
  refine ⟨a0, a1, a2, a3, ⟨by simpa using World.var?_cell hg0' hv0 0, by simpa using World.var?_cell hg1' hv1 0, by simpa using World.var?_cell hg2' hv2 0, by simpa using World.var?_cell hg3' hv3 0⟩,
    ⟨(hrows a0.block a0.off (by simp [MemPlace.row])).1, (hrows a1.block a1.off (by simp [MemPlace.row])).1, (hrows a2.block a2.off (by simp [MemPlace.row])).1, (hrows a3.block a3.off (by simp [MemPlace.row])).1⟩, ?_, ?_, ?_, ?_, ?_, ?_⟩
  all_goals
    rintro rfl
    simp [MemPlace.row] at hnd
theorem errs_laid {W : World} (h : laidMet Tryz.prog Rows.fnExactChooseRow.laid W) : ErrsIs W := by
  obtain ⟨a0, a1, a2, a3, ⟨c0, c1, c2, c3⟩, ⟨r0, r1, r2, r3⟩, n01, n02, n03, n12, n13, n23⟩ := laid4 h (ti := 101) (tp := 158) (te := 183) (ts := 9) (g0 := 0) (g1 := 1) (g2 := 2) (g3 := 3) (by kernel_rfl) (by kernel_rfl) (by kernel_rfl) (by kernel_rfl) (by kernel_rfl) (by kernel_rfl) (by kernel_rfl) (by kernel_rfl) Tryz.underlying101 err_row Tryz.underlying158 Tryz.underlying183 rfl rfl Tryz.underlying9 (by kernel_rfl) (by kernel_rfl)
  exact ⟨a0, a1, a2, a3, c0, c1, c2, c3, r0, r1, r2, r3, n01, n02, n03, n12, n13, n23⟩
end Go.Proofs.YthnppodnjokaoaaGreatDoor
namespace Go.Proofs.YthnppodnjokaoaaGreatDoor
open Go.RowKit

set_option maxHeartbeats 1000000 in
set_option maxRecDepth 100000 in
theorem canBeAsked_any (x : Gm) (a0 : Option Addr) (c0 : Nat) (ws : List Int) (aw : Option Addr) (cw : Nat) (w : World) (h0 : RD w (.slice a0 x.parts.length c0) (slD (Lay.list (Lay.list Lay.int)) x.parts)) (h1 : RD w (.slice aw ws.length cw) (slD Lay.int ws)) (hn : Lay.gram.wt x ≤ 1048576) (hf : Lay.gram.fit x) (hl : ws.length ≤ 1048576) (hz : (Lay.list Lay.int).fit ws) (hE : ErrsIs w) :
    Calls Tryz.prog 41 #[.agg #[.slice a0 x.parts.length c0], .slice aw ws.length cw] w fun e w' => e = .returned (.bool (inputOkB ws && decide (resCheck x = 0))) ∧ Below w.heap.size w w' := by
  have B0 := (Below.refl w.heap.size w).alloc (Nat.le_refl _) (.cells #[.slice a0 x.parts.length c0] 29)
  have HI : Hid (∀ W : World, Below w.heap.size w W → Calls Tryz.prog 57 #[.slice aw ws.length cw] W fun e w' => e = .returned (.bool (inputOkB ws)) ∧ Below W.heap.size W w') := fun W hW => inputOk_any ws aw cw W (h1.later hW) hl hz
  have HK : Hid (∀ W : World, Below w.heap.size w W → Calls Tryz.prog 58 #[.agg #[.slice a0 x.parts.length c0]] W fun e w' => e = .returned (.int .i64 (resCheck x)) ∧ Below W.heap.size W w') := fun W hW => check_any x a0 c0 W (h0.later hW) hn hf (hE.later hW)
  have hgl : w.heap.size < (w.alloc (.cells #[.slice a0 x.parts.length c0] 29)).heap.size := by simp
  have qg : (w.alloc (.cells #[.slice a0 x.parts.length c0] 29)).cell? ⟨w.heap.size, 0, none⟩ = some (.slice a0 x.parts.length c0) := by simp
  clear h0 h1 hn hf hl hz hE
  generalize resCheck x = rc at *
  generalize x.parts = P at *
  by_cases hi : inputOkB ws = true
  · rw [hi] at HI ⊢
    by_cases hc : rc = 0
    · subst hc
      go_enter Tryz.func41, Tryz.ntmps41
      go_wp2_with (first | (go_at_call 57; refine (HI.out _ B0).mono ?_; rintro e w1 ⟨rfl, hb1⟩; have g1 := (hb1.cell (p := ⟨w.heap.size, 0, none⟩) hgl).trans qg; have B1 := B0.trans (hb1.mono B0.size)) | (go_at_call 58; refine (HK.out _ B1).mono ?_; rintro e w2 ⟨rfl, hb2⟩))
      go_ret
      exact ⟨rfl, B1.trans (hb2.mono B1.size)⟩
    · have hcb : (rc == 0) = false := by simp [hc]
      go_enter Tryz.func41, Tryz.ntmps41
      go_wp2_with (first | (go_at_call 57; refine (HI.out _ B0).mono ?_; rintro e w1 ⟨rfl, hb1⟩; have g1 := (hb1.cell (p := ⟨w.heap.size, 0, none⟩) hgl).trans qg; have B1 := B0.trans (hb1.mono B0.size)) | (go_at_call 58; refine (HK.out _ B1).mono ?_; rintro e w2 ⟨rfl, hb2⟩))
      go_ret
      exact ⟨ret_bool (by simp [hc]), B1.trans (hb2.mono B1.size)⟩
  · have hi' : inputOkB ws = false := by simpa using hi
    rw [hi'] at HI ⊢
    clear hi hi'
    go_enter Tryz.func41, Tryz.ntmps41
    go_wp2_with (go_at_call 57; refine (HI.out _ B0).mono ?_; rintro e w1 ⟨rfl, hb1⟩)
    go_ret
    exact ⟨rfl, B0.trans (hb1.mono B0.size)⟩
end Go.Proofs.YthnppodnjokaoaaGreatDoor
namespace Go.Proofs.YthnppodnjokaoaaGreatDoor
open Go.RowKit

set_option maxHeartbeats 1000000 in
set_option maxRecDepth 100000 in
theorem canBeAskedAt_any (x : Gm) (a0 : Option Addr) (c0 : Nat) (z2 : List Int) (a2 : Option Addr) (c2 : Nat) (n : Int) (w : World) (h0 : RD w (.slice a0 x.parts.length c0) (slD (Lay.list (Lay.list Lay.int)) x.parts)) (h2 : RD w (.slice a2 z2.length c2) (slD Lay.int z2)) (hn : Lay.gram.wt x ≤ 1048576) (hf : Lay.gram.fit x) (hl2 : z2.length ≤ 1048576) (hz2 : (Lay.list Lay.int).fit z2) (wf : (Lit.int .i64 n).wf = true) (hE : ErrsIs w) :
    Calls Tryz.prog 28 #[.agg #[.slice a0 x.parts.length c0], .slice a2 z2.length c2, .int .i64 n] w fun e w' => e = .returned (.bool (rightAt x z2 n)) ∧ Below w.heap.size w w' := by
  have B0 := (Below.refl w.heap.size w).alloc (Nat.le_refl _) (.cells #[.slice a0 x.parts.length c0] 29)
  have HK : Hid (∀ W : World, Below w.heap.size w W → Calls Tryz.prog 41 #[.agg #[.slice a0 x.parts.length c0], .slice a2 z2.length c2] W fun e w' => e = .returned (.bool (inputOkB z2 && decide (resCheck x = 0))) ∧ Below W.heap.size W w') := fun W hW => canBeAsked_any x a0 c0 z2 a2 c2 W (h0.later hW) (h2.later hW) hn hf hl2 hz2 (hE.later hW)
  have HR : Hid (rightAt x z2 n = ((inputOkB z2 && decide (resCheck x = 0)) && inB n 0 z2.length)) := by
    show _ = _
    unfold rightAt
    cases inputOkB z2 <;> cases decide (resCheck x = 0) <;> rfl
  have hwf := wf_i64 wf
  clear h0 h2 hn hf hz2 hE wf
  generalize rightAt x z2 n = R at *
  generalize (inputOkB z2 && decide (resCheck x = 0)) = b at *
  generalize x.parts = P at *
  cases b
  · have E : Hid (R = false) := by show _ = _; rw [HR.out]; rfl
    go_enter Tryz.func28, Tryz.ntmps28
    go_wp2_with (go_at_call 41; refine (HK.out _ B0).mono ?_; rintro e w1 ⟨rfl, hb1⟩; have B1 := B0.trans (hb1.mono B0.size))
    go_ret
    exact ⟨ret_bool E.out.symm, B1⟩
  · by_cases h1 : 0 ≤ n
    · by_cases h2 : n ≤ z2.length
      · have E : Hid (R = true) := by show _ = _; rw [HR.out, Bool.true_and, inB_true]; exact ⟨h1, h2⟩
        go_enter Tryz.func28, Tryz.ntmps28
        go_wp2_with (go_at_call 41; refine (HK.out _ B0).mono ?_; rintro e w1 ⟨rfl, hb1⟩; have B1 := B0.trans (hb1.mono B0.size))
        go_ret
        exact ⟨ret_bool E.out.symm, B1⟩
      · have E : Hid (R = false) := by
          show _ = _
          rw [HR.out, Bool.true_and]
          cases e : inB n 0 z2.length
          · rfl
          · rw [inB_true] at e; exact absurd e.2 h2
        go_enter Tryz.func28, Tryz.ntmps28
        go_wp2_with (go_at_call 41; refine (HK.out _ B0).mono ?_; rintro e w1 ⟨rfl, hb1⟩; have B1 := B0.trans (hb1.mono B0.size))
        go_ret
        exact ⟨ret_bool (by rw [E.out]; exact decide_eq_false (by omega)), B1⟩
    · have E : Hid (R = false) := by
        show _ = _
        rw [HR.out, Bool.true_and]
        cases e : inB n 0 z2.length
        · rfl
        · rw [inB_true] at e; exact absurd e.1 h1
      go_enter Tryz.func28, Tryz.ntmps28
      go_wp2_with (go_at_call 41; refine (HK.out _ B0).mono ?_; rintro e w1 ⟨rfl, hb1⟩; have B1 := B0.trans (hb1.mono B0.size))
      go_ret
      exact ⟨ret_bool E.out.symm, B1⟩
set_option maxHeartbeats 1000000 in
set_option maxRecDepth 100000 in
theorem canGo_any (n : Nat) (a : Option Addr) (c : Nat) (row : List Int) (ar : Option Addr) (cr : Nat) (w : World) (hr : Reads w ar row) (hn : n ≤ 1048576) (hl : row.length ≤ 4194304) (hz : ∀ z ∈ row, -9223372036854775808 ≤ z ∧ z ≤ 9223372036854775807) :
    Calls Tryz.prog 44 #[.agg #[.slice a n c], .slice ar row.length cr] w fun e w' => e = .returned (.bool (knownB n row)) ∧ Below w.heap.size w w' := by
  have B0 := (Below.refl w.heap.size w).alloc (Nat.le_refl _) (.cells #[.slice a n c] 29)
  by_cases hlong : row.length ≤ 200
  · have hI : (row.length : Int) ≤ 200 := by omega
    have HS := symbolsOf_any n a c row ar cr _ (hr.below B0) hn (by omega) hz
    have E : Hid (knownB n row = row.all (symOk n)) := by show _ = _; simp [knownB, hlong]
    generalize knownB n row = R at *
    generalize row.all (symOk n) = s at *
    clear hr hz
    go_enter Tryz.func44, Tryz.ntmps44
    go_wp2_with (go_at_call 61; refine HS.mono ?_; rintro e w1 ⟨rfl, hb1⟩)
    go_ret
    exact ⟨ret_bool (by rw [E.out]), B0.trans (hb1.mono B0.size)⟩
  · have hI : ¬ (row.length : Int) ≤ 200 := by omega
    rw [knownB_long hlong]
    go_enter Tryz.func44, Tryz.ntmps44
    go_wp2
    go_ret
    exact ⟨rfl, B0⟩
end Go.Proofs.YthnppodnjokaoaaGreatDoor
namespace Go.Proofs.YthnppodnjokaoaaGreatDoor
open Go.RowKit

/-- The value of such a row. -/
def aggV (vs : List Value) : Value := .agg vs.toArray
/-- Block b is such a row. -/
def Vals (w : World) (b : Nat) (t : TypeId) (vs : List Value) : Prop := w.heap[b]? = some (.cells vs.toArray t)
/-- Each has one cell. -/
def Ones (vs : List Value) : Prop := ∀ v ∈ vs, v.oneCell' = true
theorem Ones.all {vs : List Value} (h : Ones vs) : vs.toArray.all (·.oneCell') = true := Array.all_eq_true_iff_forall_mem.2 fun v hv => h v (by simpa using hv)
theorem Ones.part {vs : List Value} (h : Ones vs) (o n : Nat) : Ones ((vs.drop o).take n) := fun v hv => h v (List.mem_of_mem_drop (List.mem_of_mem_take hv))
section
variable {w w' : World} {b : Nat} {t : TypeId} {vs : List Value}
theorem Vals.lt (h : Vals w b t vs) : b < w.heap.size := (Array.getElem?_eq_some_iff.1 h).1
theorem Vals.cell (h : Vals w b t vs) (n : Nat) : w.cell? ⟨b, n, none⟩ = vs[n]? := by
  rw [cell_of_row w b n _ t (0, 0) h]
  simp
theorem Vals.frozen (h : Vals w b t vs) (n : Nat) : w.frozen? ⟨b, n, none⟩ = false := by
  unfold Vals at h
  simp [World.frozen?, h]
theorem Vals.kept (h : Vals w b t vs) (hb : w'.heap[b]? = w.heap[b]?) : Vals w' b t vs := by unfold Vals at *; rw [hb]; exact h
theorem Vals.below (h : Vals w b t vs) {N : Nat} (hb : Below N w w') (hN : b < N) : Vals w' b t vs := h.kept (hb.block b hN)
theorem Vals.later (h : Vals w b t vs) (hb : Below w.heap.size w w') : Vals w' b t vs := h.below hb h.lt
theorem Vals.grown (h : Vals w b t vs) {row : Option Nat} (hg : w.grownBy w' row) (hne : row ≠ some b) : Vals w' b t vs := h.kept (hg.block b h.lt (fun e => hne e.symm))
theorem Vals.set (h : Vals w b t vs) (n : Nat) (v : Value) : Vals (w.setCell ⟨b, n, none⟩ v) b t (vs.set n v) := by
  unfold Vals at *
  have e : (vs.set n v).toArray = vs.toArray.setIfInBounds n v := by simp
  rw [e]
  simp [World.setCell, Array.getElem?_modify, h]
theorem Vals.range (h : Vals w b t vs) (o n : Nat) : w.rangeAt b o ((vs.drop o).take n) := by
  intro j v hv
  rw [cell_of_row w b (o + j) _ t (0, 0) h]
  rw [List.getElem?_take] at hv
  split at hv
  · rw [List.getElem?_drop] at hv; simpa using hv
  · simp at hv
theorem Vals.there (h : Vals w b t vs) (o n : Nat) (hn : o + n ≤ vs.length) : w.there b o n := fun j hj => ⟨by rw [h.cell]; simp; omega, h.frozen _⟩
end
theorem Vals.new (w : World) (t : TypeId) (vs : List Value) : Vals (w.alloc (.cells vs.toArray t)) w.heap.size t vs := by
  exact heap_alloc_new w _

/-- What is there behind the values cs are put in from o on. -/
def putV : List Value → Nat → List Value → List Value
  | vs, _, [] => vs
  | vs, o, v :: r => putV (vs.set o v) (o + 1) r
theorem putV_length : ∀ (cs : List Value) (vs : List Value) (o : Nat), (putV vs o cs).length = vs.length
  | [], _, _ => rfl
  | v :: r, vs, o => by rw [putV, putV_length r]; simp
theorem putV_get : ∀ (cs : List Value) (vs : List Value) (o i : Nat), o + cs.length ≤ vs.length → (putV vs o cs)[i]? = if o ≤ i ∧ i < o + cs.length then cs[i - o]? else vs[i]?
  | [], vs, o, i, _ => by rw [putV, if_neg (by simp)]
  | v :: r, vs, o, i, h => by
    simp only [List.length_cons] at h
    rw [putV, putV_get r (vs.set o v) (o + 1) i (by simp; omega)]
    simp only [List.length_cons]
    by_cases e : i = o
    · subst e
      rw [if_neg (by omega), if_pos (by omega), Nat.sub_self]
      simp [show i < vs.length by omega]
    · by_cases g : o + 1 ≤ i ∧ i < o + 1 + r.length
      · rw [if_pos g, if_pos (by omega), show i - o = (i - (o + 1)) + 1 by omega]
        rfl
      · rw [if_neg g, if_neg (by omega)]
        simp [Ne.symm e]
theorem putV_whole {vs cs : List Value} (h : cs.length = vs.length) : putV vs 0 cs = cs := by
  apply List.ext_getElem?
  intro i
  rw [putV_get _ _ _ _ (by omega)]
  by_cases e : i < cs.length
  · rw [if_pos (by omega), Nat.sub_zero]
  · rw [if_neg (by omega), List.getElem?_eq_none (by omega), List.getElem?_eq_none (by omega)]
theorem setCells_vals : ∀ (cs vs : List Value) (o : Nat) (w : World) (b : Nat) (t : TypeId), Vals w b t vs → Vals (w.setCells b o cs) b t (putV vs o cs) ∧ w.grownBy (w.setCells b o cs) (some b)
  | [], vs, o, w, b, t, h => ⟨h, World.grownBy.refl _ _⟩
  | v :: r, vs, o, w, b, t, h => by
    rw [World.setCells, putV]
    have := setCells_vals r (vs.set o v) (o + 1) _ b t (h.set o v)
    exact ⟨this.1, grownBy_trans (setCell_grown w b o _) this.2⟩

section
variable {P : Program}
/-- A type of such rows: its cells, its form. -/
structure RowT (P : Program) (ty : TypeId) (zs : List Value) : Prop where
  info : (P.info? ty).map (fun i => (i.zero, i.size)) = some (some (aggV zs), zs.length)
  desc : ∃ d, P.underlying ty = some d ∧ d.isRow = true
theorem RowT.size {ty : TypeId} {zs : List Value} (h : RowT P ty zs) : (P.info? ty).map (·.size) = some zs.length := by
  have := h.info
  cases hq : P.info? ty with
  | none => simp [hq] at this
  | some i => simp [hq] at this; simp [this.2]
theorem RowT.zero {ty : TypeId} {zs : List Value} (h : RowT P ty zs) (w : World) : (zeroValue ty).run P w = .ok (aggV zs) w := by
  have := h.info
  cases hq : P.info? ty with
  | none => simp [hq] at this
  | some i => simp [hq] at this; simp [zeroValue, typeInfo, hq, this.1]
/-- The whole row, or a part of it, is read. -/
theorem exec_loadV {ρ : Operand → Value} {o : Oper} {w : World} {ty t : TypeId} {x : Operand} {b off : Nat} {vs zs : List Value} (ho : o.op = .load ty x) (hx : ρ x = .pointer (some ⟨b, off, none⟩)) (hT : RowT P ty zs) (hB : Vals w b t vs) (hn : off + zs.length ≤ vs.length) :
    (execOp ρ o).run P w = .ok (.value (aggV ((vs.drop off).take zs.length))) w := by
  obtain ⟨d, hu, hd⟩ := hT.desc
  have hl : ((vs.drop off).take zs.length).length = zs.length := by simp; omega
  have := run_loadVar_mid (P := P) w b off ty ((vs.drop off).take zs.length) d (hB.range off zs.length) hu hd (by rw [hl]; exact hT.size)
  unfold execOp
  simp only [ho, hx, Instr.loadAt, Instr.sureAddr, Sem.run_bind, Sem.run_pure, Result.andThen_ok, this]
  rfl
theorem exec_loadVW {ρ : Operand → Value} {o : Oper} {w : World} {ty t : TypeId} {x : Operand} {b : Nat} {vs zs : List Value} (ho : o.op = .load ty x) (hx : ρ x = .pointer (some ⟨b, 0, none⟩)) (hT : RowT P ty zs) (hl : vs.length = zs.length) (hB : Vals w b t vs) :
    (execOp ρ o).run P w = .ok (.value (aggV vs)) w := by
  have := exec_loadV (P := P) ho hx hT hB (by omega)
  rw [List.drop_zero, List.take_of_length_le (by omega)] at this
  exact this
/-- It is stored. -/
theorem exec_storeV {ρ : Operand → Value} {o : Oper} {w : World} {ty t : TypeId} {x y : Operand} {b off : Nat} {vs cs zs : List Value} (ho : o.op = .store ty x y) (hx : ρ x = .pointer (some ⟨b, off, none⟩)) (hy : ρ y = aggV cs) (hT : RowT P ty zs) (hl : cs.length = zs.length) (hB : Vals w b t vs) (hn : off + cs.length ≤ vs.length) (h1 : Ones cs) :
    ∃ w', (execOp ρ o).run P w = .ok .skip w' ∧ Vals w' b t (putV vs off cs) ∧ w.grownBy w' (some b) := by
  have h1 := run_storeVar_mid (P := P) w b off ty cs.toArray (hB.there off _ (by simpa using hn)) (by rw [hT.size, ← hl]; simp) h1.all
  have h2 := setCells_vals cs vs off w b t hB
  refine ⟨_, ?_, h2.1, h2.2⟩
  unfold execOp
  simp only [ho, hx, hy, aggV, Instr.storeAt, Instr.sureAddr, Sem.run_bind, Sem.run_pure, Result.andThen_ok, h1]
theorem exec_boxV {ρ : Operand → Value} {o : Oper} {w : World} {ty : TypeId} {x : Operand} {vs : List Value} (ho : o.op = .box ty x) (hx : ρ x = aggV vs) :
    ∃ w', (execOp ρ o).run P w = .ok (.value (.pointer (some ⟨w.heap.size, 0, none⟩))) w' ∧ Vals w' w.heap.size ty vs ∧ Below w.heap.size w w' ∧ w'.heap.size = w.heap.size + 1 := by
  refine ⟨w.alloc (.cells vs.toArray ty), ?_, Vals.new w ty vs, (Below.refl _ _).alloc (Nat.le_refl _) _, by simp⟩
  unfold execOp
  simp only [ho, hx, aggV, Instr.box, newVar, newRow, Value.cells]
  simp
theorem exec_allocV {ρ : Operand → Value} {o : Oper} {w : World} {ty : TypeId} {zs : List Value} (ho : o.op = .alloc ty) (hT : RowT P ty zs) :
    ∃ w', (execOp ρ o).run P w = .ok (.value (.pointer (some ⟨w.heap.size, 0, none⟩))) w' ∧ Vals w' w.heap.size ty zs ∧ Below w.heap.size w w' ∧ w'.heap.size = w.heap.size + 1 := by
  refine ⟨w.alloc (.cells zs.toArray ty), ?_, Vals.new w ty _, (Below.refl _ _).alloc (Nat.le_refl _) _, by simp⟩
  unfold execOp
  simp only [ho, Instr.alloc, newVar, newRow, Sem.run_bind, hT.zero, aggV, Result.andThen_ok, Value.cells]
  simp
theorem wpList_boxV {ops : Array Oper} {rest : List Oper} {o : Oper} {a : Act} {w : World} {Q : Exit → Act → World → Prop} (hgd : Region.wanted o (yielded ops a.tmps) = true) (ty : TypeId) (x : Operand) (ho : o.op = .box ty x) (vs : List Value) (hx : a.eval x = aggV vs)
    (h : ∀ w', Vals w' w.heap.size ty vs → Below w.heap.size w w' → w'.heap.size = w.heap.size + 1 → wpList P ops Q rest (a.put o.dst (.pointer (some ⟨w.heap.size, 0, none⟩))) w') : wpList P ops Q (o :: rest) a w := by
  obtain ⟨w', h1, h2, h3, h4⟩ := exec_boxV (P := P) (w := w) ho hx
  exact wpList_val hgd h1 (h w' h2 h3 h4)
theorem wpList_allocV {ops : Array Oper} {rest : List Oper} {o : Oper} {a : Act} {w : World} {Q : Exit → Act → World → Prop} (hgd : Region.wanted o (yielded ops a.tmps) = true) (ty : TypeId) (ho : o.op = .alloc ty) (zs : List Value) (hT : RowT P ty zs)
    (h : ∀ w', Vals w' w.heap.size ty zs → Below w.heap.size w w' → w'.heap.size = w.heap.size + 1 → wpList P ops Q rest (a.put o.dst (.pointer (some ⟨w.heap.size, 0, none⟩))) w') : wpList P ops Q (o :: rest) a w := by
  obtain ⟨w', h1, h2, h3, h4⟩ := exec_allocV (P := P) (w := w) (ρ := a.eval) ho hT
  exact wpList_val hgd h1 (h w' h2 h3 h4)
theorem wpList_loadV {ops : Array Oper} {rest : List Oper} {o : Oper} {a : Act} {w : World} {Q : Exit → Act → World → Prop} (hgd : Region.wanted o (yielded ops a.tmps) = true) (ty : TypeId) (x : Operand) (ho : o.op = .load ty x) (b off : Nat) (t : TypeId) (vs zs : List Value) (hx : a.eval x = .pointer (some ⟨b, off, none⟩)) (hT : RowT P ty zs) (hB : Vals w b t vs) (hn : off + zs.length ≤ vs.length)
    (h : wpList P ops Q rest (a.put o.dst (aggV ((vs.drop off).take zs.length))) w) : wpList P ops Q (o :: rest) a w :=
  wpList_val hgd (exec_loadV ho hx hT hB hn) h
theorem wpList_loadVW {ops : Array Oper} {rest : List Oper} {o : Oper} {a : Act} {w : World} {Q : Exit → Act → World → Prop} (hgd : Region.wanted o (yielded ops a.tmps) = true) (ty : TypeId) (x : Operand) (ho : o.op = .load ty x) (b : Nat) (t : TypeId) (vs zs : List Value) (hx : a.eval x = .pointer (some ⟨b, 0, none⟩)) (hT : RowT P ty zs) (hl : vs.length = zs.length) (hB : Vals w b t vs)
    (h : wpList P ops Q rest (a.put o.dst (aggV vs)) w) : wpList P ops Q (o :: rest) a w :=
  wpList_val hgd (exec_loadVW ho hx hT hl hB) h
theorem wpList_storeV {ops : Array Oper} {rest : List Oper} {o : Oper} {a : Act} {w : World} {Q : Exit → Act → World → Prop} (hgd : Region.wanted o (yielded ops a.tmps) = true) (ty : TypeId) (x y : Operand) (ho : o.op = .store ty x y) (b off : Nat) (t : TypeId) (vs cs zs : List Value) (hx : a.eval x = .pointer (some ⟨b, off, none⟩)) (hy : a.eval y = aggV cs) (hT : RowT P ty zs) (hl : cs.length = zs.length) (hB : Vals w b t vs) (hn : off + cs.length ≤ vs.length) (h1 : Ones cs)
    (h : ∀ w', Vals w' b t (putV vs off cs) → w.grownBy w' (some b) → wpList P ops Q rest (a.put o.dst undef) w') : wpList P ops Q (o :: rest) a w := by
  obtain ⟨w', h1, h2, h3⟩ := exec_storeV (P := P) ho hx hy hT hl hB hn h1
  exact wpList_unit hgd h1 (h w' h2 h3)
theorem ret_cellV {fn : Func} {p : Tmp} {tmps : Array Value} {w : World} {g : Nat} {t : TypeId} {vs zs : List Value} (ty : TypeId) (h : fn.results = #[.cell p ty]) (hp : tmps.getD p undef = .pointer (some ⟨g, 0, none⟩)) (hB : Vals w g t vs) (hT : RowT P ty zs) (hl : vs.length = zs.length) : (results fn tmps).run P w = .ok (aggV vs) w := by
  obtain ⟨d, hu, hd⟩ := hT.desc
  exact results_cell_row h tmps w g t vs.toArray (0, 0) d hp hB hu (by cases d <;> first | rfl | cases hd) (by rw [hT.size, ← hl]; simp)
end
end Go.Proofs.YthnppodnjokaoaaGreatDoor
namespace Go.Proofs.YthnppodnjokaoaaGreatDoor
open Go.RowKit

/-- Its values. -/
def strV (f : Nat) (v : Nat → Nat) : List Value := .int .i64 (f : Int) :: (eB v).map Value.bool
def strZ : List Value := .int .i64 0 :: List.replicate 11 (.bool false)
def placesZ : List Value := List.replicate 11 (.bool false)
/-- Block b is a stretch. -/
def Str (w : World) (b f : Nat) (v : Nat → Nat) : Prop := Vals w b 92 (strV f v)
theorem strV_length (f : Nat) (v : Nat → Nat) : (strV f v).length = 12 := by simp [strV, eB_length]
theorem strZ_length : strZ.length = 12 := rfl
theorem strV_ones (f : Nat) (v : Nat → Nat) : Ones (strV f v) := fun u hu => by
  simp only [strV, List.mem_cons, List.mem_map] at hu
  rcases hu with rfl | ⟨x, _, rfl⟩ <;> rfl
theorem strV_congr {f : Nat} {u v : Nat → Nat} (h : ∀ j, j < 11 → (u j ≠ 0 ↔ v j ≠ 0)) : strV f u = strV f v := by unfold strV; rw [eB_congr h]
theorem strV_none (f : Nat) : strV f (fun _ => 0) = .int .i64 (f : Int) :: List.replicate 11 (.bool false) := by unfold strV; rw [eB_none]; rfl
theorem strV_ends (f : Nat) (v : Nat → Nat) : aggV (((strV f v).drop 1).take placesZ.length) = aggB (eB v) := by
  show aggV ((((eB v).map Value.bool)).take 11) = _
  rw [List.take_of_length_le (by simp [eB_length])]; rfl
set_option maxRecDepth 100000 in
theorem rt_str : RowT Tryz.prog 92 strZ := ⟨by kernel_rfl, row_of (by kernel_rfl)⟩
set_option maxRecDepth 100000 in
theorem rt_places : RowT Tryz.prog 90 placesZ := ⟨by kernel_rfl, row_of (by kernel_rfl)⟩
set_option maxRecDepth 100000 in
theorem bt_places : BitT Tryz.prog 90 11 := ⟨by kernel_rfl, row_of (by kernel_rfl)⟩
theorem u_places : Tryz.prog.underlying 90 = some (.array 11 4) := by kernel_rfl
section
variable {w w' : World} {b f : Nat} {v : Nat → Nat}
theorem Str.lt (h : Str w b f v) : b < w.heap.size := Vals.lt h
theorem Str.kept (h : Str w b f v) (hb : w'.heap[b]? = w.heap[b]?) : Str w' b f v := Vals.kept h hb
theorem Str.later (h : Str w b f v) (hb : Below w.heap.size w w') : Str w' b f v := Vals.later h hb
theorem Str.grown (h : Str w b f v) {row : Option Nat} (hg : w.grownBy w' row) (hne : row ≠ some b) : Str w' b f v := Vals.grown h hg hne
theorem Str.far (h : Str w b f v) : w.cell? ⟨b, 0, none⟩ = some (.int .i64 (f : Int)) := by rw [Vals.cell h]; rfl
theorem Str.frozen (h : Str w b f v) (i : Nat) : w.frozen? ⟨b, i, none⟩ = false := Vals.frozen h i
theorem Str.end (h : Str w b f v) {j : Nat} (hj : j < 11) : w.cell? ⟨b, 1 + j, none⟩ = some (.bool (decide (v j ≠ 0))) := by
  rw [Vals.cell h, Nat.add_comm]
  show ((eB v).map Value.bool)[j]? = _
  rw [List.getElem?_map, List.getElem?_eq_getElem (by rw [eB_length]; exact hj), eB_get v hj]; rfl
theorem Str.setF (h : Str w b f v) (n : Nat) : Str (w.setCell ⟨b, 0, none⟩ (.int .i64 (n : Int))) b n v := Vals.set h 0 (.int .i64 (n : Int))
theorem eB_set (v : Nat → Nat) {j : Nat} (x : Bool) : (eB v).set j x = eB (fun i => if i = j then (if x then 1 else 0) else v i) := by
  apply List.ext_getElem (by simp [eB])
  intro i h1 h2
  simp only [List.getElem_set, eB, List.getElem_map, List.getElem_range]
  by_cases e : j = i
  · subst e; cases x <;> simp
  · rw [if_neg e, if_neg (fun h => e h.symm)]
theorem Str.setE (h : Str w b f v) {j : Nat} (x : Bool) : Str (w.setCell ⟨b, 1 + j, none⟩ (.bool x)) b f (fun i => if i = j then (if x then 1 else 0) else v i) := by
  have := Vals.set h (1 + j) (.bool x)
  unfold Str
  have e : (strV f v).set (1 + j) (.bool x) = strV f (fun i => if i = j then (if x then 1 else 0) else v i) := by
    rw [Nat.add_comm]
    show .int .i64 (f : Int) :: ((eB v).map Value.bool).set j (.bool x) = _
    rw [← List.map_set, eB_set]; rfl
  rwa [e] at this
theorem Str.congr (h : Str w b f v) {u : Nat → Nat} (he : ∀ j, j < 11 → (v j ≠ 0 ↔ u j ≠ 0)) : Str w b f u := by unfold Str at *; rwa [strV_congr he] at h
end
/-- The literal of one with a place and no end. -/
theorem exec_str1 {ρ : Operand → Value} {o : Oper} {x : Operand} {n : Nat} (ho : o.op = .build 92 #[(0, x)]) (hx : ρ x = .int .i64 (n : Int)) (w : World) :
    (execOp ρ o).run Tryz.prog w = .ok (.value (aggV (strV n (fun _ => 0)))) w := by
  rw [strV_none]
  unfold execOp
  simp [ho, Instr.build, rt_str.zero, run_underlying Tryz.underlying92, hx, Value.cells, aggV, strZ]
  rfl
theorem wpList_str1 {ops : Array Oper} {rest : List Oper} {o : Oper} {a : Act} {w : World} {Q : Exit → Act → World → Prop} (hgd : Region.wanted o (yielded ops a.tmps) = true) (x : Operand) (ho : o.op = .build 92 #[(0, x)]) (n : Nat) (hx : a.eval x = .int .i64 (n : Int))
    (h : wpList Tryz.prog ops Q rest (a.put o.dst (aggV (strV n (fun _ => 0)))) w) : wpList Tryz.prog ops Q (o :: rest) a w :=
  wpList_val hgd (exec_str1 ho hx w) h
/-- The literal of no places. -/
theorem exec_places0 {ρ : Operand → Value} {o : Oper} (ho : o.op = .build 90 #[]) (w : World) :
    (execOp ρ o).run Tryz.prog w = .ok (.value (aggB (List.replicate 11 false))) w := by
  unfold execOp
  simp [ho, Instr.build, rt_places.zero, run_underlying Tryz.underlying90, aggV, placesZ, aggB, cellsB, Instr.fill, Value.cells]
theorem wpList_places0 {ops : Array Oper} {rest : List Oper} {o : Oper} {a : Act} {w : World} {Q : Exit → Act → World → Prop} (hgd : Region.wanted o (yielded ops a.tmps) = true) (ho : o.op = .build 90 #[])
    (h : wpList Tryz.prog ops Q rest (a.put o.dst (aggB (List.replicate 11 false))) w) : wpList Tryz.prog ops Q (o :: rest) a w :=
  wpList_val hgd (exec_places0 ho w) h
/-- Its flags are loaded. -/
theorem wpList_endsV {ops : Array Oper} {rest : List Oper} {o : Oper} {a : Act} {w : World} {Q : Exit → Act → World → Prop} (hgd : Region.wanted o (yielded ops a.tmps) = true) (x : Operand) (ho : o.op = .load 90 x) (b f : Nat) (v : Nat → Nat) (hx : a.eval x = .pointer (some ⟨b, 1, none⟩)) (hB : Str w b f v)
    (h : wpList Tryz.prog ops Q rest (a.put o.dst (aggB (eB v))) w) : wpList Tryz.prog ops Q (o :: rest) a w := by
  rw [← strV_ends f v] at h
  exact wpList_loadV hgd _ x ho b 1 _ _ placesZ hx rt_places hB (by rw [strV_length]; decide) h
/-- It is boxed, loaded, stored. -/
theorem wpList_boxS {ops : Array Oper} {rest : List Oper} {o : Oper} {a : Act} {w : World} {Q : Exit → Act → World → Prop} (hgd : Region.wanted o (yielded ops a.tmps) = true) (x : Operand) (ho : o.op = .box 92 x) (f : Nat) (v : Nat → Nat) (hx : a.eval x = aggV (strV f v))
    (h : ∀ w', Str w' w.heap.size f v → Below w.heap.size w w' → w'.heap.size = w.heap.size + 1 → wpList Tryz.prog ops Q rest (a.put o.dst (.pointer (some ⟨w.heap.size, 0, none⟩))) w') : wpList Tryz.prog ops Q (o :: rest) a w :=
  wpList_boxV hgd _ x ho _ hx h
theorem wpList_allocS {ops : Array Oper} {rest : List Oper} {o : Oper} {a : Act} {w : World} {Q : Exit → Act → World → Prop} (hgd : Region.wanted o (yielded ops a.tmps) = true) (ho : o.op = .alloc 92)
    (h : ∀ w', Str w' w.heap.size 0 (fun _ => 0) → Below w.heap.size w w' → w'.heap.size = w.heap.size + 1 → wpList Tryz.prog ops Q rest (a.put o.dst (.pointer (some ⟨w.heap.size, 0, none⟩))) w') : wpList Tryz.prog ops Q (o :: rest) a w :=
  wpList_allocV hgd _ ho strZ rt_str (fun w' h1 h2 h3 => h w' (by unfold Str; rw [strV_none]; exact h1) h2 h3)
theorem wpList_loadS {ops : Array Oper} {rest : List Oper} {o : Oper} {a : Act} {w : World} {Q : Exit → Act → World → Prop} (hgd : Region.wanted o (yielded ops a.tmps) = true) (x : Operand) (ho : o.op = .load 92 x) (b f : Nat) (v : Nat → Nat) (hx : a.eval x = .pointer (some ⟨b, 0, none⟩)) (hB : Str w b f v)
    (h : wpList Tryz.prog ops Q rest (a.put o.dst (aggV (strV f v))) w) : wpList Tryz.prog ops Q (o :: rest) a w :=
  wpList_loadVW hgd _ x ho b _ _ strZ hx rt_str (strV_length f v) hB h
theorem wpList_storeS {ops : Array Oper} {rest : List Oper} {o : Oper} {a : Act} {w : World} {Q : Exit → Act → World → Prop} (hgd : Region.wanted o (yielded ops a.tmps) = true) (x y : Operand) (ho : o.op = .store 92 x y) (b f0 : Nat) (v0 : Nat → Nat) (f : Nat) (v : Nat → Nat) (hx : a.eval x = .pointer (some ⟨b, 0, none⟩)) (hy : a.eval y = aggV (strV f v)) (hB : Str w b f0 v0)
    (h : ∀ w', Str w' b f v → w.grownBy w' (some b) → wpList Tryz.prog ops Q rest (a.put o.dst undef) w') : wpList Tryz.prog ops Q (o :: rest) a w :=
  wpList_storeV hgd _ x y ho b 0 _ _ _ strZ hx hy rt_str (strV_length f v) hB (by rw [strV_length, strV_length]; decide) (strV_ones f v) (fun w' h1 h2 => h w' (by rw [putV_whole (by rw [strV_length, strV_length])] at h1; exact h1) h2)
theorem ret_cellS {fn : Func} {p : Tmp} {tmps : Array Value} {w : World} {g f : Nat} {v : Nat → Nat} (h : fn.results = #[.cell p 92]) (hp : tmps.getD p undef = .pointer (some ⟨g, 0, none⟩)) (hB : Str w g f v) : (results fn tmps).run Tryz.prog w = .ok (aggV (strV f v)) w :=
  ret_cellV _ h hp hB rt_str (strV_length f v)
end Go.Proofs.YthnppodnjokaoaaGreatDoor
namespace Go.Proofs.YthnppodnjokaoaaGreatDoor
open Go.RowKit

/-- The first k flags are put to those that are there. -/
def joinTo8 (v u : Nat → Nat) (k : Nat) : Nat → Nat := fun j => if j < k then v j + u j else v j
theorem joinTo8_step (v u : Nat → Nat) (k : Nat) (x : Bool) (h : x = (decide (v k ≠ 0) || decide (u k ≠ 0))) (j : Nat) : ((if j = k then (if x then 1 else 0) else joinTo8 v u k j) ≠ 0 ↔ joinTo8 v u (k + 1) j ≠ 0) := by
  unfold joinTo8
  by_cases e : j = k
  · subst e
    rw [if_pos rfl, if_pos (Nat.lt_succ_self _), h]
    by_cases h1 : v j = 0
    · by_cases h2 : u j = 0
      · simp [h1, h2]
      · simp [h1, h2]
    · simp [h1]
  · rw [if_neg e]
    by_cases g : j < k
    · rw [if_pos g, if_pos (by omega)]
    · rw [if_neg g, if_neg (by omega)]
set_option maxHeartbeats 2000000 in
set_option maxRecDepth 100000 in
theorem strJoin_any (b f f2 : Nat) (v u : Nat → Nat) (w : World) (hB : Str w b f v) :
    Calls Tryz.prog 94 #[.pointer (some ⟨b, 0, none⟩), aggV (strV f2 u)] w fun e w' => e = .returned (.tuple #[]) ∧ Str w' b (max f f2) (fun j => v j + u j) ∧ w.grownBy w' (some b) := by
  have hbl := hB.lt
  obtain ⟨m, hm⟩ : ∃ m, m = max f f2 := ⟨_, rfl⟩
  have HM : Hid ((if f < f2 then (f2 : Int) else (f : Int)) = (m : Int)) := by show _ = _; rw [hm]; split <;> omega
  rw [← hm]
  clear hm
  have HB : Hid (Str w b f v) := hB
  go_enter Tryz.func94, Tryz.ntmps94
  go_wp2_with (refine wpList_boxS rfl _ rfl f2 u rfl ?_; intro w1 hB1 hb1 hs1)
  have HB1 : Hid (Str w1 w.heap.size f2 u) := hB1
  have HB0 : Hid (Str w1 b f v) := HB.out.later hb1
  have q0 := HB0.out.far
  have f0 := HB0.out.frozen 0
  have q1 := HB1.out.far
  have HG1 : Hid (w.grownBy w1 (some b)) := grownBy_of_below hb1 _
  clear hB hB1 HB
  have hne : w.heap.size ≠ b := by omega
  have hs1' : b < w1.heap.size := by omega
  go_region
  all_goals
    rw [HM.out]
    have HB2 : Hid (Str (w1.setCell ⟨b, 0, none⟩ (.int .i64 (m : Int))).drew b m v) := (HB0.out.setF m).later (Below.drew (Below.refl _ _))
    have HB3 : Hid (Str (w1.setCell ⟨b, 0, none⟩ (.int .i64 (m : Int))).drew w.heap.size f2 u) := HB1.out.grown (grownBy_trans (setCell_grown w1 b 0 _) (grownBy_of_below (Below.drew (Below.refl _ _)) _)) (fun e => hne (Option.some.inj e).symm)
    have HG2 : Hid (w.grownBy (w1.setCell ⟨b, 0, none⟩ (.int .i64 (m : Int))).drew (some b)) := grownBy_trans HG1.out (grownBy_trans (setCell_grown w1 b 0 _) (grownBy_of_below (Below.drew (Below.refl _ _)) _))
    clear HB0 HB1 HG1 q0 f0 q1
    generalize (w1.setCell ⟨b, 0, none⟩ (.int .i64 (m : Int))).drew = w2 at *
    go_wp2_with (refine wpList_endsV rfl _ rfl w.heap.size f2 u rfl HB3.out ?_)
    have HB4 : Hid (Str w2 b m (joinTo8 v u 0)) := HB2.out
    clear HB2
    go_loopw [18] (fun s18 wr => ∃ k : Nat, k ≤ 11 ∧ s18 = .int .i64 (k : Int) ∧ Hid (Str wr b m (joinTo8 v u k)) ∧ Hid (w.grownBy wr (some b))) (fun s18 _ => 11 - (intOf s18).toNat)
    case atStart => exact ⟨0, Nat.zero_le _, rfl, HB4, HG2⟩
    case round =>
      obtain ⟨k, hk, rfl, HBk, HGk⟩ := hrel
      clear HB4 HG2
      by_cases hlt : k < 11
      · have q0 := HBk.out.end hlt
        have f0 := HBk.out.frozen (1 + k)
        have hk0 : (0 : Int) ≤ (k : Int) := by omega
        have hk1 : (k : Int) < 11 := by omega
        have hvk : joinTo8 v u k k = v k := if_neg (Nat.lt_irrefl k)
        rw [hvk] at q0
        have HN : Hid (∀ x, x = (decide (v k ≠ 0) || decide (u k ≠ 0)) → Str (wr.setCell ⟨b, 1 + k, none⟩ (.bool x)) b m (joinTo8 v u (k + 1))) := fun x hx => (HBk.out.setE x).congr (fun j _ => joinTo8_step v u k x hx j)
        have hgu := eB_get u hlt
        have hgu2 : (eB u).getD k false = decide (u k ≠ 0) := by rw [List.getD_eq_getElem?_getD, List.getElem?_eq_getElem (by rw [eB_length]; exact hlt), hgu]; rfl
        have HU : Hid ((eB u).getD k false = decide (u k ≠ 0)) := hgu2
        have HL : Hid ((eB u).length = 11) := eB_length u
        have HG3 : Hid (∀ x, w.grownBy (wr.setCell ⟨b, 1 + k, none⟩ (.bool x)) (some b)) := fun x => grownBy_trans HGk.out (setCell_grown wr b (1 + k) _)
        clear HBk hvk hgu hgu2 HGk
        generalize decide (v k ≠ 0) = x at *
        generalize decide (u k ≠ 0) = y at *
        obtain ⟨l, hl⟩ : ∃ l, Hid (eB u = l) := ⟨_, rfl⟩
        rw [hl.out] at HU HL ⊢
        go_wp2_with (refine wpList_indexB rfl 90 4 _ _ rfl l k rfl rfl (by rw [HL.out]; exact u_places) u_bool bool_size (by rw [HL.out]; exact hlt) ?_; rw [HU.out])
        cases x
        · have HN1 : Hid (Str (wr.setCell ⟨b, 1 + k, none⟩ (.bool y)) b m (joinTo8 v u (k + 1))) := HN.out y (by simp)
          have HG4 := HG3.out y
          have HG4' : Hid (w.grownBy (wr.setCell ⟨b, 1 + k, none⟩ (.bool y)) (some b)) := HG4
          clear HN HG3 HG4
          go_region
          all_goals
            go_wp2
            go_roundw
            case rel => exact ⟨k + 1, by omega, by go_num, HN1.out.later (by first | exact Below.refl _ _ | exact Below.drew (Below.refl _ _)), grownBy_trans HG4'.out (grownBy_of_below (by first | exact Below.refl _ _ | exact Below.drew (Below.refl _ _)) _)⟩
            case measure => simp [intOf]; omega
        · have HN1 : Hid (Str (wr.setCell ⟨b, 1 + k, none⟩ (.bool true)) b m (joinTo8 v u (k + 1))) := HN.out true (by simp)
          have HG4 := HG3.out true
          have HG4' : Hid (w.grownBy (wr.setCell ⟨b, 1 + k, none⟩ (.bool true)) (some b)) := HG4
          clear HN HG3 HG4
          go_region
          all_goals
            go_wp2
            go_roundw
            case rel => exact ⟨k + 1, by omega, by go_num, HN1.out.later (by first | exact Below.refl _ _ | exact Below.drew (Below.refl _ _)), grownBy_trans HG4'.out (grownBy_of_below (by first | exact Below.refl _ _ | exact Below.drew (Below.refl _ _)) _)⟩
            case measure => simp [intOf]; omega
      · have e : k = 11 := by omega
        subst e
        go_wp2
        go_end0
        exact ⟨rfl, HBk.out.congr (fun j hj => by unfold joinTo8; rw [if_pos hj]), HGk.out⟩
end Go.Proofs.YthnppodnjokaoaaGreatDoor
namespace Go.Proofs.YthnppodnjokaoaaGreatDoor
open Go.RowKit

section
variable (P : List (List (List Int))) (ws : List Int) (w0 : World) (bT : Nat) (aP : Option Addr) (cP : Nat) (aw : Option Addr) (cw : Nat)
/-- K: the blocks of what it knows. -/
structure TrIn (K : Nat → Prop) (w : World) : Prop where
  low : Below w0.heap.size w0 w
  lT : w0.heap.size ≤ bT
  lt : bT < w.heap.size
  c0 : w.cell? ⟨bT, 0, none⟩ = some (.slice aP P.length cP)
  c1 : w.cell? ⟨bT, 1, none⟩ = some (.slice aw ws.length cw)
  fr : ∀ i, w.frozen? ⟨bT, i, none⟩ = false
  kb : ∀ b, K b → b ≠ bT ∧ w0.heap.size ≤ b ∧ b < w.heap.size
  known : ∀ k i, k < P.length → i ≤ ws.length → ∃ u, w.cell? ⟨bT, 2 + k * 11 + i, none⟩ = some (.pointer u) ∧ ∀ a, u = some a → ∃ b, a = ⟨b, 0, none⟩ ∧ K b ∧ Str w b (farP P ws k i) (way P ws k i)
end
section
variable {P : List (List (List Int))} {ws : List Int} {w0 : World} {bT : Nat} {aP : Option Addr} {cP : Nat} {aw : Option Addr} {cw : Nat} {K : Nat → Prop} {w w' : World}
theorem TrIn.kept {T : Nat → Prop} (h : TrIn P ws w0 bT aP cP aw cw K w) (hw : Within w w' T) (hT : ∀ b, T b → w0.heap.size ≤ b ∧ b ≠ bT ∧ ¬ K b) : TrIn P ws w0 bT aP cP aw cw K w' := by
  have e1 := hw.block bT h.lt (fun e => (hT _ e).2.1 rfl)
  refine ⟨hw.below h.low (fun b e => (hT b e).1), h.lT, Nat.lt_of_lt_of_le h.lt hw.size, by rw [blk_cell e1]; exact h.c0, by rw [blk_cell e1]; exact h.c1, fun i => by rw [blk_frozen e1]; exact h.fr i, fun b hb => ⟨(h.kb b hb).1, (h.kb b hb).2.1, Nat.lt_of_lt_of_le (h.kb b hb).2.2 hw.size⟩, fun k i hk hi => ?_⟩
  obtain ⟨u, hu, hr⟩ := h.known k i hk hi
  refine ⟨u, by rw [blk_cell e1]; exact hu, fun a ha => ?_⟩
  obtain ⟨b, hb, hK, hS⟩ := hr a ha
  exact ⟨b, hb, hK, hS.kept (hw.block b hS.lt (fun e => (hT b e).2.2 hK))⟩
theorem TrIn.later (h : TrIn P ws w0 bT aP cP aw cw K w) (hb : Below w.heap.size w w') : TrIn P ws w0 bT aP cP aw cw K w' := h.kept (T := fun _ => False) (Within.of_below hb _) (fun _ e => e.elim)
/-- What it has found of a part at a place is kept. -/
theorem TrIn.put (h : TrIn P ws w0 bT aP cP aw cw K w) {k i b : Nat} (hi : i ≤ ws.length) (hi10 : ws.length ≤ 10) (hb : b ≠ bT) (hb0 : w0.heap.size ≤ b) (hS : Str w b (farP P ws k i) (way P ws k i)) :
    TrIn P ws w0 bT aP cP aw cw (fun x => K x ∨ x = b) (w.setCell ⟨bT, 2 + k * 11 + i, none⟩ (.pointer (some ⟨b, 0, none⟩))) := by
  have hw : Within w (w.setCell ⟨bT, 2 + k * 11 + i, none⟩ (.pointer (some ⟨b, 0, none⟩))) (fun x => x = bT) := Within.setCell (Within.refl _ _) _ _ rfl
  refine ⟨hw.below h.low (fun x e => by rw [e]; exact h.lT), h.lT, by simpa using h.lt, by rw [cell_set_off (.inr (by omega))]; exact h.c0, by rw [cell_set_off (.inr (by omega))]; exact h.c1, fun j => by rw [World.frozen?_setCell]; exact h.fr j, fun x hx => ?_, fun k' i' hk' hi' => ?_⟩
  · rcases hx with hx | rfl
    · have := h.kb x hx; simpa using this
    · exact ⟨hb, hb0, by simpa using hS.lt⟩
  · obtain ⟨u, hu, hr⟩ := h.known k' i' hk' hi'
    by_cases e : k' = k ∧ i' = i
    · obtain ⟨rfl, rfl⟩ := e
      exact ⟨_, cell_set hu, fun a ha => by
        obtain rfl := Option.some.inj ha
        exact ⟨b, rfl, .inr rfl, hS.kept (hw.block b hS.lt hb)⟩⟩
    · refine ⟨u, by rw [cell_set_off (.inr (by omega))]; exact hu, fun a ha => ?_⟩
      obtain ⟨b', hb', hK, hS'⟩ := hr a ha
      exact ⟨b', hb', .inl hK, hS'.kept (hw.block b' hS'.lt (h.kb b' hK).1)⟩
end
/-- What a letter leads to, as far as the places were gone through. -/
def letTo8 (ws : List Int) (z : Int) (v : Nat → Nat) (k : Nat) : Nat → Nat := fun j => if j ≤ k then letNx ws z v j else 0
theorem letTo8_zero (ws : List Int) (z : Int) (v : Nat → Nat) (j : Nat) : letTo8 ws z v 0 j = 0 := by
  unfold letTo8
  cases j with
  | zero => rfl
  | succ j => rw [if_neg (by omega)]
theorem letTo8_stay {ws : List Int} {z : Int} {v : Nat → Nat} {k : Nat} (h : ¬ (v k ≠ 0 ∧ ws[k]? = some z)) (j : Nat) : letTo8 ws z v k j ≠ 0 ↔ letTo8 ws z v (k + 1) j ≠ 0 := by
  unfold letTo8
  by_cases e : j = k + 1
  · subst e
    rw [if_neg (by omega), if_pos (Nat.le_refl _), letNx]
    by_cases g : ws[k]? = some z
    · rw [if_pos g]
      have : v k = 0 := by by_cases e : v k = 0; exact e; exact absurd ⟨e, g⟩ h
      rw [this]
    · rw [if_neg g]
  · by_cases g : j ≤ k
    · rw [if_pos g, if_pos (by omega)]
    · rw [if_neg g, if_neg (by omega)]
theorem letTo8_put {ws : List Int} {z : Int} {v : Nat → Nat} {k : Nat} (h1 : v k ≠ 0) (h2 : ws[k]? = some z) (j : Nat) : (if j = k + 1 then (if true = true then 1 else 0) else letTo8 ws z v k j) ≠ 0 ↔ letTo8 ws z v (k + 1) j ≠ 0 := by
  unfold letTo8
  by_cases e : j = k + 1
  · subst e
    rw [if_pos rfl, if_pos (Nat.le_refl _), letNx, if_pos h2]
    simp [h1]
  · rw [if_neg e]
    by_cases g : j ≤ k
    · rw [if_pos g, if_pos (by omega)]
    · rw [if_neg g, if_neg (by omega)]
theorem letTo8_end {ws : List Int} {z : Int} {v : Nat → Nat} (j : Nat) : letTo8 ws z v ws.length j ≠ 0 ↔ letNx ws z v j ≠ 0 := by
  unfold letTo8
  by_cases g : j ≤ ws.length
  · rw [if_pos g]
  · rw [if_neg g]
    have : letNx ws z v j = 0 := by
      cases j with
      | zero => rfl
      | succ j => rw [letNx, List.getElem?_eq_none (by omega)]; simp
    rw [this]
theorem letSpot_step {ws : List Int} {z : Int} {v : Nat → Nat} {b k : Nat} (h1 : v k ≠ 0) (h2 : ws[k]? = some z) : maxOn (letSpot ws z v) b (k + 1) = max (maxOn (letSpot ws z v) b k) (k + 1) := by rw [maxOn, letSpot, if_pos ⟨h1, h2⟩]
theorem letSpot_stay {ws : List Int} {z : Int} {v : Nat → Nat} {b k : Nat} (h : ¬ (v k ≠ 0 ∧ ws[k]? = some z)) : maxOn (letSpot ws z v) b (k + 1) = maxOn (letSpot ws z v) b k := by rw [maxOn, letSpot, if_neg h]; omega
end Go.Proofs.YthnppodnjokaoaaGreatDoor
