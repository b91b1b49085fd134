/-
  Contracts of Number (the program's, with numberOf and the deferred recover, and the specification's) over this translation. No statement is proved here.
-/
import Derived.Test.YtkbnafmkgiknbaaDoorDigits
import Derived.Test.YtkbnafmkgiknbaaDoorNumMath
import Derived.Shelf.Strconv.ErrVarAll
import Derived.Defers
import Derived.Recover
namespace Go.Proofs.YtkbnafmkgiknbaaDoor
open Go.RowKit

theorem text_eq {s : ByteArray} {l : List UInt8} (h : (!l == s.toList) = false) : s.data.toList = l := by
  have e : l = s.toList := by simpa using h
  rw [e, ByteArray.toList_eq]
theorem text_ne {s : ByteArray} {l : List UInt8} (h : (!l == s.toList) = true) : ¬ s.data.toList = l := by
  intro e
  have : ¬ l = s.toList := by simpa using h
  exact this (by rw [← e, ByteArray.toList_eq])

theorem itoa_nat (n : Nat) : Lib.itoa (n : Int) = Lib.decDigits n := by
  rw [Lib.itoa, if_neg (by omega)]; congr 1

/-- How a call of Number ends: the answer for the text l, nothing old turned. -/
def NumEnds (w : World) (l : List UInt8) (e : Ending) (w' : World) : Prop := ∃ (n : Nat) (b : Bool), e = .returned (.tuple #[.int .i64 (n : Int), .bool b]) ∧ NumIs l n b ∧ Below w.heap.size w w'
theorem NumEnds.mk {w w' : World} {l : List UInt8} {e : Ending} (n : Nat) (b : Bool) (h : e = .returned (.tuple #[.int .i64 (n : Int), .bool b])) (g : NumIs l n b) (k : Below w.heap.size w w') : NumEnds w l e w' := ⟨n, b, h, g, k⟩

theorem specNumber_any (s : ByteArray) (w : World) (hs : s.size ≤ 1048576) :
    Calls Tryd.prog 8 #[.string s] w fun e w' => NumEnds w s.data.toList e w' := by
  have hlen : s.data.toList.length = s.size := by simp
  have HL : Hid (s.data.toList.length = s.size) := hlen
  clear hlen
  by_cases h1 : s.size < 1
  · have h1' : (s.size : Int) < 1 := by omega
    go_enter Tryd.func8, Tryd.ntmps8
    go_wp2
    go_ret2
    exact NumEnds.mk 0 false rfl (num_len (.inl (by rw [HL.out]; exact h1))) (Below.refl _ _)
  by_cases h6 : 6 < s.size
  · go_enter Tryd.func8, Tryd.ntmps8
    go_wp2
    go_ret2
    exact NumEnds.mk 0 false rfl (num_len (.inr (by rw [HL.out]; exact h6))) (Below.refl _ _)
  go_enter Tryd.func8, Tryd.ntmps8
  go_wp2
  go_loop [4, 5] (fun t i => ∃ (k n : Nat), k ≤ s.size ∧ i = .int .i64 k ∧ t = .int .i64 (n : Int) ∧ Hid (Lib.decFrom 0 (s.data.toList.take k) = some n)) (fun _ i => s.size - (intOf i).toNat)
  case atStart => exact ⟨0, 0, Nat.zero_le _, rfl, rfl, rfl⟩
  case round =>
    obtain ⟨k, n, hk, rfl, rfl, HV⟩ := hrel
    have hn : n < 10 ^ 6 := by
      have h2 := decFrom_lt _ 0 n 0 (by decide) HV.out
      have h3 : 10 ^ (0 + (s.data.toList.take k).length) ≤ 10 ^ 6 := Nat.pow_le_pow_right (by decide) (by rw [List.length_take, HL.out]; omega)
      omega
    have hn' : n < 1000000 := by omega
    clear hn
    by_cases hlt : k < s.size
    · have hkl : k < s.data.toList.length := by rw [HL.out]; exact hlt
      have hb := (s[k]).toNat_lt
      by_cases c1 : (s[k].toNat : Int) < 48
      · go_wp2
        go_ret2
        exact NumEnds.mk 0 false rfl (num_byte hkl (.inl c1)) (Below.refl _ _)
      · by_cases c2 : (57 : Int) < (s[k].toNat : Int)
        · go_wp2
          go_ret2
          exact NumEnds.mk 0 false rfl (num_byte hkl (.inr c2)) (Below.refl _ _)
        · go_wp2
          go_round
          case rel => exact ⟨k + 1, n * 10 + (s[k].toNat - 48), by omega, by go_num, by congr 1; omega, take_digit HV.out hkl (Int.not_lt.1 c1) (Int.not_lt.1 c2)⟩
          case measure => simp [intOf]; omega
    · have hv : Lib.decFrom 0 s.data.toList = some n := by
        have := HV.out
        rwa [List.take_of_length_le (by rw [HL.out]; omega)] at this
      have N := num_val hv (by rw [HL.out]; omega)
      have NV : Hid ((s.data.toList = Lib.decDigits n → NumIs s.data.toList n true) ∧ (¬ s.data.toList = Lib.decDigits n → NumIs s.data.toList 0 false)) := N
      clear N hv HV
      go_wp2_with fail
      refine (specDigits_any (n : Int) _ (by omega) (by omega)).mono ?_
      rintro e w1 ⟨rfl, hl1⟩
      rw [itoa_nat]
      go_wp2
      · go_ret2
        exact NumEnds.mk 0 false rfl (NV.out.2 (text_ne ‹_›)) hl1
      · go_ret2
        exact NumEnds.mk n true rfl (NV.out.1 (text_eq ‹_›)) hl1

/-- The world holds what Number's road reads of the library's variables. -/
structure LibVars (w : World) : Prop where
  tab : Lib.TabIs Tryd.prog w "internal/strconv.uint64pow10" .u64 Lib.pow10Tab
  syn : ∃ tp p, w.var? Tryd.prog "strconv.ErrSyntax" = some #[.iface tp p]
  rng : ∃ tp p, w.var? Tryd.prog "strconv.ErrRange" = some #[.iface tp p]

theorem gSyn : Tryd.prog.globalNamed "strconv.ErrSyntax" = some 1 := by kernel_rfl
theorem gRng : Tryd.prog.globalNamed "strconv.ErrRange" = some 2 := by kernel_rfl

theorem LibVars.below {w w' : World} (h : LibVars w) (hb : Below w.heap.size w w') : LibVars w' := by
  obtain ⟨h1, ⟨t2, p2, h2⟩, ⟨t3, p3, h3⟩⟩ := h
  exact ⟨Go.Joins.tab_stays gPow h1 hb (Nat.le_refl _), ⟨t2, p2, Go.Joins.var_stays gSyn h2 hb (Nat.le_refl _)⟩, ⟨t3, p3, Go.Joins.var_stays gRng h3 hb (Nat.le_refl _)⟩⟩

/-- How numberOf ends: with the number, or with a panic where the text is no number. -/
def NumberOfEnds (w : World) (l : List UInt8) (e : Ending) (w' : World) : Prop :=
  ((∃ n : Nat, e = .returned (.int .i64 (n : Int)) ∧ NumIs l n true) ∨ (∃ t v, e = .panicked [{ v := .iface t v, recovered := false }] ∧ NumIs l 0 false)) ∧ Below w.heap.size w w'
theorem NumberOfEnds.yes {w w' : World} {l : List UInt8} {e : Ending} (n : Nat) (h : e = .returned (.int .i64 (n : Int))) (g : NumIs l n true) (k : Below w.heap.size w w') : NumberOfEnds w l e w' := ⟨.inl ⟨n, h, g⟩, k⟩
theorem NumberOfEnds.no {w w' : World} {l : List UInt8} {e : Ending} (t : TypeId) (v : Value) (h : e = .panicked [{ v := .iface t v, recovered := false }]) (g : NumIs l 0 false) (k : Below w.heap.size w w') : NumberOfEnds w l e w' := ⟨.inr ⟨t, v, h, g⟩, k⟩

theorem numberOf_any (s : ByteArray) (w : World) (hs : s.size ≤ 1048576) (hv : LibVars w) :
    Calls Tryd.prog 17 #[.string s] w fun e w' => NumberOfEnds w s.data.toList e w' := by
  cases ha : Lib.atoiAll s.data.toList
  · rename_i v
    have hb := Lib.atoiAll_bounds ha
    have N := num_atoi ha
    have C : Calls Tryd.prog 22 #[.string s] w fun e w' => e = .returned (.tuple #[.int .i64 v, .nilIface]) ∧ Below w.heap.size w w' :=
      (Any.strconv_Atoi_ok Tryd.laysC172 s (by omega) v ha w).mono fun e w' ⟨h1, h2⟩ => ⟨h1, by
        rcases h2 with rfl | ⟨t, rfl⟩
        · exact Below.refl _ _
        · exact Go.Joins.below_bytesWorld _ _ _ _ (Nat.le_refl _)⟩
    have HV : Hid (LibVars w) := hv
    clear ha hv
    by_cases c1 : v < 0
    · have NV : Hid (NumIs s.data.toList 0 false) := N.1 (.inl c1)
      clear N
      go_enter Tryd.func17, Tryd.ntmps17
      go_wp2_with fail
      refine C.mono ?_
      rintro e w1 ⟨rfl, hl1⟩
      go_wp2
      exact ⟨rfl, NumberOfEnds.no _ _ rfl NV.out hl1⟩
    by_cases c2 : 999999 < v
    · have NV : Hid (NumIs s.data.toList 0 false) := N.1 (.inr c2)
      clear N
      go_enter Tryd.func17, Tryd.ntmps17
      go_wp2_with fail
      refine C.mono ?_
      rintro e w1 ⟨rfl, hl1⟩
      go_wp2
      exact ⟨rfl, NumberOfEnds.no _ _ rfl NV.out hl1⟩
    obtain ⟨n, rfl⟩ := Int.eq_ofNat_of_zero_le (Int.not_lt.1 c1)
    have NV : Hid ((s.data.toList = Lib.decDigits n → NumIs s.data.toList n true) ∧ (¬ s.data.toList = Lib.decDigits n → NumIs s.data.toList 0 false)) := N.2 c1 c2
    clear N
    go_enter Tryd.func17, Tryd.ntmps17
    go_wp2_with fail
    refine C.mono ?_
    rintro e w1 ⟨rfl, hl1⟩
    go_wp2_with fail
    refine (implDigits_any (n : Int) _ (by omega) (by omega) (HV.out.below hl1).tab).mono ?_
    rintro e w2 ⟨rfl, hl2⟩
    have k2 := hl1.trans (hl2.mono hl1.size)
    rw [itoa_nat]
    go_wp2
    · exact ⟨rfl, NumberOfEnds.no _ _ rfl (NV.out.2 (text_ne ‹_›)) k2⟩
    · go_ret
      exact NumberOfEnds.yes n rfl (NV.out.1 (text_eq ‹_›)) k2
  · skip
    obtain ⟨tp, p, hvar⟩ := hv.syn
    have C : Calls Tryd.prog 22 #[.string s] w fun e w' => ∃ (x : Int) (t : TypeId) (N : Nat), e = .returned (.tuple #[.int .i64 x, .iface t (.pointer (some ⟨N, 0, none⟩))]) ∧ Below w.heap.size w w' :=
      (Any.strconv_Atoi_syntax_var Tryd.laysC172 s (by omega) ha tp p w hvar).mono fun e w' ⟨N, h1, _, _, h2⟩ => ⟨_, _, N, h1, h2⟩
    have NV : Hid (NumIs s.data.toList 0 false) := num_atoi_no fun v h => by rw [ha] at h; cases h
    clear ha hvar hv
    go_enter Tryd.func17, Tryd.ntmps17
    go_wp2_with fail
    refine C.mono ?_
    rintro e w1 ⟨x, t, N, rfl, hl1⟩
    go_wp2
    exact ⟨rfl, NumberOfEnds.no _ _ rfl NV.out hl1⟩
  · skip
    obtain ⟨tp, p, hvar⟩ := hv.rng
    have C : Calls Tryd.prog 22 #[.string s] w fun e w' => ∃ (x : Int) (t : TypeId) (N : Nat), e = .returned (.tuple #[.int .i64 x, .iface t (.pointer (some ⟨N, 0, none⟩))]) ∧ Below w.heap.size w w' :=
      (Any.strconv_Atoi_range_var Tryd.laysC172 s (by omega) ha tp p w hvar).mono fun e w' ⟨N, h1, _, _, h2⟩ => ⟨_, _, N, h1, h2⟩
    have NV : Hid (NumIs s.data.toList 0 false) := num_atoi_no fun v h => by rw [ha] at h; cases h
    clear ha hvar hv
    go_enter Tryd.func17, Tryd.ntmps17
    go_wp2_with fail
    refine C.mono ?_
    rintro e w1 ⟨x, t, N, rfl, hl1⟩
    go_wp2
    exact ⟨rfl, NumberOfEnds.no _ _ rfl NV.out hl1⟩

theorem catch_panicking (u : TypeId) (pv : Value) (older : List PanicEntry) (w : World) :
    CallsD Tryd.prog 16 #[] (.panicking ({ v := .iface u pv, recovered := false } :: older)) w fun e u' w' =>
      e = .returned (.tuple #[]) ∧ u' = .panicking ({ v := .iface u pv, recovered := true } :: older) ∧ w' = w := by
  refine callsD_of_wpS Tryd.func16 rfl fun c₀ cs hu => ?_
  apply wpS_region
  simp [wpOpsS, go_sem, recoverD, hu, Tryd.ntmps16, bodyPostS, results, Tryd.results16]

theorem catch_idle (w : World) :
    CallsD Tryd.prog 16 #[] .returning w fun e u' w' => e = .returned (.tuple #[]) ∧ u' = .returning ∧ w' = w := by
  refine callsD_of_wpS Tryd.func16 rfl fun c₀ cs hu => ?_
  apply wpS_region
  simp [wpOpsS, go_sem, recoverD, hu, Tryd.ntmps16, bodyPostS, results, Tryd.results16]
  cases c₀
  simp_all

theorem implNumber_any (s : ByteArray) (w : World) (hs : s.size ≤ 1048576) (hv : LibVars w) :
    Calls Tryd.prog 9 #[.string s] w fun e w' => NumEnds w s.data.toList e w' := by
  go_enter_defers Tryd.func9, Tryd.ntmps9
  go_wp2_with fail
  refine (numberOf_any s _ hs hv).mono ?_
  rintro e w1 ⟨(⟨n, rfl, hn⟩ | ⟨t, v, rfl, hn⟩), hl1⟩
  · go_wp2
    refine leaves_cons (f := 16) (args := #[]) (by simp) (by simp [go_sem]) ?_
    refine (catch_idle _).mono ?_
    rintro e u' w'' ⟨rfl, rfl, rfl⟩
    simp [Leaves, settle, results, Tryd.results9, go_sem]
    exact NumEnds.mk n true rfl hn hl1
  · show bodyPostD Tryd.prog Tryd.f9 (fun e w' => NumEnds w s.data.toList e w') (Exit.panic [{ v := Value.iface t v, recovered := false }]) _ w1
    refine leaves_cons (f := 16) (args := #[]) (by simp) (by simp [go_sem]) ?_
    refine (catch_panicking t v [] _).mono ?_
    rintro e u' w'' ⟨rfl, rfl, rfl⟩
    simp [Leaves, settle, results, Tryd.results9, go_sem]
    exact NumEnds.mk 0 false rfl hn hl1
end Go.Proofs.YtkbnafmkgiknbaaDoor
