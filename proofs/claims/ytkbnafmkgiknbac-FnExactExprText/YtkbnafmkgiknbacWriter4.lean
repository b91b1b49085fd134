/-
  Contracts of the project's writer: write and ExprText, over this translation. No statement is proved here.
-/
import Derived.Test.YtkbnafmkgiknbacWriter3
import Derived.Deep.LoopGhost
namespace Go.Proofs.Ytkbnafmkgiknbac
open Go.RowKit

theorem zero_letterExpr (W : World) : (do pure (Value.tuple #[← zeroValue 116, .bool false]) : Sem Value).run Try.prog W = .ok (.tuple #[.agg #[.string ⟨#[]⟩], .bool false]) W := by kernel_rfl
theorem yes_letterExpr (W : World) (v : Value) : (Instr.typeAssert (.iface 116 v) 95 116 true).run Try.prog W = .ok (.tuple #[v, .bool true]) W := by kernel_rfl
theorem nil_letterExpr (W : World) : (Instr.typeAssert .nilIface 95 116 true).run Try.prog W = .ok (.tuple #[.agg #[.string ⟨#[]⟩], .bool false]) W := by kernel_rfl
theorem no_letterExpr (W : World) (u : TypeId) (v : Value) (h : u ≠ 116) : (Instr.typeAssert (.iface u v) 95 116 true).run Try.prog W = .ok (.tuple #[.agg #[.string ⟨#[]⟩], .bool false]) W := by
  have e : (Instr.typeAssert (.iface u v) 95 116 true).run Try.prog W = (if u = 116 then (pure (Value.tuple #[v, .bool true]) : Sem Value) else (do pure (Value.tuple #[← zeroValue 116, .bool false]))).run Try.prog W := by kernel_rfl
  rw [e, if_neg h]
  exact zero_letterExpr W

theorem zero_nameExpr (W : World) : (do pure (Value.tuple #[← zeroValue 117, .bool false]) : Sem Value).run Try.prog W = .ok (.tuple #[.agg #[.string ⟨#[]⟩], .bool false]) W := by kernel_rfl
theorem yes_nameExpr (W : World) (v : Value) : (Instr.typeAssert (.iface 117 v) 95 117 true).run Try.prog W = .ok (.tuple #[v, .bool true]) W := by kernel_rfl
theorem nil_nameExpr (W : World) : (Instr.typeAssert .nilIface 95 117 true).run Try.prog W = .ok (.tuple #[.agg #[.string ⟨#[]⟩], .bool false]) W := by kernel_rfl
theorem no_nameExpr (W : World) (u : TypeId) (v : Value) (h : u ≠ 117) : (Instr.typeAssert (.iface u v) 95 117 true).run Try.prog W = .ok (.tuple #[.agg #[.string ⟨#[]⟩], .bool false]) W := by
  have e : (Instr.typeAssert (.iface u v) 95 117 true).run Try.prog W = (if u = 117 then (pure (Value.tuple #[v, .bool true]) : Sem Value) else (do pure (Value.tuple #[← zeroValue 117, .bool false]))).run Try.prog W := by kernel_rfl
  rw [e, if_neg h]
  exact zero_nameExpr W

theorem zero_seqExpr (W : World) : (do pure (Value.tuple #[← zeroValue 119, .bool false]) : Sem Value).run Try.prog W = .ok (.tuple #[.agg #[.slice none 0 0], .bool false]) W := by kernel_rfl
theorem yes_seqExpr (W : World) (v : Value) : (Instr.typeAssert (.iface 119 v) 95 119 true).run Try.prog W = .ok (.tuple #[v, .bool true]) W := by kernel_rfl
theorem nil_seqExpr (W : World) : (Instr.typeAssert .nilIface 95 119 true).run Try.prog W = .ok (.tuple #[.agg #[.slice none 0 0], .bool false]) W := by kernel_rfl
theorem no_seqExpr (W : World) (u : TypeId) (v : Value) (h : u ≠ 119) : (Instr.typeAssert (.iface u v) 95 119 true).run Try.prog W = .ok (.tuple #[.agg #[.slice none 0 0], .bool false]) W := by
  have e : (Instr.typeAssert (.iface u v) 95 119 true).run Try.prog W = (if u = 119 then (pure (Value.tuple #[v, .bool true]) : Sem Value) else (do pure (Value.tuple #[← zeroValue 119, .bool false]))).run Try.prog W := by kernel_rfl
  rw [e, if_neg h]
  exact zero_seqExpr W

theorem zero_altExpr (W : World) : (do pure (Value.tuple #[← zeroValue 120, .bool false]) : Sem Value).run Try.prog W = .ok (.tuple #[.agg #[.slice none 0 0], .bool false]) W := by kernel_rfl
theorem yes_altExpr (W : World) (v : Value) : (Instr.typeAssert (.iface 120 v) 95 120 true).run Try.prog W = .ok (.tuple #[v, .bool true]) W := by kernel_rfl
theorem nil_altExpr (W : World) : (Instr.typeAssert .nilIface 95 120 true).run Try.prog W = .ok (.tuple #[.agg #[.slice none 0 0], .bool false]) W := by kernel_rfl
theorem no_altExpr (W : World) (u : TypeId) (v : Value) (h : u ≠ 120) : (Instr.typeAssert (.iface u v) 95 120 true).run Try.prog W = .ok (.tuple #[.agg #[.slice none 0 0], .bool false]) W := by
  have e : (Instr.typeAssert (.iface u v) 95 120 true).run Try.prog W = (if u = 120 then (pure (Value.tuple #[v, .bool true]) : Sem Value) else (do pure (Value.tuple #[← zeroValue 120, .bool false]))).run Try.prog W := by kernel_rfl
  rw [e, if_neg h]
  exact zero_altExpr W

theorem zero_optExpr (W : World) : (do pure (Value.tuple #[← zeroValue 122, .bool false]) : Sem Value).run Try.prog W = .ok (.tuple #[.agg #[.int .i64 0, .string ⟨#[]⟩, .slice none 0 0], .bool false]) W := by kernel_rfl
theorem yes_optExpr (W : World) (v : Value) : (Instr.typeAssert (.iface 122 v) 95 122 true).run Try.prog W = .ok (.tuple #[v, .bool true]) W := by kernel_rfl
theorem nil_optExpr (W : World) : (Instr.typeAssert .nilIface 95 122 true).run Try.prog W = .ok (.tuple #[.agg #[.int .i64 0, .string ⟨#[]⟩, .slice none 0 0], .bool false]) W := by kernel_rfl
theorem no_optExpr (W : World) (u : TypeId) (v : Value) (h : u ≠ 122) : (Instr.typeAssert (.iface u v) 95 122 true).run Try.prog W = .ok (.tuple #[.agg #[.int .i64 0, .string ⟨#[]⟩, .slice none 0 0], .bool false]) W := by
  have e : (Instr.typeAssert (.iface u v) 95 122 true).run Try.prog W = (if u = 122 then (pure (Value.tuple #[v, .bool true]) : Sem Value) else (do pure (Value.tuple #[← zeroValue 122, .bool false]))).run Try.prog W := by kernel_rfl
  rw [e, if_neg h]
  exact zero_optExpr W

theorem zero_starExpr (W : World) : (do pure (Value.tuple #[← zeroValue 123, .bool false]) : Sem Value).run Try.prog W = .ok (.tuple #[.agg #[.int .i64 0, .string ⟨#[]⟩, .slice none 0 0], .bool false]) W := by kernel_rfl
theorem yes_starExpr (W : World) (v : Value) : (Instr.typeAssert (.iface 123 v) 95 123 true).run Try.prog W = .ok (.tuple #[v, .bool true]) W := by kernel_rfl
theorem nil_starExpr (W : World) : (Instr.typeAssert .nilIface 95 123 true).run Try.prog W = .ok (.tuple #[.agg #[.int .i64 0, .string ⟨#[]⟩, .slice none 0 0], .bool false]) W := by kernel_rfl
theorem no_starExpr (W : World) (u : TypeId) (v : Value) (h : u ≠ 123) : (Instr.typeAssert (.iface u v) 95 123 true).run Try.prog W = .ok (.tuple #[.agg #[.int .i64 0, .string ⟨#[]⟩, .slice none 0 0], .bool false]) W := by
  have e : (Instr.typeAssert (.iface u v) 95 123 true).run Try.prog W = (if u = 123 then (pure (Value.tuple #[v, .bool true]) : Sem Value) else (do pure (Value.tuple #[← zeroValue 123, .bool false]))).run Try.prog W := by kernel_rfl
  rw [e, if_neg h]
  exact zero_starExpr W

theorem zero_plusExpr (W : World) : (do pure (Value.tuple #[← zeroValue 124, .bool false]) : Sem Value).run Try.prog W = .ok (.tuple #[.agg #[.int .i64 0, .string ⟨#[]⟩, .slice none 0 0], .bool false]) W := by kernel_rfl
theorem yes_plusExpr (W : World) (v : Value) : (Instr.typeAssert (.iface 124 v) 95 124 true).run Try.prog W = .ok (.tuple #[v, .bool true]) W := by kernel_rfl
theorem nil_plusExpr (W : World) : (Instr.typeAssert .nilIface 95 124 true).run Try.prog W = .ok (.tuple #[.agg #[.int .i64 0, .string ⟨#[]⟩, .slice none 0 0], .bool false]) W := by kernel_rfl
theorem no_plusExpr (W : World) (u : TypeId) (v : Value) (h : u ≠ 124) : (Instr.typeAssert (.iface u v) 95 124 true).run Try.prog W = .ok (.tuple #[.agg #[.int .i64 0, .string ⟨#[]⟩, .slice none 0 0], .bool false]) W := by
  have e : (Instr.typeAssert (.iface u v) 95 124 true).run Try.prog W = (if u = 124 then (pure (Value.tuple #[v, .bool true]) : Sem Value) else (do pure (Value.tuple #[← zeroValue 124, .bool false]))).run Try.prog W := by kernel_rfl
  rw [e, if_neg h]
  exact zero_plusExpr W

/-- What write leaves: what it has written and what is to come say what was to be said. -/
def Wrote (W0 w' : World) (b : Nat) (bs : List UInt8) (L : List Pc) (m : Mv) (x : Ex) : Prop :=
  ∃ hd L', Wr W0 w' b (bs ++ hd) L' ∧ hd ++ restP L' = x.str ++ restP L ∧ wtP L' + 1 ≤ wtP L + (Pc.mk ByteArray.empty m x).wt

set_option maxRecDepth 100000 in
theorem write_nil (W0 : World) (b : Nat) (bs : List UInt8) (L : List Pc) (x : Ex) (w : World) (h : Wr W0 w b bs L) (hm : Means W0 .nil x) :
    Calls Try.prog 48 #[.pointer (some ⟨b, 0, none⟩), .nilIface] w fun e w' => e = .returned (.tuple #[]) ∧ Wrote W0 w' b bs L .nil x := by
  have FIN : Hid (Wrote W0 w b bs L .nil x) := ⟨[], L, by simpa using h, by rw [show x.str = [] from hm], Nat.le_refl _⟩
  clear h hm
  have n0 := nil_letterExpr w
  have n1 := nil_nameExpr w
  have n2 := nil_seqExpr w
  have n3 := nil_altExpr w
  have n4 := nil_optExpr w
  have n5 := nil_starExpr w
  have n6 := nil_plusExpr w
  go_enter Try.func48, Try.ntmps48
  go_wp2
  go_end0
  exact ⟨rfl, FIN.out⟩

set_option maxHeartbeats 1000000 in
set_option maxRecDepth 100000 in
theorem write_letterExpr (W0 : World) (b : Nat) (bs : List UInt8) (L : List Pc) (t : ByteArray) (x : Ex) (w : World) (h : Wr W0 w b bs L) (hm : Means W0 (.text 116 t) x) (hbs : bs.length + x.str.length ≤ 140737488355328) :
    Calls Try.prog 48 #[.pointer (some ⟨b, 0, none⟩), .iface 116 (.agg #[.string t])] w fun e w' => e = .returned (.tuple #[]) ∧ Wrote W0 w' b bs L (.text 116 t) x := by
  obtain ⟨tv, hw, hown, hbel, hms⟩ := h
  have hsz := hbel.size
  have hstr : x.str = t.data.toList := hm.2
  have htl : t.data.toList.length = t.size := by simp
  have hl : bs.length + t.size ≤ 140737488355328 := by rw [hstr] at hbs; omega
  have hnd := Ex.nodes_eq x
  have FIN : Hid (∀ w', Wr W0 w' b (bs ++ t.data.toList) L → Wrote W0 w' b bs L (.text 116 t) x) := fun w' hw' => ⟨t.data.toList, L, hw', by rw [hstr], by show wtP L + 1 ≤ wtP L + 3 * x.nodes; omega⟩
  have HX : Hid (∀ W, Below w.heap.size w W → Calls Try.prog 29 #[.pointer (some ⟨b, 0, none⟩), .string t] W fun e w' => e = .returned (.tuple #[.int .i64 t.size, .nilIface]) ∧ Wr W0 w' b (bs ++ t.data.toList) L) := by
    intro W hW
    have h2 := hown.below hW
    have h3 := hbel.trans (hW.mono hsz)
    refine (writeStringW W0.heap.size b bs t tv W (hw.later hW) hl h3.size).mono ?_
    rintro e w1 ⟨rfl, hw1, hb1, hk1⟩
    exact ⟨rfl, Wr.wrote (hw.later hW) h2 h3 hms hw1 hb1 hk1⟩
  clear hw hown hbel hms hm hstr hbs htl hnd
  have y0 := yes_letterExpr w (.agg #[.string t])
  go_enter Try.func48, Try.ntmps48
  go_wp2
  go_region_with (go_at_call 29; refine (HX.out _ ((Below.refl _ _).alloc (Nat.le_refl _) _).drew).mono ?_; rintro e w1 ⟨rfl, hw1⟩)
  all_goals
    go_wp2
    go_end0
    exact ⟨rfl, FIN.out _ hw1⟩

set_option maxHeartbeats 1000000 in
set_option maxRecDepth 100000 in
theorem write_nameExpr (W0 : World) (b : Nat) (bs : List UInt8) (L : List Pc) (t : ByteArray) (x : Ex) (w : World) (h : Wr W0 w b bs L) (hm : Means W0 (.text 117 t) x) (hbs : bs.length + x.str.length ≤ 140737488355328) :
    Calls Try.prog 48 #[.pointer (some ⟨b, 0, none⟩), .iface 117 (.agg #[.string t])] w fun e w' => e = .returned (.tuple #[]) ∧ Wrote W0 w' b bs L (.text 117 t) x := by
  obtain ⟨tv, hw, hown, hbel, hms⟩ := h
  have hsz := hbel.size
  have hstr : x.str = t.data.toList := hm.2
  have htl : t.data.toList.length = t.size := by simp
  have hl : bs.length + t.size ≤ 140737488355328 := by rw [hstr] at hbs; omega
  have hnd := Ex.nodes_eq x
  have FIN : Hid (∀ w', Wr W0 w' b (bs ++ t.data.toList) L → Wrote W0 w' b bs L (.text 117 t) x) := fun w' hw' => ⟨t.data.toList, L, hw', by rw [hstr], by show wtP L + 1 ≤ wtP L + 3 * x.nodes; omega⟩
  have HX : Hid (∀ W, Below w.heap.size w W → Calls Try.prog 29 #[.pointer (some ⟨b, 0, none⟩), .string t] W fun e w' => e = .returned (.tuple #[.int .i64 t.size, .nilIface]) ∧ Wr W0 w' b (bs ++ t.data.toList) L) := by
    intro W hW
    have h2 := hown.below hW
    have h3 := hbel.trans (hW.mono hsz)
    refine (writeStringW W0.heap.size b bs t tv W (hw.later hW) hl h3.size).mono ?_
    rintro e w1 ⟨rfl, hw1, hb1, hk1⟩
    exact ⟨rfl, Wr.wrote (hw.later hW) h2 h3 hms hw1 hb1 hk1⟩
  clear hw hown hbel hms hm hstr hbs htl hnd
  have n0 := no_letterExpr w 117 (.agg #[.string t]) (by decide)
  have y1 := yes_nameExpr w (.agg #[.string t])
  go_enter Try.func48, Try.ntmps48
  go_wp2
  go_region_with (go_at_call 29; refine (HX.out _ ((Below.refl _ _).alloc (Nat.le_refl _) _).drew).mono ?_; rintro e w1 ⟨rfl, hw1⟩)
  all_goals
    go_wp2
    go_end0
    exact ⟨rfl, FIN.out _ hw1⟩

end Go.Proofs.Ytkbnafmkgiknbac
