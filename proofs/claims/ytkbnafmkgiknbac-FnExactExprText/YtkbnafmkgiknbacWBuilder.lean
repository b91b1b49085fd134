/-
  A strings.Builder that is the first field of the project's writer: contracts of its functions (copyCheck, WriteByte, WriteString, String) there, over this translation. No statement is proved here.
-/
import Derived.Test.YtkbnafmkgiknbacBuilder
import Derived.Test.YtkbnafmkgiknbacOwnT
import Derived.Deep.RegionWith
namespace Go.Proofs.Ytkbnafmkgiknbac
open Go.RowKit

theorem Try.liesBuilderW : liesAt Try.prog Try.prog.depth 92 (3 / Try.prog.cellsOf 92) 0 59 1 = true := by kernel_rfl

/-- Block b is a writer whose builder, made by the call (from B on), holds the bytes bs; its list is t. -/
def WB (w : World) (B b : Nat) (bs : List UInt8) (t : Value) : Prop :=
  B ≤ b ∧ ∃ p v, (p = .pointer none ∨ p = .pointer (some ⟨b, 0, none⟩)) ∧ w.heap[b]? = some (.cells #[p, v, t] 92 (0, 0)) ∧ w.ownsRowF B 5 1 v bs.length (Lib.byteCells bs) ∧ (bs = [] → v = .slice none 0 0)

theorem WB.lt {w : World} {B b : Nat} {bs : List UInt8} {t : Value} (h : WB w B b bs t) : b < w.heap.size := by
  obtain ⟨_, p, v, _, hb, _⟩ := h
  exact (Array.getElem?_eq_some_iff.1 hb).1
theorem WB.cell2 {w : World} {B b : Nat} {bs : List UInt8} {t : Value} (h : WB w B b bs t) : w.cell? ⟨b, 2, none⟩ = some t := by
  obtain ⟨_, p, v, _, hb, _⟩ := h
  rw [Lib.cell_of_heap hb]; rfl
theorem WB.frozen2 {w : World} {B b : Nat} {bs : List UInt8} {t : Value} (h : WB w B b bs t) : w.frozen? ⟨b, 2, none⟩ = false := by
  obtain ⟨_, p, v, _, hb, _⟩ := h
  exact Lib.frozen_of_heap hb 2
theorem WB.block {w : World} {B b : Nat} {bs : List UInt8} {t : Value} (h : WB w B b bs t) : ∃ c fz, w.heap[b]? = some (.cells c 92 fz) := by
  obtain ⟨_, p, v, _, hb, _⟩ := h
  exact ⟨_, _, hb⟩

theorem ownF_ne {w : World} {B : Nat} {e T : TypeId} {sz : Nat} {v : Value} {n : Nat} {xs : List Value} {b : Nat} {cs : Array Value} {fr : Nat × Nat} (hown : w.ownsRowF B e sz v n xs) (hb : w.heap[b]? = some (.cells cs T fr)) (hTe : T ≠ e) : v.ownBlock ≠ some b := by
  rcases hown.2 with ⟨rfl, _⟩ | ⟨g, cap, cur, fz, rfl, _, hg, _⟩
  · simp [Value.ownBlock]
  · intro h
    simp only [Value.ownBlock, Option.some.injEq] at h
    subst h
    rw [hg] at hb
    simp only [Option.some.injEq, Obj.cells.injEq] at hb
    exact hTe hb.2.1.symm
theorem own_ne {w : World} {B : Nat} {e T : TypeId} {sz : Nat} {v : Value} {n : Nat} {xs : List Value} {b : Nat} {cs : Array Value} {fr : Nat × Nat} (hown : w.ownsRow B e sz v n xs) (hb : w.heap[b]? = some (.cells cs T fr)) (hTe : T ≠ e) : v.ownBlock ≠ some b :=
  ownF_ne (World.ownsRowF_of hown) hb hTe
theorem ownF_kind {w : World} {B : Nat} {e : TypeId} {sz : Nat} {v : Value} {n : Nat} {xs : List Value} (h : w.ownsRowF B e sz v n xs) {g : Nat} (hg : v.ownBlock = some g) : ∃ c fz, w.heap[g]? = some (.cells c e fz) := by
  rcases h.2 with ⟨rfl, _⟩ | ⟨g', cap, cur, fz, rfl, _, hg', _⟩
  · cases hg
  · simp only [Value.ownBlock, Option.some.injEq] at hg
    subst hg
    exact ⟨_, _, hg'⟩
/-- Rows of two types lie apart. -/
theorem own_apart {w : World} {B B' : Nat} {e e' : TypeId} {sz sz' : Nat} {v v' : Value} {n n' : Nat} {xs xs' : List Value} (h : w.ownsRowF B e sz v n xs) (h' : w.ownsRowF B' e' sz' v' n' xs') (hne : e ≠ e') : v.ownBlock = none ∨ v.ownBlock ≠ v'.ownBlock := by
  cases hv : v.ownBlock with
  | none => exact .inl rfl
  | some g =>
    obtain ⟨c, fz, hg⟩ := ownF_kind h hv
    exact .inr fun e => ownF_ne h' hg hne e.symm

theorem WB.put {w : World} {B b : Nat} {p v v' t : Value} {bs' : List UInt8} (hB : B ≤ b) (hp : p = .pointer none ∨ p = .pointer (some ⟨b, 0, none⟩)) (hb : w.heap[b]? = some (.cells #[p, v, t] 92 (0, 0))) (hown : w.ownsRowF B 5 1 v' bs'.length (Lib.byteCells bs')) (h0 : bs' = [] → v' = .slice none 0 0) :
    WB (w.setCell ⟨b, 1, none⟩ v') B b bs' t := by
  have hne := ownF_ne hown hb (by decide)
  refine ⟨hB, p, v', hp, ?_, ?_, h0⟩
  · simp [World.setCell, Array.getElem?_modify, hb]
  · exact hown.kept (row := some b) ⟨rfl, rfl, rfl, by simp [World.setCell], fun k _ hk => Below.heap_setCell _ _ _ _ (fun e => hk (by simp [e]))⟩ (Or.inr hne)
theorem WB.list {w : World} {B b : Nat} {bs : List UInt8} {t : Value} (h : WB w B b bs t) (t' : Value) : WB (w.setCell ⟨b, 2, none⟩ t') B b bs t' := by
  obtain ⟨hB, p, v, hp, hb, hown, h0⟩ := h
  have hne := ownF_ne hown hb (by decide)
  refine ⟨hB, p, v, hp, ?_, ?_, h0⟩
  · simp [World.setCell, Array.getElem?_modify, hb]
  · exact hown.kept (row := some b) ⟨rfl, rfl, rfl, by simp [World.setCell], fun k _ hk => Below.heap_setCell _ _ _ _ (fun e => hk (by simp [e]))⟩ (Or.inr hne)
/-- A writer that nobody touches. -/
theorem WB.kept {w w' : World} {B b : Nat} {bs : List UInt8} {t : Value} {row : Option Nat} (h : WB w B b bs t) (hg : w.grownBy w' row) (hr : ∀ k, row = some k → ∀ c fz, w.heap[k]? ≠ some (.cells c 92 fz) ∧ w.heap[k]? ≠ some (.cells c 5 fz)) : WB w' B b bs t := by
  have hlt := h.lt
  obtain ⟨hB, p, v, hp, hb, hown, h0⟩ := h
  refine ⟨hB, p, v, hp, ?_, hown.kept hg ?_, h0⟩
  · rw [hg.block b hlt (fun e => (hr b e.symm _ _).1 hb)]; exact hb
  · cases hv : v.ownBlock with
    | none => exact .inl rfl
    | some g =>
      obtain ⟨c, fz, hk⟩ := ownF_kind hown hv
      exact .inr fun e => (hr g e.symm _ _).2 hk
theorem WB.later {w w' : World} {B b : Nat} {bs : List UInt8} {t : Value} (h : WB w B b bs t) (hb : Below w.heap.size w w') : WB w' B b bs t :=
  h.kept (row := none) (grownBy_of_below hb none) (fun k e => by cases e)
theorem WB.alloc {w : World} {B b : Nat} {bs : List UInt8} {t : Value} (h : WB w B b bs t) (o : Obj) : WB (w.alloc o) B b bs t := h.later ((Below.refl _ _).alloc (Nat.le_refl _) o)

set_option maxRecDepth 100000 in
theorem copyCheckW (b : Nat) (p v t : Value) (w : World) (hp : p = .pointer none ∨ p = .pointer (some ⟨b, 0, none⟩)) (hb : w.heap[b]? = some (.cells #[p, v, t] 92 (0, 0))) :
    Calls Try.prog 52 #[.pointer (some ⟨b, 0, none⟩)] w fun e w' => e = .returned (.tuple #[]) ∧ (w'.heap[b]? = some (.cells #[.pointer (some ⟨b, 0, none⟩), v, t] 92 (0, 0)) ∧ w.grownBy w' (some b)) := by
  obtain ⟨j, hj, hjs⟩ := Option.map_eq_some_iff.1 Try.sizeBuilder
  have hsh : w.shape? b = some (92, 3) := by simp [World.shape?, hb]
  have h0 : w.cell? ⟨b, 0, none⟩ = some p := by rw [Lib.cell_of_heap hb]; rfl
  have hfz : w.frozen? ⟨b, 0, none⟩ = false := Lib.frozen_of_heap hb 0
  rcases hp with rfl | rfl
  · have END : Hid ((w.setCell ⟨b, 0, none⟩ (.pointer (some ⟨b, 0, none⟩))).heap[b]? = some (.cells #[.pointer (some ⟨b, 0, none⟩), v, t] 92 (0, 0)) ∧ w.grownBy (w.setCell ⟨b, 0, none⟩ (.pointer (some ⟨b, 0, none⟩))) (some b)) :=
      ⟨by simp [World.setCell, Array.getElem?_modify, hb], ⟨rfl, rfl, rfl, by simp [World.setCell], fun k _ hk => Below.heap_setCell _ _ _ _ (fun e => hk (by simp [e]))⟩⟩
    clear hb
    go_enter Try.func52, Try.ntmps52
    go_wp2
    rw [Lib.run_to_unsafe w ⟨b, 0, none⟩ Try.underlying56 Try.underlying127 hj (by rw [hjs]; decide) hsh (Nat.zero_lt_succ 2)]
    simp only [Result.andThen]
    rw [Oper.upon_value]
    go_wp2
    rw [run_callFunc_extern Try.func61 (by kernel_rfl) (by kernel_rfl) (by kernel_rfl) (e := Extern.AbiNoEscape.same) (by kernel_rfl)]
    rw [Lib.run_noEscape]
    simp only [Result.andThen]
    rw [Oper.upon_value]
    go_wp2
    rw [Lib.run_from_unsafe w ⟨b, 0, none⟩ Try.underlying127 Try.underlying56 hj hsh Try.liesBuilderW]
    simp only [Result.andThen]
    rw [Oper.upon_value]
    go_wp2
    go_end0
    exact ⟨rfl, END.out⟩
  · have hne := Lib.run_neq_ptr_same (P := Try.prog) w ⟨b, 0, none⟩ Try.underlying56 hj
    have END : Hid (w.heap[b]? = some (.cells #[.pointer (some ⟨b, 0, none⟩), v, t] 92 (0, 0))) := hb
    clear hb
    go_enter Try.func52, Try.ntmps52
    go_wp2
    go_end0
    exact ⟨rfl, END.out, World.grownBy.refl _ _⟩

theorem kept_of_grown {w w' : World} {b : Nat} (hg : w.grownBy w' (some b)) : KeptB b w w' := by
  intro k o hk hkb _
  have hlt : k < w.heap.size := (Array.getElem?_eq_some_iff.1 hk).1
  rw [hg.block k hlt (fun e => hkb (by simpa using e))]
  exact hk

set_option maxRecDepth 100000 in
theorem writeByteW (B b : Nat) (bs : List UInt8) (c : UInt8) (t : Value) (w : World) (h : WB w B b bs t) (hlen : bs.length + 1 ≤ 140737488355328) (hBw : B ≤ w.heap.size) :
    Calls Try.prog 28 #[.pointer (some ⟨b, 0, none⟩), .int .u8 c.toNat] w fun e w' => e = .returned .nilIface ∧ (WB w' B b (bs ++ [c]) t ∧ Below B w w' ∧ KeptB b w w') := by
  obtain ⟨i0, hi, hz0, hz1, hz2⟩ := info_parts Try.infoByte
  obtain ⟨hB, p, v, hp, hbk0, hown0, h0⟩ := h
  go_enter Try.func28, Try.ntmps28
  go_wp2_with (go_at_call 52; refine (copyCheckW b p v t _ hp hbk0).mono ?_)
  rintro e w1 ⟨rfl, hbk, hg1⟩
  have hne0 := ownF_ne hown0 hbk0 (by decide)
  have hown := hown0.kept hg1 (.inr hne0)
  have hne := ownF_ne hown hbk (by decide)
  have hs1 := hg1.size
  have c0 : w1.cell? ⟨b, 0, none⟩ = some (.pointer (some ⟨b, 0, none⟩)) := by rw [Lib.cell_of_heap hbk]; rfl
  have c1 : w1.cell? ⟨b, 1, none⟩ = some v := by rw [Lib.cell_of_heap hbk]; rfl
  go_wp2_with (at_builtin; refine wpList_append_ownF _ rfl _ _ 57 rfl B 5 i0 (.int .u8 0) 1 1 Try.underlying57 hi hz0 hz1 hz2 rfl (by decide) _ _ _ rfl (hown.alloc _) ⟨w1.heap.size, 0, none⟩ 1 1 [.int .u8 c.toNat] rfl rfl ?c1 ?c2 ?c3 ?c4 ?c5 ?_)
  case c1 =>
    intro j u hj
    match j, hj with
    | 0, hj => simp at hj; subst hj; simp [Addr.add]
  case c2 => intro u hu; simp at hu; subst hu; rfl
  case c3 => unfold maxLen; omega
  case c4 => omega
  case c5 => simp; omega
  intro v' w2 hown' hgrow _
  have hlt : b < w1.heap.size := (Array.getElem?_eq_some_iff.1 hbk).1
  have hb2 : w2.heap[b]? = some (.cells #[.pointer (some ⟨b, 0, none⟩), v, t] 92 (0, 0)) := by
    rw [hgrow.block b (by simp; omega) (fun e => hne e.symm), Lib.alloc_old w1 _ b hlt]
    exact hbk
  have d0 : w2.cell? ⟨b, 0, none⟩ = some (.pointer (some ⟨b, 0, none⟩)) := by rw [Lib.cell_of_heap hb2]; rfl
  have d1 : w2.cell? ⟨b, 1, none⟩ = some v := by rw [Lib.cell_of_heap hb2]; rfl
  have f1 : w2.frozen? ⟨b, 1, none⟩ = false := Lib.frozen_of_heap hb2 1
  obtain ⟨g, cap, rfl⟩ : ∃ g cap, v' = .slice (some ⟨g, 0, none⟩) (bs.length + 1) cap := by
    rcases hown'.2 with ⟨_, h0⟩ | ⟨g, cap, cur, fz, hv, _⟩
    · omega
    · exact ⟨g, cap, hv⟩
  go_wp2
  go_ret
  have bel : Below B w w1 := (Below.refl B w).grown hg1 hBw (fun k hk => by cases hk; exact hB)
  refine ⟨rfl, ?_, ?_, (((kept_of_grown hg1).alloc _).grown hgrow (Lib.ownsRowF_kind (hown.alloc _))).setCell ⟨b, 1, none⟩ rfl _⟩
  · exact WB.put hB (.inr rfl) hb2 (bs' := bs ++ [c]) (by simpa [Lib.byteCells] using hown') (by simp)
  · exact ((bel.alloc (by have := bel.size; omega) _).grown hgrow (by have := bel.size; simp; omega) (fun k hk => (hown.lt k hk).1)).setCell (p := ⟨b, 1, none⟩) hB _

set_option maxRecDepth 100000 in
theorem writeStringW (B b : Nat) (bs : List UInt8) (s : ByteArray) (t : Value) (w : World) (h : WB w B b bs t) (hlen : bs.length + s.size ≤ 140737488355328) (hBw : B ≤ w.heap.size) :
    Calls Try.prog 29 #[.pointer (some ⟨b, 0, none⟩), .string s] w fun e w' => e = .returned (.tuple #[.int .i64 s.size, .nilIface]) ∧ (WB w' B b (bs ++ s.data.toList) t ∧ Below B w w' ∧ KeptB b w w') := by
  obtain ⟨i0, hi, hz0, hz1, hz2⟩ := info_parts Try.infoByte
  obtain ⟨hB, p, v, hp, hbk0, hown0, h0⟩ := h
  go_enter Try.func29, Try.ntmps29
  go_wp2_with (go_at_call 52; refine (copyCheckW b p v t _ hp hbk0).mono ?_)
  rintro e w1 ⟨rfl, hbk, hg1⟩
  have hne0 := ownF_ne hown0 hbk0 (by decide)
  have hown := hown0.kept hg1 (.inr hne0)
  have hne := ownF_ne hown hbk (by decide)
  have hs1 := hg1.size
  have c0 : w1.cell? ⟨b, 0, none⟩ = some (.pointer (some ⟨b, 0, none⟩)) := by rw [Lib.cell_of_heap hbk]; rfl
  have c1 : w1.cell? ⟨b, 1, none⟩ = some v := by rw [Lib.cell_of_heap hbk]; rfl
  go_wp2_with (at_builtin; refine Lib.wpList_append_own_stringF _ rfl _ _ 57 9 rfl B 5 i0 Try.underlying57 Try.underlying9 hi hz0 hz1 hz2 _ _ _ rfl hown s rfl ?c3 ?c4 ?c5 ?_)
  case c3 => unfold maxLen; omega
  case c4 => omega
  case c5 => omega
  intro v' w2 hown' hgrow hnil
  have hlt : b < w1.heap.size := (Array.getElem?_eq_some_iff.1 hbk).1
  have hb2 : w2.heap[b]? = some (.cells #[.pointer (some ⟨b, 0, none⟩), v, t] 92 (0, 0)) := by
    rw [hgrow.block b hlt (fun e => hne e.symm)]
    exact hbk
  have d0 : w2.cell? ⟨b, 0, none⟩ = some (.pointer (some ⟨b, 0, none⟩)) := by rw [Lib.cell_of_heap hb2]; rfl
  have d1 : w2.cell? ⟨b, 1, none⟩ = some v := by rw [Lib.cell_of_heap hb2]; rfl
  have f1 : w2.frozen? ⟨b, 1, none⟩ = false := Lib.frozen_of_heap hb2 1
  have hn' : bs ++ s.data.toList = [] → v' = .slice none 0 0 := by
    intro e
    have e1 := List.append_eq_nil_iff.1 e
    have e2 : s.data.size = 0 := by rw [← Array.length_toList, e1.2]; rfl
    exact hnil.2 ⟨h0 e1.1, by first | exact e2 | exact ByteArray.ext (Array.eq_empty_of_size_eq_zero e2)⟩
  have HN : Hid (bs ++ s.data.toList = [] → v' = .slice none 0 0) := hn'
  clear hn' hnil h0
  obtain ⟨ao, n', cap, rfl⟩ : ∃ ao n' cap, v' = .slice ao n' cap := by
    rcases hown'.2 with ⟨hv, _⟩ | ⟨g, cap, cur, fz, hv, _⟩
    · exact ⟨_, _, _, hv⟩
    · exact ⟨_, _, _, hv⟩
  go_wp2
  go_ret2
  have bel : Below B w w1 := (Below.refl B w).grown hg1 hBw (fun k hk => by cases hk; exact hB)
  refine ⟨rfl, ?_, ?_, ((kept_of_grown hg1).grown hgrow (Lib.ownsRowF_kind hown)).setCell ⟨b, 1, none⟩ rfl _⟩
  · refine WB.put hB (.inr rfl) hb2 (bs' := bs ++ s.data.toList) ?_ HN.out
    rw [Lib.byteCells_append, List.length_append]
    exact hown'
  · exact (bel.grown hgrow (by have := bel.size; omega) (fun k hk => (hown.lt k hk).1)).setCell (p := ⟨b, 1, none⟩) hB _
end Go.Proofs.Ytkbnafmkgiknbac
