/-
  The project's writer of expressions: what lies on its list, and contracts of later, meaning, sign and String over this translation. No statement is proved here.
-/
import Derived.Test.YtkbnafmkgiknbacWBuilder
import Derived.Test.YtkbnafmkgiknbacExStr
namespace Go.Proofs.Ytkbnafmkgiknbac
open Go.RowKit

/-- What the project's meaning of an expression holds. -/
inductive Mv where
  | nil
  | text (ty : TypeId) (t : ByteArray)
  | row (ty : TypeId) (a : Option Addr) (n c : Nat)
  | sign (ty : TypeId) (kd : Int) (tx : ByteArray) (a : Option Addr) (n c : Nat)
def Mv.val : Mv → Value
  | .nil => .nilIface
  | .text ty t => .iface ty (.agg #[.string t])
  | .row ty a n c => .iface ty (.agg #[.slice a n c])
  | .sign ty kd tx a n c => .iface ty (.agg #[.int .i64 kd, .string tx, .slice a n c])
theorem Mv.val_cases (m : Mv) : m.val = .nilIface ∨ ∃ ty u, m.val = .iface ty u := by
  cases m
  · exact .inl rfl
  all_goals exact .inr ⟨_, _, rfl⟩
/-- A piece: its text, what it holds, and the expression that this says. -/
structure Pc where
  text : ByteArray
  mv : Mv
  ex : Ex
def pcE : Enc Pc := ⟨2, fun p => [.string p.text, p.mv.val], fun _ => rfl, fun p u hu => by
  simp only [List.mem_cons, List.not_mem_nil, or_false] at hu
  rcases hu with rfl | rfl
  · rfl
  · cases p.mv <;> rfl, by decide⟩
/-- What it holds says the expression x, whose kids lie in the memory w. -/
def Means (w : World) : Mv → Ex → Prop
  | .nil, x => x.str = []
  | .text ty t, x => (ty = 116 ∨ ty = 117) ∧ x.str = t.data.toList
  | .row ty a n c, x => (ty = 119 ∧ x.kind = 2 ∨ ty = 120 ∧ x.kind = 3) ∧ n = x.kids.length ∧ RD w (.slice a n c) (exD x.kids)
  | .sign ty kd tx a n c, x => (ty = 122 ∧ x.kind = 4 ∨ ty = 123 ∧ x.kind = 5 ∨ ty = 124 ∧ x.kind = 6) ∧ ∃ y : Ex, x.kids = [y] ∧ kd = y.kind ∧ tx = y.text ∧ n = y.kids.length ∧ RD w (.slice a n c) (exD y.kids)
def Pc.wt (p : Pc) : Nat := match p.mv with
  | .nil => 1
  | _ => 3 * p.ex.nodes
def wtP (L : List Pc) : Nat := (L.map Pc.wt).sum
theorem Pc.wt_pos (p : Pc) : 1 ≤ p.wt := by
  have := Ex.nodes_eq p.ex
  unfold Pc.wt; split <;> omega
theorem Pc.wt_le (p : Pc) : p.wt ≤ 3 * p.ex.nodes := by
  have := Ex.nodes_eq p.ex
  unfold Pc.wt; split <;> omega
theorem wtP_append (L M : List Pc) : wtP (L ++ M) = wtP L + wtP M := by simp [wtP]
theorem wtP_cons (p : Pc) (M : List Pc) : wtP (p :: M) = p.wt + wtP M := by simp [wtP]
theorem wtP_one (p : Pc) : wtP [p] = p.wt := by simp [wtP]
theorem length_le_wtP (L : List Pc) : L.length ≤ wtP L := by
  induction L with
  | nil => simp
  | cons p L ih => have := p.wt_pos; rw [wtP_cons]; simp; omega
/-- What is still to be written, the last piece first. -/
def restP (L : List Pc) : List UInt8 := L.reverse.flatMap fun p => p.text.data.toList ++ p.ex.str
theorem restP_snoc (L : List Pc) (p : Pc) : restP (L ++ [p]) = (p.text.data.toList ++ p.ex.str) ++ restP L := by simp [restP]
theorem restP_append (L M : List Pc) : restP (L ++ M) = restP M ++ restP L := by simp [restP]

/-- Blocks that are no writer's, no row of bytes and no row of pieces stand as they stood. -/
def TK (w w' : World) : Prop := ∀ (k : Nat) (o : Obj), w.heap[k]? = some o → (∀ c fz, o ≠ .cells c 92 fz ∧ o ≠ .cells c 5 fz ∧ o ≠ .cells c 98 fz) → w'.heap[k]? = some o
theorem TK.refl (w : World) : TK w w := fun _ _ h _ => h
theorem TK.trans {a b c : World} (h : TK a b) (g : TK b c) : TK a c := fun k o hk ho => g k o (h k o hk ho) ho
theorem TK.below {w w' : World} (h : Below w.heap.size w w') : TK w w' := fun k _ hk _ => (h.block k (Array.getElem?_eq_some_iff.1 hk).1).trans hk
theorem TK.kept {w w' : World} {b : Nat} (h : KeptB b w w') (hb : ∃ c fz, w.heap[b]? = some (.cells c 92 fz)) : TK w w' := by
  intro k o hk ho
  obtain ⟨c, fz, hb⟩ := hb
  refine h k o hk (fun e => ?_) (fun c fz => (ho c fz).2.1)
  cases e
  rw [hk] at hb
  exact (ho c fz).1 (Option.some.inj hb)

/-- The writer in block b over the memory W0 at its caller's beginning: the bytes written, the pieces to come. -/
def Wr (W0 w : World) (b : Nat) (bs : List UInt8) (L : List Pc) : Prop :=
  ∃ t, WB w W0.heap.size b bs t ∧ OwnT pcE w W0.heap.size 98 t L ∧ Below W0.heap.size W0 w ∧ ∀ p ∈ L, Means W0 p.mv p.ex
theorem Wr.later {W0 w w' : World} {b : Nat} {bs : List UInt8} {L : List Pc} (h : Wr W0 w b bs L) (hb : Below w.heap.size w w') : Wr W0 w' b bs L := by
  obtain ⟨t, h1, h2, h3, h4⟩ := h
  exact ⟨t, h1.later hb, h2.below hb, h3.trans (hb.mono h3.size), h4⟩
theorem Wr.bel {W0 w : World} {b : Nat} {bs : List UInt8} {L : List Pc} (h : Wr W0 w b bs L) : Below W0.heap.size W0 w := by
  obtain ⟨t, h1, h2, h3, h4⟩ := h; exact h3
theorem Wr.lt {W0 w : World} {b : Nat} {bs : List UInt8} {L : List Pc} (h : Wr W0 w b bs L) : b < w.heap.size := by
  obtain ⟨t, h1, h2, h3, h4⟩ := h; exact h1.lt
theorem ownT_others {w w' : World} {B b : Nat} {t : Value} {L : List Pc} (h : OwnT pcE w B 98 t L) (hk : KeptB b w w') (hb : ∃ c fz, w.heap[b]? = some (.cells c 92 fz)) : OwnT pcE w' B 98 t L := by
  refine ⟨h.1, ?_⟩
  rcases h.2 with hn | ⟨g, cap, cur, hv, h3, hg, r⟩
  · exact .inl hn
  · refine .inr ⟨g, cap, cur, hv, h3, ?_, r⟩
    obtain ⟨c, fz, hb⟩ := hb
    refine hk g _ hg (fun e => ?_) (fun c fz e => ?_)
    · cases e
      rw [hg] at hb
      simp only [Option.some.injEq, Obj.cells.injEq] at hb
      exact absurd hb.2.1 (by decide)
    · simp only [Obj.cells.injEq] at e
      exact absurd e.2.1 (by decide)
/-- The builder has been written to. -/
theorem Wr.wrote {W0 w w' : World} {b : Nat} {bs bs' : List UInt8} {t : Value} {L : List Pc} (hw : WB w W0.heap.size b bs t) (h2 : OwnT pcE w W0.heap.size 98 t L) (h3 : Below W0.heap.size W0 w) (h4 : ∀ p ∈ L, Means W0 p.mv p.ex)
    (hw' : WB w' W0.heap.size b bs' t) (hb : Below W0.heap.size w w') (hk : KeptB b w w') : Wr W0 w' b bs' L :=
  ⟨t, hw', ownT_others h2 hk hw.block, h3.trans hb, h4⟩

theorem Try.infoPiece : (Try.prog.info? 98).map (fun i => (i.zero, i.size, i.bytes)) = some (some (.agg #[.string ByteArray.empty, .nilIface]), 2, 32) := by kernel_rfl

theorem later_mid {W0 w w2 : World} {b : Nat} {bs : List UInt8} {L : List Pc} {t : Value} {o : Obj} (HW : WB w W0.heap.size b bs t) (HO : OwnT pcE w W0.heap.size 98 t L) (HB : Below W0.heap.size W0 w) (hgrow : (w.alloc o).grownBy w2 t.ownBlock) :
    WB w2 W0.heap.size b bs t ∧ Below W0.heap.size W0 w2 ∧ TK w w2 := by
  have hb0 : Below w.heap.size w (w.alloc o) := (Below.refl _ _).alloc (Nat.le_refl _) _
  have hkind : ∀ k, t.ownBlock = some k → ∃ c fz, (w.alloc o).heap[k]? = some (.cells c 98 fz) := fun k hk => ownF_kind (World.ownsRowF_of (HO.alloc o)) hk
  refine ⟨(HW.alloc o).kept hgrow (fun k hk c fz => ?_), ?_, ?_⟩
  · obtain ⟨c', fz', hk'⟩ := hkind k hk
    rw [hk']
    simp
  · refine (HB.trans (hb0.mono HB.size)).grown hgrow (by have := HB.size; simp; omega) (fun k hk => ?_)
    exact ((HO.alloc o).block k hk).1
  · refine (TK.below hb0).trans (fun k o' hk ho => ?_)
    have hlt' : k < (w.alloc o).heap.size := (Array.getElem?_eq_some_iff.1 hk).1
    rw [hgrow.block k hlt' (fun e => ?_)]
    · exact hk
    · obtain ⟨c', fz', hk'⟩ := hkind k e.symm
      rw [hk] at hk'
      exact (ho c' fz').2.2 (Option.some.inj hk')
theorem later_end {W0 w w2 : World} {b : Nat} {bs : List UInt8} {L : List Pc} {t t' : Value} (HW : WB w2 W0.heap.size b bs t) (HB : Below W0.heap.size W0 w2) (HT : TK w w2) (HO : OwnT pcE w2 W0.heap.size 98 t' L) (HM : ∀ q ∈ L, Means W0 q.mv q.ex) :
    Wr W0 (w2.setCell ⟨b, 2, none⟩ t') b bs L ∧ TK w (w2.setCell ⟨b, 2, none⟩ t') := by
  obtain ⟨c, fz, hb⟩ := HW.block
  refine ⟨⟨_, HW.list _, ?_, HB.setCell (p := ⟨b, 2, none⟩) HW.1 _, HM⟩, HT.trans (fun k o hk ho => ?_)⟩
  · exact HO.kept (row := some b) ⟨rfl, rfl, rfl, by simp [World.setCell], fun k _ hk => Below.heap_setCell _ _ _ _ (fun e => hk (by simp [e]))⟩ (.inr (own_ne HO hb (by decide)))
  · rw [Below.heap_setCell _ _ _ _ (fun e => ?_)]
    · exact hk
    · simp at e
      subst e
      rw [hk] at hb
      exact (ho c fz).1 (Option.some.inj hb)

set_option maxRecDepth 100000 in
theorem later_any (W0 : World) (b : Nat) (bs : List UInt8) (L : List Pc) (p : Pc) (w : World) (h : Wr W0 w b bs L) (hm : Means W0 p.mv p.ex) (hlen : L.length + 1 ≤ 1099511627776) :
    Calls Try.prog 46 #[.pointer (some ⟨b, 0, none⟩), .string p.text, p.mv.val] w fun e w' => e = .returned (.tuple #[]) ∧ Wr W0 w' b bs (L ++ [p]) ∧ TK w w' := by
  obtain ⟨t, hw, hown, hbel, hms⟩ := h
  have c2 := hw.cell2
  have f2 := hw.frozen2
  have hlt := hw.lt
  have hsz := hbel.size
  obtain ⟨a, cap, rfl, _⟩ := hown.shape
  have HW : Hid (WB w W0.heap.size b bs (.slice a L.length cap)) := hw
  have HO : Hid (OwnT pcE w W0.heap.size 98 (.slice a L.length cap) L) := hown
  have HM : Hid (∀ q ∈ L ++ [p], Means W0 q.mv q.ex) := by
    intro q hq
    rcases List.mem_append.1 hq with hq | hq
    · exact hms q hq
    · simp at hq; subst hq; exact hm
  have HB : Hid (Below W0.heap.size W0 w) := hbel
  clear hw hown hms hm hbel
  obtain ⟨tx, mv, ex⟩ := p
  have hvc := mv.val_cases
  generalize hv : mv.val = v at *
  rcases hvc with rfl | ⟨ty, u, rfl⟩
  all_goals
    go_enter Try.func46, Try.ntmps46
    go_wp2_with (at_builtin; refine wpList_appendT (E := pcE) _ rfl (.tmp 10) (.tmp 14) 90 rfl W0.heap.size 98 (.agg #[.string ByteArray.empty, .nilIface]) 32 Try.underlying90 Try.infoPiece rfl (by decide) _ L rfl (HO.out.alloc _) _ _ _ [⟨tx, mv, ex⟩] rfl rfl (ReadsT.new _ _ _ _ (by simp [pcE, hv])) hlen (by simp; omega) ?_)
    intro v' w2 hown' hgrow
    obtain ⟨M1, M2, M3⟩ := later_mid HW.out HO.out HB.out hgrow
    have c2' := M1.cell2
    have f2' := M1.frozen2
    have hlt2 := M1.lt
    have HO2 : Hid (OwnT pcE w2 W0.heap.size 98 v' (L ++ [⟨tx, mv, ex⟩])) := hown'
    have HW2 : Hid (WB w2 W0.heap.size b bs (.slice a L.length cap)) := M1
    have HB2 : Hid (Below W0.heap.size W0 w2) := M2
    have HT2 : Hid (TK w w2) := M3
    clear hown' hgrow HB HW M1 M2 M3
    obtain ⟨a', cap', rfl, _⟩ := HO2.out.shape
    go_wp2
    go_end0
    exact ⟨rfl, later_end HW2.out HB2.out HT2.out (by have := HO2.out; rw [List.length_append] at this; exact this) HM.out⟩
end Go.Proofs.Ytkbnafmkgiknbac
