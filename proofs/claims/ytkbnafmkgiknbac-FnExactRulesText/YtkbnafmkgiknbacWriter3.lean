/-
  Contracts of the project's writer: sign, row and write, over this translation. No statement is proved here.
-/
import Derived.Test.YtkbnafmkgiknbacWriter2
namespace Go.Proofs.Ytkbnafmkgiknbac
open Go.RowKit

/-- An expression that has no text. -/
def Ex.noText : Ex := .mk 7 ByteArray.empty []
theorem Ex.noText_str : Ex.noText.str = [] := str_none (.inl (by simp [Ex.noText, Ex.kind_mk]))
/-- A piece of text alone. -/
def Pc.plain (t : ByteArray) : Pc := ⟨t, .nil, Ex.noText⟩
theorem Pc.plain_means (W0 : World) (t : ByteArray) : Means W0 (Pc.plain t).mv (Pc.plain t).ex := Ex.noText_str
theorem Pc.plain_wt (t : ByteArray) : (Pc.plain t).wt = 1 := rfl

set_option maxRecDepth 100000 in
theorem sign_any (W0 : World) (b : Nat) (bs : List UInt8) (L : List Pc) (y : Ex) (a : Option Addr) (c : Nat) (s : ByteArray) (w : World) (h : Wr W0 w b bs L) (hr : RD W0 (.slice a y.kids.length c) (exD y.kids)) (hlen : L.length + 2 ≤ 1099511627776) :
    Calls Try.prog 60 #[.pointer (some ⟨b, 0, none⟩), .agg #[.int .i64 y.kind, .string y.text, .slice a y.kids.length c], .string s] w fun e w' =>
      ∃ m : Mv, e = .returned (.tuple #[]) ∧ Wr W0 w' b bs (L ++ [Pc.plain s] ++ [⟨⟨#[]⟩, m, y⟩]) ∧ TK w w' := by
  have H : Hid (Wr W0 w b bs L) := h
  have HR : Hid (RD W0 (.slice a y.kids.length c) (exD y.kids)) := hr
  clear h hr
  have hb0 : Below w.heap.size w (w.alloc (.cells #[.int .i64 y.kind, .string y.text, .slice a y.kids.length c] 42)) := (Below.refl _ _).alloc (Nat.le_refl _) _
  go_enter Try.func60, Try.ntmps60
  go_wp2_with fail
  refine (later_any W0 b bs L (Pc.plain s) _ (H.out.later hb0) (Pc.plain_means _ _) (by omega)).mono ?_
  rintro e w1 ⟨rfl, R1, T1⟩
  have hk := T1 w.heap.size _ (heap_alloc_new w _) (fun c fz => by simp)
  have c0 : w1.cell? ⟨w.heap.size, 0, none⟩ = some (.int .i64 y.kind) := by rw [Lib.cell_of_heap hk]; rfl
  have c1 : w1.cell? ⟨w.heap.size, 1, none⟩ = some (.string y.text) := by rw [Lib.cell_of_heap hk]; rfl
  have c2 : w1.cell? ⟨w.heap.size, 2, none⟩ = some (.slice a y.kids.length c) := by rw [Lib.cell_of_heap hk]; rfl
  have HR1 : Hid (Wr W0 w1 b bs (L ++ [Pc.plain s])) := R1
  have HT1 : Hid (TK w w1) := (TK.below hb0).trans T1
  clear R1 T1 hk H
  go_wp2_with fail
  refine (meaning_any y a c W0 _ HR.out HR1.out.bel).mono ?_
  rintro e w2 ⟨m, rfl, hm, hb2⟩
  have HR2 : Hid (Wr W0 w2 b bs (L ++ [Pc.plain s])) := HR1.out.later hb2
  have HT2 : Hid (TK w w2) := HT1.out.trans (TK.below hb2)
  have HM : Hid (Means W0 m y) := hm
  clear hm hb2 HR1 HT1 c0 c1 c2
  go_wp2_with fail
  refine (later_any W0 b bs (L ++ [Pc.plain s]) ⟨⟨#[]⟩, m, y⟩ _ HR2.out HM.out (by simp; omega)).mono ?_
  rintro e w3 ⟨rfl, R3, T3⟩
  have HR3 : Hid (Wr W0 w3 b bs (L ++ [Pc.plain s] ++ [⟨⟨#[]⟩, m, y⟩]) ∧ TK w w3) := ⟨R3, HT2.out.trans T3⟩
  clear R3 T3 HR2 HT2
  go_wp2
  go_end0
  exact ⟨m, rfl, HR3.out⟩

/-- The texts of kids with a text between. -/
def kidsStr (sep : List UInt8) : List Ex → List UInt8
  | [] => []
  | y :: ys => y.str ++ ys.flatMap fun z => sep ++ z.str
/-- What the pieces of the kids of a row are, the last kid first: each behind its sign, and says that kid. -/
def KidPcs (sep : ByteArray) (ks : List Ex) (N : List Pc) : Prop := N.map Pc.ex = ks.reverse ∧ ∀ p ∈ N, p.text = sep
theorem KidPcs.rest {sep : ByteArray} {ks : List Ex} {N : List Pc} (h : KidPcs sep ks N) : restP N = ks.flatMap fun y => sep.data.toList ++ y.str := by
  obtain ⟨h1, h2⟩ := h
  have e : ks = N.reverse.map Pc.ex := by rw [List.map_reverse, h1, List.reverse_reverse]
  subst e
  rw [restP, List.flatMap_map]
  have : ∀ (M : List Pc), (∀ p ∈ M, p.text = sep) → M.flatMap (fun p => p.text.data.toList ++ p.ex.str) = M.flatMap (fun p => sep.data.toList ++ p.ex.str) := by
    intro M hM
    induction M with
    | nil => rfl
    | cons p M ih =>
      rw [List.flatMap_cons, List.flatMap_cons, ih (fun q hq => hM q (List.mem_cons_of_mem _ hq)), hM p List.mem_cons_self]
  exact this _ (fun p hp => h2 p (List.mem_reverse.1 hp))
theorem KidPcs.wt {sep : ByteArray} {ks : List Ex} {N : List Pc} (h : KidPcs sep ks N) : wtP N ≤ 3 * Ex.nodesL ks := by
  have h1 := h.1
  clear h
  have e : ks = (N.map Pc.ex).reverse := by rw [h1, List.reverse_reverse]
  subst e
  clear h1
  induction N with
  | nil => simp [wtP]
  | cons p N ih =>
    have := p.wt_le
    rw [wtP_cons, List.map_cons, List.reverse_cons, Ex.nodesL_append]
    simp only [Ex.nodesL]
    omega
theorem KidPcs.length {sep : ByteArray} {ks : List Ex} {N : List Pc} (h : KidPcs sep ks N) : N.length = ks.length := by
  have := congrArg List.length h.1
  simpa using this
theorem KidPcs.nil (sep : ByteArray) : KidPcs sep [] [] := ⟨rfl, by simp⟩
theorem KidPcs.snoc {sep : ByteArray} {ks : List Ex} {N : List Pc} {k : Nat} (hk : k < ks.length) (h : KidPcs sep (ks.drop (k + 1)) N) (m : Mv) : KidPcs sep (ks.drop k) (N ++ [⟨sep, m, ks[k]⟩]) := by
  obtain ⟨h1, h2⟩ := h
  refine ⟨?_, ?_⟩
  · rw [List.drop_eq_getElem_cons hk, List.reverse_cons, List.map_append, h1]; rfl
  · intro p hp
    rcases List.mem_append.1 hp with hp | hp
    · exact h2 p hp
    · simp at hp; subst hp; rfl
theorem joinTo_flat (sep : UInt8) (y : Ex) (ys : List Ex) : joinTo sep ((y :: ys).map Ex.str) (y :: ys).length = y.str ++ ys.flatMap fun z => [sep] ++ z.str := by
  have key : ∀ k, k ≤ ys.length → joinTo sep ((y :: ys).map Ex.str) (k + 1) = y.str ++ (ys.take k).flatMap fun z => [sep] ++ z.str := by
    intro k
    induction k with
    | zero => intro _; rw [joinTo_first (by simp)]; simp
    | succ k ih =>
      intro hk
      rw [joinTo_next (by simp; omega) (by omega), ih (by omega), List.take_succ_eq_append_getElem (by omega), List.flatMap_append]
      simp
  rw [List.length_cons, key ys.length (Nat.le_refl _), List.take_length]

set_option maxHeartbeats 1000000 in
set_option maxRecDepth 100000 in
theorem row_any (W0 : World) (b : Nat) (bs : List UInt8) (L : List Pc) (ks : List Ex) (a : Option Addr) (c : Nat) (s : ByteArray) (w : World) (h : Wr W0 w b bs L) (hr : RD W0 (.slice a ks.length c) (exD ks)) (hlen : L.length + ks.length + 1 ≤ 1099511627776) (hbs : bs.length + 1 ≤ 140737488355328) :
    Calls Try.prog 59 #[.pointer (some ⟨b, 0, none⟩), .slice a ks.length c, .string s] w fun e w' =>
      ∃ N, e = .returned (.tuple #[]) ∧ Wr W0 w' b (bs ++ [40]) (L ++ [Pc.plain ⟨#[41]⟩] ++ N) ∧ wtP N ≤ 3 * Ex.nodesL ks ∧ restP N = kidsStr s.data.toList ks ∧ TK w w' := by
  have HR : Hid (RD W0 (.slice a ks.length c) (exD ks)) := hr
  have hbel := h.bel
  have hsz := hbel.size
  obtain ⟨t, hw, hown, _, hms⟩ := h
  have HU : Hid (WB w W0.heap.size b bs t ∧ OwnT pcE w W0.heap.size 98 t L ∧ Below W0.heap.size W0 w ∧ ∀ p ∈ L, Means W0 p.mv p.ex) := ⟨hw, hown, hbel, hms⟩
  clear hr hw hown hms hbel
  go_enter Try.func59, Try.ntmps59
  go_wp2_with fail
  refine (writeByteW W0.heap.size b bs 40 t w HU.out.1 hbs hsz).mono ?_
  rintro e w1 ⟨rfl, hw1, hb1, hk1⟩
  have HR1 : Hid (Wr W0 w1 b (bs ++ [40]) L) := Wr.wrote HU.out.1 HU.out.2.1 HU.out.2.2.1 HU.out.2.2.2 hw1 hb1 hk1
  have HT1 : Hid (TK w w1) := TK.kept hk1 HU.out.1.block
  clear hw1 hb1 hk1 HU
  go_wp2_with fail
  refine (later_any W0 b (bs ++ [40]) L (Pc.plain ⟨#[41]⟩) w1 HR1.out (Pc.plain_means _ _) (by omega)).mono ?_
  rintro e w2 ⟨rfl, R2, T2⟩
  have HR2 : Hid (Wr W0 w2 b (bs ++ [40]) (L ++ [Pc.plain ⟨#[41]⟩])) := R2
  have HT2 : Hid (TK w w2) := HT1.out.trans T2
  clear R2 T2 HR1 HT1
  have hlk : ks.length ≤ 1099511627776 := by omega
  go_wp2
  go_loopw [6] (fun i wr => ∃ (k : Nat) (N : List Pc), i = .int .i64 ((k : Int) - 1) ∧ k ≤ ks.length ∧ (k = 0 → ks = []) ∧ Hid (KidPcs s (ks.drop k) N ∧ Wr W0 wr b (bs ++ [40]) (L ++ [Pc.plain ⟨#[41]⟩] ++ N) ∧ TK w wr)) (fun i _ => (intOf i + 1).toNat)
  case atStart => exact ⟨ks.length, [], rfl, Nat.le_refl _, fun h => List.eq_nil_of_length_eq_zero h, by rw [List.drop_length]; exact KidPcs.nil s, by simpa using HR2.out, HT2.out⟩
  case round =>
    obtain ⟨k, N, rfl, hk, hk0, HI⟩ := hrel
    clear HR2 HT2
    by_cases h2 : 2 ≤ k
    · have hlt : k - 1 < ks.length := by omega
      obtain ⟨b1, o1, rfl, hb1, q0, q1, a1, c1, q2, r1⟩ := (HR.out.later HI.out.2.1.bel).ex hlt
      have r1' : RD W0 (.slice a1 ks[k - 1].kids.length c1) (exD ks[k - 1].kids) := by
        obtain ⟨b1', o1', e1', hb1', _, _, a1', c1', q2', r1'⟩ := HR.out.ex hlt
        cases e1'
        have := (HI.out.2.1.bel.cell (p := ⟨b1, o1 + (k - 1) * 3 + 2, none⟩) hb1').trans q2'
        rw [this] at q2
        cases q2
        exact r1'
      have HRK : Hid (RD W0 (.slice a1 ks[k - 1].kids.length c1) (exD ks[k - 1].kids)) := r1'
      have e1 : ((k : Int) - 1) = ((k - 1 : Nat) : Int) := by omega
      have hN := HI.out.1.length
      have hdl : (ks.drop k).length ≤ ks.length - k := by simp
      have HS : Hid (KidPcs s (ks.drop (k - 1)) (N ++ [⟨s, .nil, ks[k - 1]⟩]) ∧ ∀ m, KidPcs s (ks.drop (k - 1)) (N ++ [⟨s, m, ks[k - 1]⟩])) := by
        have hh : KidPcs s (ks.drop (k - 1 + 1)) N := by rw [Nat.sub_add_cancel (by omega)]; exact HI.out.1
        exact ⟨hh.snoc hlt .nil, fun m => hh.snoc hlt m⟩
      rw [e1]
      clear r1 r1'
      generalize hy : ks[k - 1] = y at *
      go_wp2_with fail
      refine (meaning_any y a1 c1 W0 wr HRK.out HI.out.2.1.bel).mono ?_
      rintro e w3 ⟨m, rfl, hm, hb3⟩
      have HR3 : Hid (Wr W0 w3 b (bs ++ [40]) (L ++ [Pc.plain ⟨#[41]⟩] ++ N) ∧ TK w w3) := ⟨HI.out.2.1.later hb3, HI.out.2.2.trans (TK.below hb3)⟩
      have HM : Hid (Means W0 m y) := hm
      clear hm hb3 q0 q1 q2
      go_wp2_with fail
      refine (later_any W0 b (bs ++ [40]) (L ++ [Pc.plain ⟨#[41]⟩] ++ N) ⟨s, m, y⟩ w3 HR3.out.1 HM.out (by simp; omega)).mono ?_
      rintro e w4 ⟨rfl, R4, T4⟩
      have HR4 : Hid (Wr W0 w4 b (bs ++ [40]) (L ++ [Pc.plain ⟨#[41]⟩] ++ (N ++ [⟨s, m, y⟩])) ∧ TK w w4) := ⟨by rw [← List.append_assoc]; exact R4, HR3.out.2.trans T4⟩
      clear R4 T4 HR3
      go_wp2
      go_roundw
      case rel => exact ⟨k - 1, N ++ [⟨s, m, y⟩], by first | rfl | (congr 1; omega), by omega, fun h => by omega, HS.out.2 m, HR4.out⟩
      case measure => simp [intOf] <;> omega
    · by_cases h0 : k = 0
      · have hks := hk0 h0
        subst hks
        subst h0
        have HE : N = [] := by have := HI.out.1.length; simpa using this
        have f1 : Hid (Wr W0 wr b (bs ++ [40]) (L ++ [Pc.plain ⟨#[41]⟩] ++ [])) := by have := HI.out.2.1; rw [HE] at this; exact this
        have f2 : Hid (TK w wr) := HI.out.2.2
        clear HE HI HR hk0
        go_wp2
        go_end0
        first
          | exact ⟨[], rfl, f1.out, by simp [wtP], by simp [restP, kidsStr], f2.out⟩
          | exact ⟨rfl, [], f1.out, by simp [wtP], by simp [restP, kidsStr], f2.out⟩
      · have h1 : k = 1 := by omega
        subst h1
        have hlt : 0 < ks.length := by omega
        obtain ⟨b1, o1, rfl, hb1, q0, q1, a1, c1, q2, r1⟩ := (HR.out.later HI.out.2.1.bel).ex hlt
        have r1' : RD W0 (.slice a1 ks[0].kids.length c1) (exD ks[0].kids) := by
          obtain ⟨b1', o1', e1', hb1', _, _, a1', c1', q2', r1'⟩ := HR.out.ex hlt
          cases e1'
          have := (HI.out.2.1.bel.cell (p := ⟨b1, o1 + 0 * 3 + 2, none⟩) hb1').trans q2'
          rw [this] at q2
          cases q2
          exact r1'
        have HRK : Hid (RD W0 (.slice a1 ks[0].kids.length c1) (exD ks[0].kids)) := r1'
        have hN := HI.out.1.length
        have hdl : (ks.drop 1).length ≤ ks.length - 1 := by simp
        have HE : Hid (∀ m : Mv, wtP (N ++ [⟨⟨#[]⟩, m, ks[0]⟩]) ≤ 3 * Ex.nodesL ks ∧ restP (N ++ [⟨⟨#[]⟩, m, ks[0]⟩]) = kidsStr s.data.toList ks) := by
          intro m
          have hw := HI.out.1.wt
          have hr := HI.out.1.rest
          cases ks with
          | nil => simp at hlt
          | cons y ys =>
            simp only [List.drop_succ_cons, List.drop_zero] at hw hr
            have hwl := Pc.wt_le ⟨⟨#[]⟩, m, y⟩
            refine ⟨?_, ?_⟩
            · rw [wtP_append, wtP_one]
              simp only [Ex.nodesL, List.getElem_cons_zero]
              simp only at hwl
              omega
            · rw [restP_append, hr]
              simp [restP, kidsStr]
        simp only [Nat.zero_mul, Nat.add_zero] at q0 q1 q2
        clear r1 r1'
        generalize ks[0] = y at *
        go_wp2_with fail
        refine (meaning_any y a1 c1 W0 wr HRK.out HI.out.2.1.bel).mono ?_
        rintro e w3 ⟨m, rfl, hm, hb3⟩
        have HR3 : Hid (Wr W0 w3 b (bs ++ [40]) (L ++ [Pc.plain ⟨#[41]⟩] ++ N) ∧ TK w w3) := ⟨HI.out.2.1.later hb3, HI.out.2.2.trans (TK.below hb3)⟩
        have HM : Hid (Means W0 m y) := hm
        clear hm hb3 q0 q1 q2
        go_wp2_with fail
        refine (later_any W0 b (bs ++ [40]) (L ++ [Pc.plain ⟨#[41]⟩] ++ N) ⟨⟨#[]⟩, m, y⟩ w3 HR3.out.1 HM.out (by simp; omega)).mono ?_
        rintro e w4 ⟨rfl, R4, T4⟩
        have HR4 : Hid (Wr W0 w4 b (bs ++ [40]) (L ++ [Pc.plain ⟨#[41]⟩] ++ (N ++ [⟨⟨#[]⟩, m, y⟩])) ∧ TK w w4) := ⟨by rw [← List.append_assoc]; exact R4, HR3.out.2.trans T4⟩
        clear R4 T4 HR3
        go_wp2
        go_end0
        exact ⟨_, rfl, HR4.out.1, (HE.out m).1, (HE.out m).2, HR4.out.2⟩
end Go.Proofs.Ytkbnafmkgiknbac
