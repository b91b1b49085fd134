/-
  Contracts and plain mathematics, joined: FirstsUp, FirstsIs, BuildB, BuildS, LeastB, BeginStep, IsThere, BeginsOf, FirstOf, FirstOfLaw. No statement is proved here.
-/
import Derived.Test.YtdniejpblhbjkabG5
import Derived.Test.YtdniejpblhbjkabG4
import Derived.Test.YtdniejpblhbjkabG2
import Derived.Test.YtdniejpblhbjkabG3
namespace Go.Proofs.Ytdniejpblhbjkab
open Go.RowKit

/-- Whether a row can begin with c, by a table. -/
def bgT (E : List Int) (T : List Bool) (c : Nat) : List Int → Bool
  | [] => false
  | x :: xs => if inB x 0 25 then decide ((c : Int) = x) else if decide (100 ≤ x ∧ x - 100 < 20) then (T.getD ((x - 100).toNat * 27 + c) false || (hasL E (x - 100) && bgT E T c xs)) else false
theorem joinB0_get {F cs : List Bool} (hF : F.length = 27) {c : Nat} (hc : c < 27) : (joinB F 0 cs).getD c false = (F.getD c false || cs.getD c false) := by
  rw [joinB_get (by omega), decide_eq_true (show 0 ≤ c ∧ c < 0 + 27 by omega), Bool.true_and, Nat.sub_zero]
theorem ofB_get (E : List Int) (T : List Bool) (c : Nat) (hc : c < 27) (row : List Int) : ∀ F : List Bool, F.length = 27 → (ofB (flagsOf E ++ T) F row).1.getD c false = (F.getD c false || bgT E T c row) := by
  induction row with
  | nil => intro F _; rw [ofB, bgT, Bool.or_false]
  | cons x xs ih =>
    intro F hF
    rw [ofB, bgT]
    by_cases h1 : inB x 0 25 = true
    · have hx := inB_true.1 h1
      rw [if_pos h1, if_pos h1, getD_setB]
      by_cases e : c = x.toNat
      · rw [if_pos ⟨e, by omega⟩, decide_eq_true (by omega), Bool.or_true]
      · rw [if_neg (fun h => e h.1), decide_eq_false (by omega), Bool.or_false]
    · rw [if_neg h1, if_neg h1]
      by_cases h2 : 100 ≤ x ∧ x - 100 < 20
      · rw [if_pos (decide_eq_true h2), if_pos (decide_eq_true h2)]
        have hn : (x - 100).toNat < 27 := by omega
        have e1 : (flagsOf E ++ T).getD (x - 100).toNat false = hasL E (x - 100) := by
          have := flagsOf_get E hn
          rw [show (((x - 100).toNat : Nat) : Int) = x - 100 by omega] at this
          rw [← this, List.getD_eq_getElem?_getD, List.getD_eq_getElem?_getD, List.getElem?_append_left (by rw [flagsOf_length]; exact hn)]
        have e2 : (flagsOf E ++ T).drop (27 + (x - 100).toNat * 27) = T.drop ((x - 100).toNat * 27) := by
          rw [List.drop_append, flagsOf_length, List.drop_eq_nil_of_le (by rw [flagsOf_length]; omega), List.nil_append, show 27 + (x - 100).toNat * 27 - 27 = (x - 100).toNat * 27 by omega]
        rw [e1, e2]
        have hj := joinB0_get (F := F) (cs := (T.drop ((x - 100).toNat * 27)).take 27) hF hc
        rw [chunk_get _ _ _ hc] at hj
        have hl := joinB_length F 0 ((T.drop ((x - 100).toNat * 27)).take 27)
        generalize joinB F 0 ((T.drop ((x - 100).toNat * 27)).take 27) = G at *
        by_cases h3 : hasL E (x - 100) = true
        · rw [if_pos h3, ih G (by omega), hj, h3, Bool.true_and, Bool.or_assoc]
        · have h3' : hasL E (x - 100) = false := by simpa using h3
          rw [if_neg h3, hj, h3', Bool.false_and, Bool.or_false]
      · rw [if_neg (by simpa using h2), if_neg (by simpa using h2), Bool.or_false]
/-- One row's step. -/
def bgR (E : List Bool) (k : Nat) (row : List Int) (T : List Bool) : List Bool := joinB T (k * 27) (ofB (E ++ T) (List.replicate 27 false) row).1
theorem bgR_raises (E : List Bool) (P : List (List (List Int))) : Raises (bgR E) P 540 := fun k _ i _ T hT => by
  have := Up.joinB T (k * 27) (ofB (E ++ T) (List.replicate 27 false) P[k][i]).1
  exact ⟨by rw [bgR, this.1]; exact hT, this.2⟩
theorem bgR_get {E : List Int} {k : Nat} {row : List Int} {T : List Bool} (hT : T.length = 540) (hk : k < 20) {j c : Nat} (hc : c < 27) :
    (bgR (flagsOf E) k row T).getD (j * 27 + c) false = true ↔ (T.getD (j * 27 + c) false = true ∨ (j = k ∧ bgT E T c row = true)) := by
  rw [bgR, joinB_get (by omega)]
  by_cases e : j = k
  · subst e
    rw [decide_eq_true (show j * 27 ≤ j * 27 + c ∧ j * 27 + c < j * 27 + 27 by omega), Bool.true_and, show j * 27 + c - j * 27 = c by omega, ofB_get E T c hc row _ List.length_replicate, rep_getD, Bool.false_or]
    simp
  · rw [decide_eq_false (show ¬ (k * 27 ≤ j * 27 + c ∧ j * 27 + c < k * 27 + 27) by omega), Bool.false_and, Bool.or_false]
    simp [e]
theorem bgT_of {E : List Int} {T : List Bool} {c : Nat} {b : List Bool} (h : ∀ n, n < b.length → T.getD (n * 27 + c) false = true → b.getD n false = true) : ∀ row : List Int, (∀ z ∈ row, (0 ≤ z ∧ z ≤ 25) ∨ (100 ≤ z ∧ z < 100 + b.length)) → bgT E T c row = true → bgB E (c : Int) b row = true
  | [], _, g => by simp [bgT] at g
  | x :: xs, hz, g => by
    have hx := hz x List.mem_cons_self
    rw [bgT] at g
    rw [bgB]
    by_cases h1 : inB x 0 25 = true
    · rw [if_pos h1] at g ⊢; exact g
    · rw [if_neg h1] at g ⊢
      have h1' : ¬ (0 ≤ x ∧ x ≤ 25) := fun h => h1 (inB_true.2 h)
      rw [if_pos (inB_true.2 (by omega))]
      split at g
      · rw [Bool.or_eq_true] at g ⊢
        rcases g with g | g
        · exact .inl (h _ (by omega) g)
        · rw [Bool.and_eq_true] at g ⊢
          exact .inr ⟨g.1, bgT_of h xs (fun z hz2 => hz z (List.mem_cons_of_mem _ hz2)) g.2⟩
      · cases g
theorem bgB_of {E : List Int} {T : List Bool} {c : Nat} {b : List Bool} (hb : b.length ≤ 20) (h : ∀ n, n < b.length → b.getD n false = true → T.getD (n * 27 + c) false = true) : ∀ row : List Int, bgB E (c : Int) b row = true → bgT E T c row = true
  | [], g => by simp [bgB] at g
  | x :: xs, g => by
    rw [bgB] at g
    rw [bgT]
    by_cases h1 : inB x 0 25 = true
    · rw [if_pos h1] at g ⊢; exact g
    · rw [if_neg h1] at g ⊢
      split at g
      · rename_i h2
        have h2' := inB_true.1 h2
        rw [if_pos (decide_eq_true (by omega))]
        rw [Bool.or_eq_true] at g ⊢
        rcases g with g | g
        · exact .inl (h _ (by omega) g)
        · rw [Bool.and_eq_true] at g ⊢
          exact .inr ⟨g.1, bgB_of hb h xs g.2⟩
      · cases g
end Go.Proofs.Ytdniejpblhbjkab
namespace Go.Proofs.Ytdniejpblhbjkab
open Go.RowKit

theorem bgT_all {E : List Int} {T : List Bool} {c : Nat} {b : List Bool} (h : ∀ n, n < b.length → T.getD (n * 27 + c) false = true → b.getD n false = true) (hT : ∀ n, b.length ≤ n → n < 20 → T.getD (n * 27 + c) false = false) (hE : ∀ x ∈ E, x < b.length) : ∀ row : List Int, bgT E T c row = true → bgB E (c : Int) b row = true
  | [], g => by simp [bgT] at g
  | x :: xs, g => by
    rw [bgT] at g
    rw [bgB]
    by_cases h1 : inB x 0 25 = true
    · rw [if_pos h1] at g ⊢; exact g
    · rw [if_neg h1] at g ⊢
      split at g
      · rename_i h2
        have h2' : 100 ≤ x ∧ x - 100 < 20 := of_decide_eq_true h2
        by_cases h3 : x - 100 < b.length
        · rw [if_pos (inB_true.2 (by omega))]
          rw [Bool.or_eq_true] at g ⊢
          rcases g with g | g
          · exact .inl (h _ (by omega) g)
          · rw [Bool.and_eq_true] at g ⊢
            exact .inr ⟨g.1, bgT_all h hT hE xs g.2⟩
        · rw [hT _ (by omega) (by omega), hasL_no (fun hm => h3 (hE _ hm))] at g
          simp at g
      · cases g
theorem firstsOf_tab {P : List (List (List Int))} (hok : gramOkB P = true) {T : List Bool} (hl : T.length = 540) (hG : Grows (bgR (flagsOf (emptiesL P))) P (List.replicate 540 false) T) (hx : leK (bgR (flagsOf (emptiesL P))) P T P.length = T) {j c : Nat} (hj : j < 20) (hc : c < 27) :
    T.getD (j * 27 + c) false = true ↔ (c : Int) ∈ (firstsL P).getD j [] := by
  have F := Fits.of hok
  have hp := F.parts
  have hML := (fiT_sets (emptiesL P) P (P.length + 1)).1
  have sy : ∀ k (hk : k < P.length) i (hi : i < P[k].length), ∀ z ∈ P[k][i], (0 ≤ z ∧ z ≤ 25) ∨ (100 ≤ z ∧ z < 100 + P.length) := fun k hk i hi z hz => by have := symsOk hok hk hi z hz; omega
  constructor
  · have sound := hG (fun T => T.length = 540 ∧ ∀ j c, j < 20 → c < 27 → T.getD (j * 27 + c) false = true → (c : Int) ∈ (firstsL P).getD j []) ⟨List.length_replicate, fun j c _ _ h => by rw [rep_getD] at h; cases h⟩
      (fun k hk i hi T hT => ⟨by rw [bgR, joinB_length]; exact hT.1, fun j c hj hc h => by
        rcases (bgR_get hT.1 (by omega) hc).1 h with h | ⟨rfl, h⟩
        · exact hT.2 j c hj hc h
        · refine fiT_closed hk hi ?_
          have := bgT_of (b := proj (c : Int) (firstsL P)) (fun n hn hg => by
            rw [proj_getD]; exact hasL_yes (hT.2 n c (by rw [proj_length] at hn; unfold firstsL at hn; omega) hc hg)) P[j][i] (fun z hz => by have := sy j hk i hi z hz; rw [proj_length]; unfold firstsL; omega) h
          have e := hasL_rowF (firstsL P) (emptiesL P) (c : Int) P[j][i] []
          rw [this, Bool.or_true] at e
          exact of_decide_eq_true e⟩)
    exact sound.2 j c hj hc
  · intro h
    have := fiT_sound (E := emptiesL P) (P := P) (S := fun j c => 0 ≤ c ∧ c < 27 ∧ T.getD (j * 27 + c.toNat) false = true) (fun k hk i hi M hM hS c hc => by
      have hcr : 0 ≤ c ∧ c < 27 := by
        have key : ∀ (row out : List Int), (∀ y ∈ out, 0 ≤ y ∧ y < 27) → ∀ y ∈ rowF M (emptiesL P) out row, 0 ≤ y ∧ y < 27 := by
          intro row
          induction row with
          | nil => intro out ho y hy; rw [rowF] at hy; exact ho y hy
          | cons x xs ih =>
            intro out ho y hy
            have hjn : ∀ y ∈ joinL out (M.getD (x - 100).toNat []), 0 ≤ y ∧ y < 27 := fun y hy => by
              rcases mem_joinL.1 hy with hy | hy
              · exact ho y hy
              · have := hS _ y hy; exact ⟨this.1, this.2.1⟩
            rw [rowF] at hy
            split at hy
            · rename_i h1
              have h1' := inB_true.1 h1
              rcases mem_addL.1 hy with rfl | hy
              · omega
              · exact ho y hy
            · split at hy
              · split at hy
                · exact ih _ hjn y hy
                · exact hjn y hy
              · exact ho y hy
        exact key _ [] (by simp) c hc
      refine ⟨hcr.1, hcr.2, ?_⟩
      have hcn : ((c.toNat : Nat) : Int) = c := by omega
      have e := hasL_rowF M (emptiesL P) c P[k][i] []
      rw [hasL_yes hc] at e
      have e2 : bgB (emptiesL P) c (proj c M) P[k][i] = true := by simpa [hasL] using e.symm
      rw [← hcn] at e2
      have e3 := bgB_of (T := T) (by rw [proj_length, hM]; exact hp) (fun n hn hg => by
        rw [proj_getD] at hg
        have hm : ((c.toNat : Nat) : Int) ∈ M.getD n [] := of_decide_eq_true hg
        have := (hS n _ hm).2.2
        rw [Int.toNat_natCast] at this
        exact this) P[k][i] e2
      have hfx := (bgR_raises (flagsOf (emptiesL P)) P).fix hl hx hk hi
      have := (bgR_get (E := emptiesL P) (row := P[k][i]) hl (show k < 20 by omega) (j := k) (show c.toNat < 27 by omega)).2 (.inr ⟨rfl, e3⟩)
      rwa [hfx] at this) (P.length + 1) j (c : Int) h
    simpa using this.2.2
theorem firstOf_nums {P : List (List (List Int))} (hok : gramOkB P = true) {T : List Bool} (ht : ∀ j c, j < 20 → c < 27 → (T.getD (j * 27 + c) false = true ↔ (c : Int) ∈ (firstsL P).getD j [])) (zs : List Int) :
    numsB (fun c => (ofB (flagsOf (emptiesL P) ++ T) (List.replicate 27 false) zs).1.getD (0 + c) false) 27 = rowF (firstsL P) (emptiesL P) [] zs := by
  have F := Fits.of hok
  have hp := F.parts
  have hS : Sets P.length (firstsL P) := fiT_sets (emptiesL P) P (P.length + 1)
  refine nums_flags (E := rowF (firstsL P) (emptiesL P) [] zs) (rowF_sorted List.Pairwise.nil) (fun x hx => (rowF_setB hS.2 (SetB.nil _)).lt x hx) (fun n hn => ?_)
  rw [Nat.zero_add, ofB_get _ _ _ hn _ _ List.length_replicate, rep_getD, Bool.false_or, hasL_rowF]
  have hpl : (proj (n : Int) (firstsL P)).length = P.length := by rw [proj_length]; exact hS.1
  have e0 : hasL ([] : List Int) (n : Int) = false := by simp [hasL]
  rw [e0, Bool.false_or, Bool.eq_iff_iff]
  constructor
  · refine bgT_all (fun m hm hg => ?_) (fun m h1 h2 => ?_) (fun x hx => ?_) zs
    · rw [proj_getD]; exact hasL_yes ((ht m n (by omega) hn).1 hg)
    · rw [Bool.eq_false_iff]; intro hg
      have := (ht m n h2 hn).1 hg
      rw [List.getD_eq_getElem?_getD, List.getElem?_eq_none (by rw [hpl] at h1; rw [hS.1]; exact h1)] at this
      simp at this
    · rw [hpl]; have := (growT_setB (p := allE) P (P.length + 1)).lt x hx; omega
  · refine bgB_of (by rw [hpl]; exact hp) (fun m hm hg => ?_) zs
    rw [proj_getD] at hg
    exact (ht m n (by omega) hn).2 (of_decide_eq_true hg)
end Go.Proofs.Ytdniejpblhbjkab
namespace Go.Proofs.Ytdniejpblhbjkab
open Go.RowKit

theorem fill_two {place : Nat → Option (Nat × Nat)} {E T : List Bool} (h0 : place 0 = some (0, E.length)) (h1 : place 1 = some (E.length, T.length)) : Instr.fill place (cellsB (List.replicate (E.length + T.length) false)) [(0, aggB E), (1, aggB T)] = some (cellsB (E ++ T)) := by
  have e : List.replicate (E.length + T.length) false = List.replicate E.length false ++ List.replicate T.length false := by rw [List.replicate_append_replicate]
  have p1 : putB (List.replicate E.length false ++ List.replicate T.length false) 0 E = E ++ List.replicate T.length false := by
    apply list_ext_getD (by rw [putB_length]; simp)
    intro i hi
    rw [putB_length] at hi
    rw [putB_get _ _ _ _ (by simp)]
    by_cases g : i < E.length
    · rw [if_pos ⟨Nat.zero_le _, by omega⟩, Nat.sub_zero, List.getD_eq_getElem?_getD, List.getD_eq_getElem?_getD, List.getElem?_append_left g]
    · rw [if_neg (by omega), List.getD_eq_getElem?_getD, List.getD_eq_getElem?_getD, List.getElem?_append_right (by simp; omega), List.getElem?_append_right (by omega)]
      simp
  rw [e, fill_put h0 (by simp), p1, fill_put h1 (by simp), putB_tail (by simp), Instr.fill]
theorem fill_one {place : Nat → Option (Nat × Nat)} {E : List Bool} {m : Nat} (h0 : place 0 = some (0, E.length)) : Instr.fill place (cellsB (List.replicate (E.length + m) false)) [(0, aggB E)] = some (cellsB (E ++ List.replicate m false)) := by
  have e : List.replicate (E.length + m) false = List.replicate E.length false ++ List.replicate m false := by rw [List.replicate_append_replicate]
  have p1 : putB (List.replicate E.length false ++ List.replicate m false) 0 E = E ++ List.replicate m false := by
    apply list_ext_getD (by rw [putB_length]; simp)
    intro i hi
    rw [putB_length] at hi
    rw [putB_get _ _ _ _ (by simp)]
    by_cases g : i < E.length
    · rw [if_pos ⟨Nat.zero_le _, by omega⟩, Nat.sub_zero, List.getD_eq_getElem?_getD, List.getD_eq_getElem?_getD, List.getElem?_append_left g]
    · rw [if_neg (by omega), List.getD_eq_getElem?_getD, List.getD_eq_getElem?_getD, List.getElem?_append_right (by simp; omega), List.getElem?_append_right (by omega)]
      simp
  rw [e, fill_put h0 (by simp), p1, Instr.fill]
end Go.Proofs.Ytdniejpblhbjkab
namespace Go.Proofs.Ytdniejpblhbjkab
open Go.RowKit

set_option maxRecDepth 100000 in
theorem exec_begin2 {ρ : Operand → Value} {o : Oper} {x y : Operand} {E T : List Bool} (ho : o.op = .build 52 #[(0, x), (1, y)]) (hx : ρ x = aggB E) (hy : ρ y = aggB T) (hE : E.length = 27) (hT : T.length = 540) (w : World) :
    (execOp ρ o).run Try.prog w = .ok (.value (aggB (E ++ T))) w := by
  have hf := fill_two (place := fun x => ([((0 : Nat), (27 : Nat)), (27, 540)] : List (Nat × Nat))[x]?) (E := E) (T := T) (by rw [hE]; rfl) (by rw [hE, hT]; rfl)
  rw [hE, hT, cellsB_rep] at hf
  unfold execOp
  simp [ho, Instr.build, bt_begin.zero, run_underlying Try.underlying52, hx, hy, Value.cells]
  simp only [show (27 + 540 : Nat) = 567 from rfl] at hf
  rw [hf]
  rfl
set_option maxRecDepth 100000 in
theorem exec_begin1 {ρ : Operand → Value} {o : Oper} {x : Operand} {E : List Bool} (ho : o.op = .build 52 #[(0, x)]) (hx : ρ x = aggB E) (hE : E.length = 27) (w : World) :
    (execOp ρ o).run Try.prog w = .ok (.value (aggB (E ++ List.replicate 540 false))) w := by
  have hf := fill_one (place := fun x => ([((0 : Nat), (27 : Nat)), (27, 540)] : List (Nat × Nat))[x]?) (E := E) (m := 540) (by rw [hE]; rfl)
  rw [hE, cellsB_rep] at hf
  generalize List.replicate 540 false = Z at *
  unfold execOp
  simp [ho, Instr.build, bt_begin.zero, run_underlying Try.underlying52, hx, Value.cells]
  simp only [show (27 + 540 : Nat) = 567 from rfl] at hf
  rw [hf]
  rfl
theorem wpList_begin1 {ops : Array Oper} {rest : List Oper} {o : Oper} {a : Act} {w : World} {Q : Exit → Act → World → Prop} (hgd : Region.wanted o (yielded ops a.tmps) = true) (x : Operand) (ho : o.op = .build 52 #[(0, x)]) (E : List Bool) (hx : a.eval x = aggB E) (hE : E.length = 27)
    (h : wpList Try.prog ops Q rest (a.put o.dst (aggB (E ++ List.replicate 540 false))) w) : wpList Try.prog ops Q (o :: rest) a w :=
  wpList_val hgd (exec_begin1 ho hx hE w) h
end Go.Proofs.Ytdniejpblhbjkab
namespace Go.Proofs.Ytdniejpblhbjkab
open Go.RowKit

theorem at540B {T : List Bool} (hl : T.length = 540) : BitT Try.prog 50 T.length := by rw [hl]; exact bt_table
theorem eq_table540B {w : World} {cs bs : List Bool} (h1 : cs.length = 540) (h2 : bs.length = 540) : (Op.equalIn 10000 50 (aggB cs) (aggB bs)).run Try.prog w = .ok (decide (cs = bs)) w := run_eq_table (m := 20) (n := 27) 9997 (by kernel_rfl) u_flags u_bool bt_flags.size bool_size h1 h2
theorem guard_tableB : Try.prog.eqGuardType Try.prog.depth 50 = false := by kernel_rfl
theorem ahead_tableB {n1 nR : Nat} {w2 wr w3 w4 : World} {t : TypeId} {T Z : List Bool} (hbel : Below n1 w2 wr) (hn : n1 < wr.heap.size) (hBT : Bits wr n1 t T) (hBR : Bits wr nR t Z) (hb3 : Below wr.heap.size wr w3) (hs3 : w3.heap.size = wr.heap.size + 1) (hTl : T.length = 540) (hB4 : Bits w4 wr.heap.size 50 (putB (List.replicate 540 false) 0 T)) (hg4 : w3.grownBy w4 (some wr.heap.size)) :
    Below n1 w2 w4 ∧ Bits w4 n1 t T ∧ Bits w4 wr.heap.size 50 T ∧ Bits w4 nR t Z := by
  have e : putB (List.replicate 540 false) 0 T = T := putB_whole (by rw [List.length_replicate]; exact hTl)
  rw [e] at hB4
  have hl2 := hBR.lt
  refine ⟨?_, ?_, hB4, ?_⟩
  · exact (hbel.trans (hb3.mono (by omega))).grown hg4 (by omega) (fun k hk => by cases hk; omega)
  · exact (hBT.later hb3).grown hg4 (by intro h; cases h; omega)
  · exact (hBR.later hb3).grown hg4 (by intro h; cases h; omega)

set_option maxHeartbeats 4000000 in
set_option maxRecDepth 100000 in
theorem least_B (st : Nat → List Int → List Bool → List Bool) (cap : Value) (P : List (List (List Int))) (a0 : Option Addr) (c0 : Nat) (T0 : List Bool) (w : World) (h0 : RD w (.slice a0 P.length c0) (slD (Lay.list (Lay.list Lay.int)) P)) (hok : gramOkB P = true) (hT0 : T0.length = 540) (hRz : Raises st P 540)
    (hcl : ∀ (W : World) (b : Nat) (T : List Bool) (k : Nat) (hk : k < P.length) (i : Nat) (hi : i < P[k].length) (a : Option Addr) (c : Nat), Below w.heap.size w W → w.heap.size ≤ b → Bits W b 50 T → T.length = 540 → RD w (.slice a P[k][i].length c) (slD Lay.int P[k][i]) →
      Calls Try.prog 56 #[.pointer (some ⟨b, 0, none⟩), .int .i64 (k : Int), .slice a P[k][i].length c, cap] W fun e w' => e = .returned (.tuple #[]) ∧ Bits w' b 50 (st k P[k][i] T) ∧ W.grownBy w' (some b)) :
    Calls Try.prog 55 #[.agg #[.slice a0 P.length c0], aggB T0, .func (.func 56) #[] #[cap]] w fun e w' => ∃ T, e = .returned (aggB T) ∧ T.length = 540 ∧ Grows st P T0 T ∧ leK st P T P.length = T ∧ Below w.heap.size w w' := by
  have F := Fits.of hok
  have HF : Hid (Fits P) := F
  have hp := F.parts
  have HRz : Hid (Raises st P 540) := hRz
  have HCL : Hid (∀ (W : World) (b : Nat) (T : List Bool) (k : Nat) (hk : k < P.length) (i : Nat) (hi : i < P[k].length) (a : Option Addr) (c : Nat), Below w.heap.size w W → w.heap.size ≤ b → Bits W b 50 T → T.length = 540 → RD w (.slice a P[k][i].length c) (slD Lay.int P[k][i]) →
      Calls Try.prog 56 #[.pointer (some ⟨b, 0, none⟩), .int .i64 (k : Int), .slice a P[k][i].length c, cap] W fun e w' => e = .returned (.tuple #[]) ∧ Bits w' b 50 (st k P[k][i] T) ∧ W.grownBy w' (some b)) := hcl
  clear F hok hRz hcl
  have B0 := (Below.refl w.heap.size w).alloc (Nat.le_refl _) (.cells #[.slice a0 P.length c0] 28)
  have HQ0 : Hid ((w.alloc (.cells #[.slice a0 P.length c0] 28)).cell? ⟨w.heap.size, 0, none⟩ = some (.slice a0 P.length c0)) := by show _ = _; simp
  have HR0 : Hid (RD w (.slice a0 P.length c0) (slD (Lay.list (Lay.list Lay.int)) P)) := h0
  have hsb : (w.alloc (.cells #[.slice a0 P.length c0] 28)).heap.size = w.heap.size + 1 := by simp
  clear h0
  go_enter Try.func55, Try.ntmps55
  go_wp2_with (first | (refine wpList_boxB (w := w.alloc _) rfl 50 _ rfl T0 rfl ?_; rw [hsb]; intro w1 hB1 hb1 hs1) | (refine wpList_allocB (w := w1) rfl 50 rfl 540 bt_table ?_; intro w2 hB2 hb2 hs2))
  generalize w.alloc (.cells #[.slice a0 P.length c0] 28) = wb at *
  simp only [Act.put, List.setIfInBounds_toArray, List.set_cons_zero, List.set_cons_succ]
  have hB12 := hB1.below hb2 (by omega)
  have HQ : Hid (∀ W, Below (w.heap.size + 1) w2 W → W.cell? ⟨w.heap.size, 0, none⟩ = some (.slice a0 P.length c0) ∧ Below w.heap.size w W) := by
    intro W hW
    have b1 : Below (w.heap.size + 1) wb W := hb1.trans ((hb2.mono (by omega)).trans hW)
    exact ⟨(b1.cell (p := ⟨w.heap.size, 0, none⟩) (by simp)).trans HQ0.out, B0.trans (b1.mono (by omega))⟩
  have hnR : w1.heap.size = w.heap.size + 2 := by omega
  have hwr0 : w.heap.size ≤ w1.heap.size := by omega
  have hneq : w1.heap.size ≠ w.heap.size + 1 := by omega
  clear HQ0 B0 hB1 hb1 hs1 hb2 hs2 hnR
  generalize w1.heap.size = nR at *
  have HNR : Hid (nR ≠ w.heap.size + 1) := hneq
  have HWR : Hid (w.heap.size ≤ nR) := hwr0
  have hnw : w.heap.size < w.heap.size + 1 := by omega
  obtain ⟨n1, Hn1⟩ : ∃ n1, Hid (w.heap.size + 1 = n1) := ⟨_, rfl⟩
  rw [Hn1.out] at hB12 HQ HNR hnw
  rw [Hn1.out]
  clear hneq hsb Hn1 hwr0
  go_loopg [] 540 (fun g wr => ∃ T : List Bool, Aside (T.length = 540 ∧ 540 ≤ cntB T + g ∧ Grows st P T0 T ∧ Bits wr n1 50 T ∧ Below n1 w2 wr ∧ Bits wr nR 50 (List.replicate 540 false)))
  case atStart => exact ⟨T0, hT0, by omega, Grows.refl _ _, hB12, Below.refl _ _, hB2⟩
  case round =>
    obtain ⟨T, A⟩ := hrel
    have hTl := A.out.1
    have HTg : Hid (540 ≤ cntB T + gk) := A.out.2.1
    have HTG : Hid (Grows st P T0 T) := A.out.2.2.1
    have hBT := A.out.2.2.2.1
    have hbel := A.out.2.2.2.2.1
    have hBR := A.out.2.2.2.2.2
    clear A hB2 hB12
    have hnr := hBT.lt
    go_wp2_with (first | (refine wpList_loadW rfl 50 _ rfl n1 50 T rfl (at540B hTl) hBT ?_) | (refine wpList_allocB rfl 50 rfl 540 bt_table ?_; intro w3 hB3 hb3 hs3) | (refine wpList_storeB rfl 50 _ _ rfl wr.heap.size 0 50 _ T rfl rfl (at540B hTl) hB3 (by rw [List.length_replicate, hTl]; decide) ?_; intro w4 hB4 hg4; obtain ⟨hbel4, hBT4, hBA4, hBR4⟩ := ahead_tableB hbel hnr hBT hBR hb3 hs3 hTl hB4 hg4; obtain ⟨q4, _⟩ := HQ.out w4 hbel4))
    have hnA : n1 < wr.heap.size := hnr
    have hnA2 : nR < wr.heap.size := hBR.lt
    generalize wr.heap.size = nA at *
    clear hB3 hb3 hs3 hB4 hg4 hBT hbel hnr hBR
    go_loopw [16] (fun s wk => ∃ k : Nat, k ≤ P.length ∧ s = .int .i64 k ∧ Bits wk n1 50 (leK st P T k) ∧ Bits wk nA 50 T ∧ Below n1 w2 wk ∧ Bits wk nR 50 (List.replicate 540 false)) (fun s _ => P.length - (intOf s).toNat)
    case atStart => exact ⟨0, Nat.zero_le _, rfl, hBT4, hBA4, hbel4, hBR4⟩
    case round =>
      obtain ⟨k, hk, rfl, hBk, hBA, hbk, hBR⟩ := hrel
      clear hBT4 hBA4 hbel4 q4 hBR4
      by_cases hlk : k < P.length
      · have HK : Hid (leK st P T (k + 1) = leI st k P[k] (leK st P T k) P[k].length) := leK_next hlk
        have hm := List.getElem_mem hlk
        have hQ := HF.out.alts _ hm
        have HLe : Hid (∀ i, i ≤ P[k].length → (leI st k P[k] (leK st P T k) i).length = 540) := fun i hi => (HRz.out.leI hlk (HRz.out.leK hTl k hk).1 i hi).1
        have HC1 : Hid (∀ (W : World) (b : Nat) (T : List Bool) (i : Nat) (hi : i < P[k].length) (a : Option Addr) (c : Nat), Below w.heap.size w W → w.heap.size ≤ b → Bits W b 50 T → T.length = 540 → RD w (.slice a P[k][i].length c) (slD Lay.int P[k][i]) →
          Calls Try.prog 56 #[.pointer (some ⟨b, 0, none⟩), .int .i64 (k : Int), .slice a P[k][i].length c, cap] W fun e w' => e = .returned (.tuple #[]) ∧ Bits w' b 50 (st k P[k][i] T) ∧ W.grownBy w' (some b)) := fun W b T i hi a c => HCL.out W b T k hlk i hi a c
        obtain ⟨b1, o1, ea0, hb1, a1, c1, q0', r1⟩ := HR0.out.listAt hlk
        have HR1 : Hid (RD w (.slice a1 P[k].length c1) (slD (Lay.list Lay.int) P[k])) := r1
        have q0 := ((HQ.out wr hbk).2.cell (p := ⟨b1, o1 + k, none⟩) hb1).trans q0'
        subst ea0
        clear r1 q0' hm hb1
        generalize leK st P T k = Tk at *
        generalize P[k] = Q at *
        go_wp2
        go_loopw [23] (fun s wk => ∃ i : Nat, i ≤ Q.length ∧ s = .int .i64 i ∧ Bits wk n1 50 (leI st k Q Tk i) ∧ Bits wk nA 50 T ∧ Below n1 w2 wk ∧ Bits wk nR 50 (List.replicate 540 false)) (fun s _ => Q.length - (intOf s).toNat)
        case atStart => exact ⟨0, Nat.zero_le _, rfl, hBk, hBA, hbk, hBR⟩
        case round =>
          obtain ⟨i, hi, rfl, hBi, hBAi, hbi, hBRi⟩ := hrel
          clear hBk hBA hbk q0 hBR
          by_cases hli : i < Q.length
          · have HE : Hid (leI st k Q Tk (i + 1) = st k Q[i] (leI st k Q Tk i)) := leI_next hli
            have hTi := HLe.out i hi
            obtain ⟨b2, o2, ea1, hb2, a2, c2, q1', r2⟩ := HR1.out.listAt hli
            have hbw := (HQ.out wr hbi).2
            have q1 := (hbw.cell (p := ⟨b2, o2 + i, none⟩) hb2).trans q1'
            subst ea1
            have X := HC1.out wr n1 _ i hli a2 c2 hbw (by omega) hBi hTi r2
            have HX : Hid (Calls Try.prog 56 #[.pointer (some ⟨n1, 0, none⟩), .int .i64 (k : Int), .slice a2 Q[i].length c2, cap] wr fun e w' => e = .returned (.tuple #[]) ∧ Bits w' n1 50 (st k Q[i] (leI st k Q Tk i)) ∧ wr.grownBy w' (some n1)) := X
            rw [← HE.out] at HX
            have hn1r := hBi.lt
            clear r2 q1' hb2 X HE hbw
            generalize Q[i] = R at *
            go_wp2_with (go_at_call 56; refine HX.out.mono ?_; rintro e w5 ⟨rfl, hB5, hg5⟩)
            go_roundw
            case rel => exact ⟨i + 1, by omega, by go_num, hB5, hBAi.grown hg5 (by intro h; cases h; omega), hbi.grown hg5 (by omega) (fun j hj => by cases hj; omega), hBRi.grown hg5 (by intro h; cases h; exact HNR.out rfl)⟩
            case measure => simp [intOf]; omega
          · have e : i = Q.length := by omega
            subst e
            have HKe := HK
            clear HK
            go_wp2
            go_roundw
            case rel => exact ⟨k + 1, by omega, by go_num, by rw [HKe.out]; exact hBi, hBAi, hbi, hBRi⟩
            case measure => simp [intOf]; omega
      · have e : k = P.length := by omega
        subst e
        have hLl := (HRz.out.leK hTl P.length (Nat.le_refl _))
        have HL2 : Hid (leK st P T P.length = T ∨ cntB T < cntB (leK st P T P.length)) := hLl.2
        have hLl1 := hLl.1
        have HLG : Hid (Grows st P T0 (leK st P T P.length)) := HTG.out.leK _ (Nat.le_refl _)
        have HLc : Hid (cntB (leK st P T P.length) ≤ 540) := by show _ ≤ _; have := cntB_le (leK st P T P.length); omega
        clear hLl
        by_cases hfix : leK st P T P.length = T
        · have HX : Hid (leK st P T P.length = T) := hfix
          rw [hfix] at hBk
          clear hfix HL2 hLl1
          have hBel := (HQ.out wr hbk).2
          go_wp2_with (first | (refine wpList_loadW rfl 50 _ rfl n1 50 T rfl (at540B hTl) hBk ?_) | (refine wpList_loadW rfl 50 _ rfl nA 50 T rfl (at540B hTl) hBA ?_) | (refine wpList_eqlB rfl 50 _ _ _ rfl T T rfl rfl guard_tableB (eq_table540B hTl hTl) ?_; rw [decide_eq_true (rfl : T = T)]) | (refine wpList_storeB rfl 50 _ _ rfl nR 0 50 _ T rfl rfl (at540B hTl) hBR (by rw [List.length_replicate, hTl]; decide) ?_; intro w5 hB5 hg5))
          have e5 : putB (List.replicate 540 false) 0 T = T := putB_whole (by rw [List.length_replicate]; exact hTl)
          rw [e5] at hB5
          have hb5 : Below w.heap.size w w5 := hBel.grown hg5 hBel.size (fun j hj => by cases hj; exact HWR.out)
          refine bodyPost_ret (v := aggB T) (ret_cell 50 rfl rfl hB5 (at540B hTl)) rfl ⟨T, rfl, hTl, HTG.out, HX.out, hb5⟩
        · have hcnt : cntB T < cntB (leK st P T P.length) := HL2.out.resolve_left hfix
          have hdec : decide (leK st P T P.length = T) = false := decide_eq_false hfix
          clear hfix HL2
          generalize leK st P T P.length = T2 at *
          go_wp2_with (first | (refine wpList_loadW rfl 50 _ rfl n1 50 T2 rfl (at540B hLl1) hBk ?_) | (refine wpList_loadW rfl 50 _ rfl nA 50 T rfl (at540B hTl) hBA ?_) | (refine wpList_eqlB rfl 50 _ _ _ rfl T2 T rfl rfl guard_tableB (eq_table540B hLl1 hTl) ?_; rw [hdec]))
          go_roundg (gk - 1)
          case measure => have := HTg.out; have := HLc.out; omega
          case rel => exact ⟨T2, hLl1, by have := HTg.out; have := HLc.out; omega, HLG.out, hBk, hbk, hBR⟩
end Go.Proofs.Ytdniejpblhbjkab
namespace Go.Proofs.Ytdniejpblhbjkab
open Go.RowKit

theorem drop_take_left {E X : List Bool} {n : Nat} (h : E.length = n) : ((E ++ X).drop 0).take n = E := by rw [List.drop_zero, List.take_append_of_le_length (by omega), List.take_of_length_le (by omega)]

section
variable {P : Program}
theorem wp_allocB {o : Oper} {a : Act} {w : World} {K : Act → World → Prop} {Q : Exit → Act → World → Prop} (d : Option Tmp) (hd : o.dst = d) (ty : TypeId) (n : Nat) (ho : o.op = .alloc ty) (hT : BitT P ty n)
    (h : ∀ w', Bits w' w.heap.size ty (List.replicate n false) → Below w.heap.size w w' → w'.heap.size = w.heap.size + 1 → K (a.put d (.pointer (some ⟨w.heap.size, 0, none⟩))) w') : Oper.wp P o a w K Q := by
  subst hd
  obtain ⟨w', h1, h2, h3, h4⟩ := exec_allocB (P := P) (w := w) (ρ := a.eval) ho hT
  unfold Oper.wp
  rw [h1, Oper.upon_value]
  exact h w' h2 h3 h4
theorem wp_storeB {o : Oper} {a : Act} {w : World} {K : Act → World → Prop} {Q : Exit → Act → World → Prop} (d : Option Tmp) (hd : o.dst = d) (ty : TypeId) (x y : Operand) (b off : Nat) (t : TypeId) (bs cs : List Bool) (ho : o.op = .store ty x y) (hx : a.eval x = .pointer (some ⟨b, off, none⟩)) (hy : a.eval y = aggB cs) (hT : BitT P ty cs.length) (hB : Bits w b t bs) (hn : off + cs.length ≤ bs.length)
    (h : ∀ w', Bits w' b t (putB bs off cs) → w.grownBy w' (some b) → K (a.put d undef) w') : Oper.wp P o a w K Q := by
  subst hd
  obtain ⟨w', h1, h2, h3⟩ := exec_storeB (P := P) ho hx hy hT hB hn
  unfold Oper.wp
  rw [h1, Oper.upon_skip]
  exact h w' h2 h3
end

set_option maxHeartbeats 4000000 in
set_option maxRecDepth 100000 in
theorem beginStep_any (b bE : Nat) (T E X : List Bool) (k : Nat) (R : List Int) (a : Option Addr) (c : Nat) (w : World) (hB : Bits w b 50 T) (hT : T.length = 540) (hE : Bits w bE 52 (E ++ X)) (hEl : E.length = 27) (hk : k < 20) (hR : Reads w a R) (hz : ∀ z ∈ R, -9223372036854775808 ≤ z ∧ z ≤ 9223372036854775807) (hrl : R.length ≤ 1048576) :
    Calls Try.prog 56 #[.pointer (some ⟨b, 0, none⟩), .int .i64 (k : Int), .slice a R.length c, .pointer (some ⟨bE, 0, none⟩)] w fun e w' => e = .returned (.tuple #[]) ∧ Bits w' b 50 (bgR E k R T) ∧ w.grownBy w' (some b) := by
  have HX : Hid (∀ W : World, Below w.heap.size w W → Calls Try.prog 34 #[aggB (E ++ T), .slice a R.length c] W fun e w' => e = .returned (.tuple #[aggB (ofB (E ++ T) (List.replicate 27 false) R).1, .bool (ofB (E ++ T) (List.replicate 27 false) R).2]) ∧ Below W.heap.size W w') := fun W hW => ofRow_any (E ++ T) R a c W (by rw [List.length_append]; omega) (hR.below hW) hz hrl
  have HBg : Hid (bgR E k R T = joinB T (k * 27) (ofB (E ++ T) (List.replicate 27 false) R).1) := rfl
  have hGl : (ofB (E ++ T) (List.replicate 27 false) R).1.length = 27 := by rw [ofB_length, List.length_replicate]
  have hk0 : (0 : Int) ≤ (k : Int) := by omega
  have hk1 : (k : Int) < 20 := by omega
  have HJ : Hid (∀ (W : World) (G : List Bool), G.length = 27 → Bits W b 50 T → Calls Try.prog 57 #[.pointer (some ⟨b, k * 27, none⟩), aggB G] W fun e w' => e = .returned (.tuple #[]) ∧ Bits w' b 50 (joinB T (k * 27) G) ∧ W.grownBy w' (some b)) := fun W G hG hW => join_any b (k * 27) 50 T G W hW (by omega) hG
  have HBd : Hid (Bits w b 50 T) := hB
  have HEd : Hid (Bits w bE 52 (E ++ X)) := hE
  have hEXl : 27 ≤ (E ++ X).length := by rw [List.length_append]; omega
  have hET := drop_take_left (X := X) hEl
  have HET : Hid (((E ++ X).drop 0).take 27 = E) := hET
  clear hB hE hR hz hET
  generalize ofB (E ++ T) (List.replicate 27 false) R = GB at *
  obtain ⟨G, nb⟩ := GB
  go_enter Try.func56, Try.ntmps56
  go_wp2_with fail
  refine wp_region_held_drew (S := fun W => Bits W b 50 T ∧ Bits W bE 52 (E ++ X)) (by kernel_rfl) ⟨HBd.out.later (Below.drew (Below.refl _ _)), HEd.out.later (Below.drew (Below.refl _ _))⟩ (fun hHeld => ?_)
  refine take_atL (i := 0) (d := some 10) (v := .pointer (some ⟨bE, 0, none⟩)) rfl rfl (by kernel_rfl) (by kernel_rfl) (by kernel_rfl) (fun _ _ _ h => h) (by rfl) ?_ hHeld ?_
  · intro w' hSw; go_simp; first | done | rfl
  try simp only [Act.put, List.setIfInBounds_toArray, List.set_cons_zero, List.set_cons_succ]
  refine take_atL (i := 1) (d := some 11) (v := aggB E) rfl rfl (by kernel_rfl) (by kernel_rfl) (by kernel_rfl) (fun _ _ _ h => h) (by rfl) ?_ hHeld ?_
  · intro w' hSw; rw [exec_loadB (t := 52) (b := bE) (off := 0) (n := 27) (bs := E ++ X) rfl rfl bt_flags hSw.2 hEXl, HET.out]
  try simp only [Act.put, List.setIfInBounds_toArray, List.set_cons_zero, List.set_cons_succ]
  refine take_atL (i := 2) (d := some 12) (v := .pointer (some ⟨b, 0, none⟩)) rfl rfl (by kernel_rfl) (by kernel_rfl) (by kernel_rfl) (fun _ _ _ h => h) (by rfl) ?_ hHeld ?_
  · intro w' hSw; go_simp; first | done | rfl
  try simp only [Act.put, List.setIfInBounds_toArray, List.set_cons_zero, List.set_cons_succ]
  refine take_atL (i := 3) (d := some 13) (v := .pointer (some ⟨b, 0, none⟩)) rfl rfl (by kernel_rfl) (by kernel_rfl) (by kernel_rfl) (fun _ _ _ h => h) (by rfl) ?_ hHeld ?_
  · intro w' hSw; go_simp; first | done | rfl
  try simp only [Act.put, List.setIfInBounds_toArray, List.set_cons_zero, List.set_cons_succ]
  refine take_atL (i := 4) (d := some 14) (v := aggB T) rfl rfl (by kernel_rfl) (by kernel_rfl) (by kernel_rfl) (fun _ _ _ h => h) (by rfl) ?_ hHeld ?_
  · intro w' hSw; exact exec_loadW (t := 50) (b := b) rfl rfl (at540B hT) hSw.1
  try simp only [Act.put, List.setIfInBounds_toArray, List.set_cons_zero, List.set_cons_succ]
  refine take_atL (i := 5) (d := some 15) (v := aggB (E ++ T)) rfl rfl (by kernel_rfl) (by kernel_rfl) (by kernel_rfl) (fun _ _ _ h => h) (by rfl) ?_ hHeld ?_
  · intro w' hSw; exact exec_begin2 rfl rfl rfl hEl hT _
  try simp only [Act.put, List.setIfInBounds_toArray, List.set_cons_zero, List.set_cons_succ]
  refine take_atL (i := 6) (d := some 16) (v := .slice a R.length c) rfl rfl (by kernel_rfl) (by kernel_rfl) (by kernel_rfl) (fun _ _ _ h => h) (by rfl) ?_ hHeld ?_
  · intro w' hSw; go_simp; first | done | rfl
  try simp only [Act.put, List.setIfInBounds_toArray, List.set_cons_zero, List.set_cons_succ]
  refine wpAnyH_ready (rs := [7, 11]) (by kernel_rfl) (by simp) ?_
  refine AllReadyH.cons (o := _) rfl (fun K hK => ?_) (AllReadyH.cons (o := _) rfl (fun K hK => ?_) AllReadyH.nil)
  · rw [if_pos (by rfl)]
    go_simp
    refine (HX.out _ (Below.drew (Below.refl _ _))).mono ?_
    rintro e w5 ⟨rfl, hb5⟩
    go_wp2_with fail
    have b5 : Below w.heap.size w w5 := Below.drewed (by simpa using hb5)
    refine hK.out _ _ ⟨HBd.out.later b5, HEd.out.later b5⟩ (fun hHeld => ?_)
    clear hK K
    try simp only [Act.put, List.setIfInBounds_toArray, List.set_cons_zero, List.set_cons_succ]
    refine take_atL (i := 8) (d := some 9) (v := .tuple #[aggB G, .bool nb]) rfl rfl (by kernel_rfl) (by kernel_rfl) (by kernel_rfl) (fun _ _ _ h => h) (by rfl) ?_ hHeld ?_
    · intro w' hSw; go_simp; first | done | rfl
    try simp only [Act.put, List.setIfInBounds_toArray, List.set_cons_zero, List.set_cons_succ]
    refine take_atL (i := 9) (d := some 18) (v := aggB G) rfl rfl (by kernel_rfl) (by kernel_rfl) (by kernel_rfl) (fun _ _ _ h => h) (by rfl) ?_ hHeld ?_
    · intro w' hSw; go_simp; first | done | rfl
    try simp only [Act.put, List.setIfInBounds_toArray, List.set_cons_zero, List.set_cons_succ]
    refine take_atL (i := 10) (d := some 19) (v := .bool nb) rfl rfl (by kernel_rfl) (by kernel_rfl) (by kernel_rfl) (fun _ _ _ h => h) (by rfl) ?_ hHeld ?_
    · intro w' hSw; go_simp; first | done | rfl
    try simp only [Act.put, List.setIfInBounds_toArray, List.set_cons_zero, List.set_cons_succ]
    refine wpAnyH_ready (rs := [11]) (by kernel_rfl) (by simp) ?_
    refine AllReadyH.cons (o := _) rfl (fun K hK => ?_) AllReadyH.nil
    rw [if_pos (by rfl)]
    refine wp_allocB (some 7) rfl 47 27 rfl bt_flags ?_
    intro w6 hBA hb6 hs6
    have hn5 := b5.size
    have bA : Below w.heap.size w w6 := b5.trans (hb6.mono b5.size)
    clear hs6
    refine hK.out _ _ ⟨HBd.out.later bA, HEd.out.later bA⟩ (fun hHeld => ?_)
    clear hK K
    try simp only [Act.put, List.setIfInBounds_toArray, List.set_cons_zero, List.set_cons_succ]
    have hnA : b < w5.heap.size := by have := HBd.out.lt; omega
    have hnE : bE < w5.heap.size := by have := HEd.out.lt; omega
    have hnW : w.heap.size ≤ w5.heap.size := by omega
    refine wpAnyH_ready (rs := [12]) (by kernel_rfl) (by simp) ?_
    refine AllReadyH.cons (o := _) rfl (fun K hK => ?_) AllReadyH.nil
    rw [if_pos (by rfl)]
    refine wp_storeB none rfl 47 _ _ w5.heap.size 0 47 _ G rfl rfl rfl (at27 hGl) hBA (by rw [List.length_replicate, hGl]; decide) ?_
    intro w7 hB7 hg7
    rw [putB_whole (by rw [List.length_replicate]; exact hGl)] at hB7
    have b7 : Below w.heap.size w w7 := bA.grown hg7 bA.size (fun j hj => by cases hj; exact hnW)
    refine hK.out _ _ ⟨HBd.out.later b7, HEd.out.later b7⟩ (fun hHeld => ?_)
    clear hK K
    simp only [Act.put]
    refine take_atL (i := 13) (d := some 8) (v := .bool nb) rfl rfl (by kernel_rfl) (by kernel_rfl) (by kernel_rfl) (fun _ _ _ h => h) (by rfl) ?_ hHeld ?_
    · intro w' hSw; go_simp; first | done | rfl
    try simp only [Act.put, List.setIfInBounds_toArray, List.set_cons_zero, List.set_cons_succ]
    refine wpAnyH_done (by kernel_rfl) ?_ _
    clear hHeld hBA bA hg7
    generalize w5.heap.size = nA at *
    go_wp2_with fail
    refine wp_region_held_drew (S := fun W => Bits W nA 47 G) (by kernel_rfl) (hB7.later (Below.drew (Below.refl _ _))) (fun hHeld => ?_)
    refine take_atL (i := 0) (d := some 20) (v := .pointer (some ⟨b, 0, none⟩)) rfl rfl (by kernel_rfl) (by kernel_rfl) (by kernel_rfl) (fun _ _ _ h => h) (by rfl) ?_ hHeld ?_
    · intro w' hSw; go_simp; first | done | rfl
    try simp only [Act.put, List.setIfInBounds_toArray, List.set_cons_zero, List.set_cons_succ]
    refine take_atL (i := 1) (d := some 21) (v := .int .i64 (k : Int)) rfl rfl (by kernel_rfl) (by kernel_rfl) (by kernel_rfl) (fun _ _ _ h => h) (by rfl) ?_ hHeld ?_
    · intro w' hSw; go_simp; first | done | rfl
    try simp only [Act.put, List.setIfInBounds_toArray, List.set_cons_zero, List.set_cons_succ]
    refine take_atL (i := 2) (d := some 22) (v := .pointer (some ⟨b, 0, none⟩)) rfl rfl (by kernel_rfl) (by kernel_rfl) (by kernel_rfl) (fun _ _ _ h => h) (by rfl) ?_ hHeld ?_
    · intro w' hSw; go_simp; first | done | rfl
    try simp only [Act.put, List.setIfInBounds_toArray, List.set_cons_zero, List.set_cons_succ]
    refine take_atL (i := 3) (d := some 23) (v := .pointer (some ⟨b, k * 27, none⟩)) rfl rfl (by kernel_rfl) (by kernel_rfl) (by kernel_rfl) (fun _ _ _ h => h) (by rfl) ?_ hHeld ?_
    · intro w' hSw; go_simp; first | done | rfl
    try simp only [Act.put, List.setIfInBounds_toArray, List.set_cons_zero, List.set_cons_succ]
    refine take_atL (i := 4) (d := some 24) (v := aggB G) rfl rfl (by kernel_rfl) (by kernel_rfl) (by kernel_rfl) (fun _ _ _ h => h) (by rfl) ?_ hHeld ?_
    · intro w' hSw; exact exec_loadW (t := 47) (b := nA) rfl rfl (at27 hGl) hSw
    try simp only [Act.put, List.setIfInBounds_toArray, List.set_cons_zero, List.set_cons_succ]
    refine wpAnyH_ready (rs := [5]) (by kernel_rfl) (by simp) ?_
    refine AllReadyH.cons (o := _) rfl (fun K hK => ?_) AllReadyH.nil
    rw [if_pos (by rfl)]
    go_simp
    refine (HJ.out _ G hGl (HBd.out.later (b7.trans ((Below.drew (Below.refl _ _)).mono b7.size)))).mono ?_
    rintro e w8 ⟨rfl, hB8, hg8⟩
    have hB8A : Bits w8 nA 47 G := (hB7.later (Below.drew (Below.refl _ _))).grown hg8 (fun h => by have := Option.some.inj h; omega)
    go_wp2_with fail
    refine hK.out _ _ hB8A (fun hHeld => ?_)
    clear hK K
    try simp only [Act.put, List.setIfInBounds_toArray, List.set_cons_zero, List.set_cons_succ]
    refine wpAnyH_done (by kernel_rfl) ?_ _
    clear hHeld
    have hgw : w.grownBy w8 (some b) := grownBy_trans (grownBy_of_below (Below.drew b7) _) hg8
    rw [← HBg.out] at hB8
    go_wp2
    go_end0
    exact ⟨rfl, hB8, hgw⟩
  · rw [if_pos (by rfl)]
    refine wp_allocB (some 7) rfl 47 27 rfl bt_flags ?_
    intro w4 hB4 hb4 hs4
    have b4 : Below w.heap.size w w4 := Below.drewed (by simpa using hb4)
    obtain ⟨nA, HnA⟩ : ∃ nA, Hid (w.drew.heap.size = nA) := ⟨_, rfl⟩
    rw [HnA.out] at hB4 ⊢
    have hnB : w.heap.size ≤ nA := by have := HnA.out; simp at this; omega
    clear hs4 hb4 HnA
    refine hK.out _ _ ⟨HBd.out.later b4, HEd.out.later b4⟩ (fun hHeld => ?_)
    clear hK K
    try simp only [Act.put, List.setIfInBounds_toArray, List.set_cons_zero, List.set_cons_succ]
    refine wpAnyH_ready (rs := [7]) (by kernel_rfl) (by simp) ?_
    refine AllReadyH.cons (o := _) rfl (fun K hK => ?_) AllReadyH.nil
    rw [if_pos (by rfl)]
    go_simp
    refine (HX.out _ b4).mono ?_
    rintro e w5 ⟨rfl, hb5⟩
    go_wp2_with fail
    have b5 : Below w.heap.size w w5 := b4.trans (hb5.mono b4.size)
    have hBA : Bits w5 nA 47 (List.replicate 27 false) := hB4.later hb5
    have bA := b5
    refine hK.out _ _ ⟨HBd.out.later b5, HEd.out.later b5⟩ (fun hHeld => ?_)
    clear hK K
    try simp only [Act.put, List.setIfInBounds_toArray, List.set_cons_zero, List.set_cons_succ]
    refine take_atL (i := 8) (d := some 9) (v := .tuple #[aggB G, .bool nb]) rfl rfl (by kernel_rfl) (by kernel_rfl) (by kernel_rfl) (fun _ _ _ h => h) (by rfl) ?_ hHeld ?_
    · intro w' hSw; go_simp; first | done | rfl
    try simp only [Act.put, List.setIfInBounds_toArray, List.set_cons_zero, List.set_cons_succ]
    refine take_atL (i := 9) (d := some 18) (v := aggB G) rfl rfl (by kernel_rfl) (by kernel_rfl) (by kernel_rfl) (fun _ _ _ h => h) (by rfl) ?_ hHeld ?_
    · intro w' hSw; go_simp; first | done | rfl
    try simp only [Act.put, List.setIfInBounds_toArray, List.set_cons_zero, List.set_cons_succ]
    refine take_atL (i := 10) (d := some 19) (v := .bool nb) rfl rfl (by kernel_rfl) (by kernel_rfl) (by kernel_rfl) (fun _ _ _ h => h) (by rfl) ?_ hHeld ?_
    · intro w' hSw; go_simp; first | done | rfl
    try simp only [Act.put, List.setIfInBounds_toArray, List.set_cons_zero, List.set_cons_succ]
    have hnA : b < nA := by have := HBd.out.lt; omega
    have hnE : bE < nA := by have := HEd.out.lt; omega
    have hnW : w.heap.size ≤ nA := by omega
    refine wpAnyH_ready (rs := [12]) (by kernel_rfl) (by simp) ?_
    refine AllReadyH.cons (o := _) rfl (fun K hK => ?_) AllReadyH.nil
    rw [if_pos (by rfl)]
    refine wp_storeB none rfl 47 _ _ nA 0 47 _ G rfl rfl rfl (at27 hGl) hBA (by rw [List.length_replicate, hGl]; decide) ?_
    intro w7 hB7 hg7
    rw [putB_whole (by rw [List.length_replicate]; exact hGl)] at hB7
    have b7 : Below w.heap.size w w7 := bA.grown hg7 bA.size (fun j hj => by cases hj; exact hnW)
    refine hK.out _ _ ⟨HBd.out.later b7, HEd.out.later b7⟩ (fun hHeld => ?_)
    clear hK K
    simp only [Act.put]
    refine take_atL (i := 13) (d := some 8) (v := .bool nb) rfl rfl (by kernel_rfl) (by kernel_rfl) (by kernel_rfl) (fun _ _ _ h => h) (by rfl) ?_ hHeld ?_
    · intro w' hSw; go_simp; first | done | rfl
    try simp only [Act.put, List.setIfInBounds_toArray, List.set_cons_zero, List.set_cons_succ]
    refine wpAnyH_done (by kernel_rfl) ?_ _
    clear hHeld hBA bA hg7
    go_wp2_with fail
    refine wp_region_held_drew (S := fun W => Bits W nA 47 G) (by kernel_rfl) (hB7.later (Below.drew (Below.refl _ _))) (fun hHeld => ?_)
    refine take_atL (i := 0) (d := some 20) (v := .pointer (some ⟨b, 0, none⟩)) rfl rfl (by kernel_rfl) (by kernel_rfl) (by kernel_rfl) (fun _ _ _ h => h) (by rfl) ?_ hHeld ?_
    · intro w' hSw; go_simp; first | done | rfl
    try simp only [Act.put, List.setIfInBounds_toArray, List.set_cons_zero, List.set_cons_succ]
    refine take_atL (i := 1) (d := some 21) (v := .int .i64 (k : Int)) rfl rfl (by kernel_rfl) (by kernel_rfl) (by kernel_rfl) (fun _ _ _ h => h) (by rfl) ?_ hHeld ?_
    · intro w' hSw; go_simp; first | done | rfl
    try simp only [Act.put, List.setIfInBounds_toArray, List.set_cons_zero, List.set_cons_succ]
    refine take_atL (i := 2) (d := some 22) (v := .pointer (some ⟨b, 0, none⟩)) rfl rfl (by kernel_rfl) (by kernel_rfl) (by kernel_rfl) (fun _ _ _ h => h) (by rfl) ?_ hHeld ?_
    · intro w' hSw; go_simp; first | done | rfl
    try simp only [Act.put, List.setIfInBounds_toArray, List.set_cons_zero, List.set_cons_succ]
    refine take_atL (i := 3) (d := some 23) (v := .pointer (some ⟨b, k * 27, none⟩)) rfl rfl (by kernel_rfl) (by kernel_rfl) (by kernel_rfl) (fun _ _ _ h => h) (by rfl) ?_ hHeld ?_
    · intro w' hSw; go_simp; first | done | rfl
    try simp only [Act.put, List.setIfInBounds_toArray, List.set_cons_zero, List.set_cons_succ]
    refine take_atL (i := 4) (d := some 24) (v := aggB G) rfl rfl (by kernel_rfl) (by kernel_rfl) (by kernel_rfl) (fun _ _ _ h => h) (by rfl) ?_ hHeld ?_
    · intro w' hSw; exact exec_loadW (t := 47) (b := nA) rfl rfl (at27 hGl) hSw
    try simp only [Act.put, List.setIfInBounds_toArray, List.set_cons_zero, List.set_cons_succ]
    refine wpAnyH_ready (rs := [5]) (by kernel_rfl) (by simp) ?_
    refine AllReadyH.cons (o := _) rfl (fun K hK => ?_) AllReadyH.nil
    rw [if_pos (by rfl)]
    go_simp
    refine (HJ.out _ G hGl (HBd.out.later (b7.trans ((Below.drew (Below.refl _ _)).mono b7.size)))).mono ?_
    rintro e w8 ⟨rfl, hB8, hg8⟩
    have hB8A : Bits w8 nA 47 G := (hB7.later (Below.drew (Below.refl _ _))).grown hg8 (fun h => by have := Option.some.inj h; omega)
    go_wp2_with fail
    refine hK.out _ _ hB8A (fun hHeld => ?_)
    clear hK K
    try simp only [Act.put, List.setIfInBounds_toArray, List.set_cons_zero, List.set_cons_succ]
    refine wpAnyH_done (by kernel_rfl) ?_ _
    clear hHeld
    have hgw : w.grownBy w8 (some b) := grownBy_trans (grownBy_of_below (Below.drew b7) _) hg8
    rw [← HBg.out] at hB8
    go_wp2
    go_end0
    exact ⟨rfl, hB8, hgw⟩
end Go.Proofs.Ytdniejpblhbjkab
namespace Go.Proofs.Ytdniejpblhbjkab
open Go.RowKit

theorem some_ne {a b : Nat} (h : a ≠ b) : some a ≠ some b := fun e => h (Option.some.inj e)
theorem exec_build0 {P : Program} {ρ : Operand → Value} {o : Oper} {w : World} {ty e : TypeId} {n m q : Nat} (ho : o.op = .build ty #[]) (hT : BitT P ty n) (hu : P.underlying ty = some (.array m e)) (hz : (P.info? e).map (·.size) = some q) :
    (execOp ρ o).run P w = .ok (.value (aggB (List.replicate n false))) w := by
  have hs : (sizeOf e).run P w = .ok q w := by
    cases hq : P.info? e with
    | none => simp [hq] at hz
    | some j => simp [hq] at hz; simp [sizeOf, typeInfo, hq, hz]
  unfold execOp
  simp only [ho, Instr.build, Sem.run_bind, hT.zero, Result.andThen_ok, run_underlying hu, hs, List.map_toArray, List.map_nil, Instr.fill, Value.cells]
  rw [aggB, cellsB_rep]
  rfl
theorem wpList_build0 {P : Program} {ops : Array Oper} {rest : List Oper} {o : Oper} {a : Act} {w : World} {Q : Exit → Act → World → Prop} (hgd : Region.wanted o (yielded ops a.tmps) = true) (ty e : TypeId) (n m q : Nat) (ho : o.op = .build ty #[]) (hT : BitT P ty n) (hu : P.underlying ty = some (.array m e)) (hz : (P.info? e).map (·.size) = some q)
    (h : wpList P ops Q rest (a.put o.dst (aggB (List.replicate n false))) w) : wpList P ops Q (o :: rest) a w :=
  wpList_val hgd (exec_build0 ho hT hu hz) h
theorem u_table : Try.prog.underlying 50 = some (.array 20 47) := by kernel_rfl

set_option maxRecDepth 100000 in
theorem isThere_any (x : Gm) (a0 : Option Addr) (c0 : Nat) (n : Int) (w : World) (h0 : RD w (.slice a0 x.parts.length c0) (slD (Lay.list (Lay.list Lay.int)) x.parts)) (hn : Lay.gram.wt x ≤ 1048576) (hf : Lay.gram.fit x) (_ : (Lit.int .i64 n).wf = true) :
    Calls Try.prog 40 #[.agg #[.slice a0 x.parts.length c0], .int .i64 n] w fun e w' => e = .returned (.bool (gramOkB x.parts && inB n 0 (x.parts.length - 1))) ∧ Below w.heap.size w w' := by
  have B0 := (Below.refl w.heap.size w).alloc (Nat.le_refl _) (.cells #[.slice a0 x.parts.length c0] 28)
  have HOK : Hid (∀ W : World, Below w.heap.size w W → Calls Try.prog 32 #[.agg #[.slice a0 x.parts.length c0]] W fun e w' => e = .returned (.bool (gramOkB x.parts)) ∧ Below W.heap.size W w') := fun W hW => gramOk_any x a0 c0 W (h0.later hW) hn hf
  have hpl : gramOkB x.parts = true → x.parts.length ≤ 20 := fun h => (Fits.of h).parts
  clear h0 hn hf
  generalize x.parts = P at *
  by_cases hok : gramOkB P = true
  · have hp := hpl hok
    clear hpl
    rw [hok] at HOK ⊢
    rw [Bool.true_and]
    clear hok
    by_cases h1 : 0 ≤ n
    · by_cases h2 : n < (P.length : Int)
      · have e : inB n 0 ((P.length : Int) - 1) = true := inB_true.2 (by omega)
        rw [e]
        clear e
        go_enter Try.func40, Try.ntmps40
        go_wp2_with (go_at_call 32; refine (HOK.out _ B0).mono ?_; rintro e w1 ⟨rfl, hb1⟩; have g0 : w1.cell? ⟨w.heap.size, 0, none⟩ = some (.slice a0 P.length c0) := (hb1.cell (p := ⟨w.heap.size, 0, none⟩) (by simp)).trans (by simp))
        go_ret
        exact ⟨rfl, B0.trans (hb1.mono B0.size)⟩
      · have e : inB n 0 ((P.length : Int) - 1) = false := inB_false.2 (by omega)
        rw [e]
        clear e
        go_enter Try.func40, Try.ntmps40
        go_wp2_with (go_at_call 32; refine (HOK.out _ B0).mono ?_; rintro e w1 ⟨rfl, hb1⟩; have g0 : w1.cell? ⟨w.heap.size, 0, none⟩ = some (.slice a0 P.length c0) := (hb1.cell (p := ⟨w.heap.size, 0, none⟩) (by simp)).trans (by simp))
        go_ret
        exact ⟨ret_bool (by simp; omega), B0.trans (hb1.mono B0.size)⟩
    · have e : inB n 0 ((P.length : Int) - 1) = false := inB_false.2 (by omega)
      rw [e]
      clear e
      go_enter Try.func40, Try.ntmps40
      go_wp2_with (go_at_call 32; refine (HOK.out _ B0).mono ?_; rintro e w1 ⟨rfl, hb1⟩)
      go_ret
      exact ⟨rfl, B0.trans (hb1.mono B0.size)⟩
  · have hok2 : gramOkB P = false := by simpa using hok
    rw [hok2] at HOK ⊢
    rw [Bool.false_and]
    clear hok hok2 hpl
    go_enter Try.func40, Try.ntmps40
    go_wp2_with (go_at_call 32; refine (HOK.out _ B0).mono ?_; rintro e w1 ⟨rfl, hb1⟩)
    go_ret
    exact ⟨rfl, B0.trans (hb1.mono B0.size)⟩

end Go.Proofs.Ytdniejpblhbjkab
namespace Go.Proofs.Ytdniejpblhbjkab
open Go.RowKit

theorem at567 {E T : List Bool} (h1 : E.length = 27) (h2 : T.length = 540) : BitT Try.prog 52 (E ++ T).length := by rw [List.length_append, h1, h2]; exact bt_begin

set_option maxHeartbeats 2000000 in
set_option maxRecDepth 100000 in
theorem beginningsOf_any (P : List (List (List Int))) (a0 : Option Addr) (c0 : Nat) (w : World) (h0 : RD w (.slice a0 P.length c0) (slD (Lay.list (Lay.list Lay.int)) P)) (hok : gramOkB P = true) :
    Calls Try.prog 33 #[.agg #[.slice a0 P.length c0]] w fun e w' => ∃ T, e = .returned (aggB (flagsOf (emptiesL P) ++ T)) ∧ T.length = 540 ∧ Hid (∀ j c, j < 20 → c < 27 → (T.getD (j * 27 + c) false = true ↔ (c : Int) ∈ (firstsL P).getD j [])) ∧ Below w.heap.size w w' := by
  have hfl := flagsOf_length (emptiesL P)
  have HIS : Hid (∀ T : List Bool, T.length = 540 → Grows (bgR (flagsOf (emptiesL P))) P (List.replicate 540 false) T → leK (bgR (flagsOf (emptiesL P))) P T P.length = T → ∀ j c, j < 20 → c < 27 → (T.getD (j * 27 + c) false = true ↔ (c : Int) ∈ (firstsL P).getD j [])) := fun T h1 h2 h3 j c hj hc => firstsOf_tab hok h1 h2 h3 hj hc
  have HE : Hid (∀ W : World, Below w.heap.size w W → Calls Try.prog 54 #[.agg #[.slice a0 P.length c0]] W fun e w' => e = .returned (aggB (flagsOf (emptiesL P))) ∧ Below W.heap.size W w') := fun W hW => emptiesOf_any P a0 c0 W (h0.later hW) hok
  have HRZ : Hid (Raises (bgR (flagsOf (emptiesL P))) P 540) := bgR_raises _ _
  have HCL : Hid (∀ (W0 : World) (bE : Nat), Bits W0 bE 52 (flagsOf (emptiesL P) ++ List.replicate 540 false) → ∀ (W : World) (b : Nat) (T : List Bool) (k : Nat) (hk : k < P.length) (i : Nat) (hi : i < P[k].length) (a : Option Addr) (c : Nat), Below W0.heap.size W0 W → W0.heap.size ≤ b → Bits W b 50 T → T.length = 540 → RD W0 (.slice a P[k][i].length c) (slD Lay.int P[k][i]) →
      Calls Try.prog 56 #[.pointer (some ⟨b, 0, none⟩), .int .i64 (k : Int), .slice a P[k][i].length c, .pointer (some ⟨bE, 0, none⟩)] W fun e w' => e = .returned (.tuple #[]) ∧ Bits w' b 50 (bgR (flagsOf (emptiesL P)) k P[k][i] T) ∧ W.grownBy w' (some b)) := by
    intro W0 bE hE W b T k hk i hi a c hW hb hB hT hr
    have hp := (Fits.of hok).parts
    have hl8 := (Fits.of hok).rows _ (List.getElem_mem hk) _ (List.getElem_mem hi)
    exact beginStep_any b bE T (flagsOf (emptiesL P)) (List.replicate 540 false) k P[k][i] a c W hB hT (hE.later hW) (flagsOf_length _) (by omega) (hr.later hW).reads (fun z hz => by have := symsOk hok hk hi z hz; omega) (by omega)
  have HOK : Hid (gramOkB P = true) := hok
  have HR0 : Hid (RD w (.slice a0 P.length c0) (slD (Lay.list (Lay.list Lay.int)) P)) := h0
  have B0 := (Below.refl w.heap.size w).alloc (Nat.le_refl _) (.cells #[.slice a0 P.length c0] 28)
  have hsb : (w.alloc (.cells #[.slice a0 P.length c0] 28)).heap.size = w.heap.size + 1 := by simp
  have HQ0 : Hid ((w.alloc (.cells #[.slice a0 P.length c0] 28)).cell? ⟨w.heap.size, 0, none⟩ = some (.slice a0 P.length c0)) := by show _ = _; simp
  clear h0 hok
  generalize flagsOf (emptiesL P) = E at *
  have hEZ : (E ++ List.replicate 540 false).length = 567 := by rw [List.length_append, hfl, List.length_replicate]
  go_enter Try.func33, Try.ntmps33
  go_wp2_with (refine wpList_allocB (w := w.alloc _) rfl 52 rfl 567 bt_begin ?_; rw [hsb]; intro w1 hB1 hb1 hs1; have g1 := (hb1.cell (p := ⟨w.heap.size, 0, none⟩) (by simp)).trans HQ0.out)
  have b1 : Below w.heap.size w w1 := B0.trans (hb1.mono (by omega))
  refine (HE.out _ b1).mono ?_
  rintro e w2 ⟨rfl, hb2⟩
  have g2 := (hb2.cell (p := ⟨w.heap.size, 0, none⟩) (by simp; omega)).trans g1
  have b2 := b1.trans (hb2.mono b1.size)
  have hB2 := hB1.later hb2
  have hnr := hB2.lt
  clear HE HQ0 hB1 hb1 g1 B0 hb2 b1
  go_wp2_with (first | (refine wpList_begin1 (w := w2) rfl _ rfl E rfl hfl ?_) | (refine wpList_allocB (w := w2) rfl 52 rfl 567 bt_begin ?_; intro w3 hB3 hb3 hs3) | (refine wpList_storeB (w := w3) rfl 52 _ _ rfl w2.heap.size 0 52 _ (E ++ List.replicate 540 false) rfl rfl (at567 hfl List.length_replicate) hB3 (by rw [List.length_replicate, hEZ]; decide) ?_; intro w4 hB4 hg4; have g4 : w4.cell? ⟨w.heap.size, 0, none⟩ = some (.slice a0 P.length c0) := (World.cell?_of_block (w := w3) (a := ⟨w.heap.size, 0, none⟩) (hg4.block w.heap.size (by omega) (some_ne (by omega)))).trans ((hb3.cell (p := ⟨w.heap.size, 0, none⟩) (by simp; omega)).trans g2)) | (refine wpList_build0 rfl 50 47 540 20 27 rfl bt_table u_table bt_flags.size ?_))
  have e4 : putB (List.replicate 567 false) 0 (E ++ List.replicate 540 false) = E ++ List.replicate 540 false := putB_whole (by rw [List.length_replicate]; exact hEZ)
  rw [e4] at hB4
  have b4 : Below w.heap.size w w4 := (b2.trans (hb3.mono b2.size)).grown hg4 (by have := b2.size; omega) (fun j hj => by cases hj; exact b2.size)
  have hBR : Bits w4 (w.heap.size + 1) 52 (List.replicate 567 false) := (hB2.later hb3).grown hg4 (some_ne (by omega))
  refine (least_B (bgR E) (.pointer (some ⟨w2.heap.size, 0, none⟩)) P a0 c0 (List.replicate 540 false) w4 (HR0.out.later b4) HOK.out List.length_replicate HRZ.out (fun W b T k hk i hi a c h1 h2 h3 h4 h5 => HCL.out w4 w2.heap.size hB4 W b T k hk i hi a c h1 h2 h3 h4 h5)).mono ?_
  rintro e w5 ⟨T, rfl, hTl, hG, hfx, hb5⟩
  have HI : Hid (∀ j c, j < 20 → c < 27 → (T.getD (j * 27 + c) false = true ↔ (c : Int) ∈ (firstsL P).getD j [])) := HIS.out T hTl hG hfx
  have b5 := b4.trans (hb5.mono b4.size)
  have hB5 := hBR.later hb5
  have hB5b := hB4.later hb5
  have hnn : w2.heap.size ≠ w.heap.size + 1 := by omega
  have hnw := b2.size
  clear hG hfx hb5 hBR hB4 hg4 hb3 hs3 hB3 hB2 b2 b4 HIS HCL HRZ HR0 HOK g4 e4
  generalize w2.heap.size = nB at *
  have hET : putB (E ++ List.replicate 540 false) 27 T = E ++ T := by
    have := @putB_tail E (List.replicate 540 false) T (by rw [List.length_replicate]; exact hTl)
    rwa [hfl] at this
  have HET : Hid (putB (E ++ List.replicate 540 false) 27 T = E ++ T) := hET
  have hETl : (E ++ T).length = 567 := by rw [List.length_append, hfl, hTl]
  have HEZ : Hid ((E ++ List.replicate 540 false).length = 567) := hEZ
  clear hET hEZ
  go_wp2_with (first | (refine wpList_storeB (w := w5) rfl 50 _ _ rfl nB 27 52 _ T rfl rfl (at540B hTl) hB5b (by rw [HEZ.out, hTl]; decide) ?_; intro w6 hB6 hg6; rw [HET.out] at hB6; have hB6r := hB5.grown hg6 (some_ne hnn)) | (refine wpList_loadW (w := w6) rfl 52 _ rfl nB 52 (E ++ T) rfl (at567 hfl hTl) hB6 ?_) | (refine wpList_storeB (w := w6) rfl 52 _ _ rfl (w.heap.size + 1) 0 52 _ (E ++ T) rfl rfl (at567 hfl hTl) hB6r (by rw [List.length_replicate, hETl]; decide) ?_; intro w7 hB7 hg7))
  have e7 : putB (List.replicate 567 false) 0 (E ++ T) = E ++ T := putB_whole (by rw [List.length_replicate]; exact hETl)
  rw [e7] at hB7
  have b6 : Below w.heap.size w w6 := b5.grown hg6 b5.size (fun j hj => by cases hj; exact hnw)
  have b7 : Below w.heap.size w w7 := b6.grown hg7 b6.size (fun j hj => by cases hj; omega)
  refine bodyPost_ret (v := aggB (E ++ T)) (ret_cell 52 rfl rfl hB7 (at567 hfl hTl)) rfl ⟨T, rfl, hTl, HI, b7⟩
end Go.Proofs.Ytdniejpblhbjkab
namespace Go.Proofs.Ytdniejpblhbjkab
open Go.RowKit

set_option maxHeartbeats 1000000 in
set_option maxRecDepth 100000 in
theorem firstOf_any (x : Gm) (a0 : Option Addr) (c0 : Nat) (zs : List Int) (a1 : Option Addr) (c1 : Nat) (w : World) (h0 : RD w (.slice a0 x.parts.length c0) (slD (Lay.list (Lay.list Lay.int)) x.parts)) (h1 : RD w (.slice a1 zs.length c1) (slD Lay.int zs)) (hn : Lay.gram.wt x ≤ 1048576) (hf : Lay.gram.fit x) (hl : zs.length ≤ 1048576) (hz : (Lay.list Lay.int).fit zs) :
    Calls Try.prog 12 #[.agg #[.slice a0 x.parts.length c0], .slice a1 zs.length c1] w fun e w' => ∃ v S, e = .returned v ∧ OD w' w.heap.size v (slD Lay.int (resFirstOf x zs)) S ∧ Below w.heap.size w w' := by
  unfold resFirstOf
  have B0 := (Below.refl w.heap.size w).alloc (Nat.le_refl _) (.cells #[.slice a0 x.parts.length c0] 28)
  have HOK : Hid (∀ W : World, Below w.heap.size w W → Calls Try.prog 32 #[.agg #[.slice a0 x.parts.length c0]] W fun e w' => e = .returned (.bool (gramOkB x.parts)) ∧ Below W.heap.size W w') := fun W hW => gramOk_any x a0 c0 W (h0.later hW) hn hf
  have HS : Hid (gramOkB x.parts = true → ∀ W : World, Below w.heap.size w W → Calls Try.prog 33 #[.agg #[.slice a0 x.parts.length c0]] W fun e w' => ∃ T, e = .returned (aggB (flagsOf (emptiesL x.parts) ++ T)) ∧ T.length = 540 ∧ Hid (∀ j c, j < 20 → c < 27 → (T.getD (j * 27 + c) false = true ↔ (c : Int) ∈ (firstsL x.parts).getD j [])) ∧ Below W.heap.size W w') := fun hk W hW => beginningsOf_any x.parts a0 c0 W (h0.later hW) hk
  have HO : Hid (∀ (W : World) (B : List Bool), B.length = 567 → Below w.heap.size w W → Calls Try.prog 34 #[aggB B, .slice a1 zs.length c1] W fun e w' => e = .returned (.tuple #[aggB (ofB B (List.replicate 27 false) zs).1, .bool (ofB B (List.replicate 27 false) zs).2]) ∧ Below W.heap.size W w') := fun W B hB hW => ofRow_any B zs a1 c1 W hB (h1.later hW).reads (fit_ints hz) hl
  have HM : Hid (gramOkB x.parts = true → ∀ T : List Bool, (∀ j c, j < 20 → c < 27 → (T.getD (j * 27 + c) false = true ↔ (c : Int) ∈ (firstsL x.parts).getD j [])) → numsB (fun c => (ofB (flagsOf (emptiesL x.parts) ++ T) (List.replicate 27 false) zs).1.getD (0 + c) false) 27 = rowF (firstsL x.parts) (emptiesL x.parts) [] zs) := fun hk T hT => firstOf_nums hk hT zs
  have hfl := flagsOf_length (emptiesL x.parts)
  clear h0 hn hf h1 hz hl
  generalize rowF (firstsL x.parts) (emptiesL x.parts) [] zs = N at *
  generalize flagsOf (emptiesL x.parts) = E at *
  generalize firstsL x.parts = M at *
  generalize x.parts = P at *
  by_cases hok : gramOkB P = true
  · rw [if_pos hok]
    have HS2 : Hid (∀ W : World, Below w.heap.size w W → Calls Try.prog 33 #[.agg #[.slice a0 P.length c0]] W fun e w' => ∃ T, e = .returned (aggB (E ++ T)) ∧ T.length = 540 ∧ Hid (∀ j c, j < 20 → c < 27 → (T.getD (j * 27 + c) false = true ↔ (c : Int) ∈ M.getD j [])) ∧ Below W.heap.size W w') := HS.out hok
    have HM2 : Hid (∀ T : List Bool, (∀ j c, j < 20 → c < 27 → (T.getD (j * 27 + c) false = true ↔ (c : Int) ∈ M.getD j [])) → numsB (fun c => (ofB (E ++ T) (List.replicate 27 false) zs).1.getD (0 + c) false) 27 = N) := HM.out hok
    clear HS HM
    go_enter Try.func12, Try.ntmps12
    go_wp2_with fail
    refine (HOK.out _ B0).mono ?_
    rintro e w1 ⟨rfl, hb1⟩
    have g0 : w1.cell? ⟨w.heap.size, 0, none⟩ = some (.slice a0 P.length c0) := (hb1.cell (p := ⟨w.heap.size, 0, none⟩) (by simp)).trans (by simp)
    have B1 := B0.trans (hb1.mono B0.size)
    clear HOK hb1
    go_wp2_with fail
    refine (HS2.out _ B1).mono ?_
    rintro e w2 ⟨T, rfl, hTl, HI, hb2⟩
    have B2 := B1.trans (hb2.mono B1.size)
    have HN : Hid (numsB (fun c => (ofB (E ++ T) (List.replicate 27 false) zs).1.getD (0 + c) false) 27 = N) := HM2.out T HI.out
    have HO2 := HO.out w2 (E ++ T) (by rw [List.length_append, hfl, hTl]) B2
    have HO3 : Hid (Calls Try.prog 34 #[aggB (E ++ T), .slice a1 zs.length c1] w2 fun e w' => e = .returned (.tuple #[aggB (ofB (E ++ T) (List.replicate 27 false) zs).1, .bool (ofB (E ++ T) (List.replicate 27 false) zs).2]) ∧ Below w2.heap.size w2 w') := HO2
    have hGl : (ofB (E ++ T) (List.replicate 27 false) zs).1.length = 27 := by rw [ofB_length, List.length_replicate]
    clear HS2 hb2 g0 B1 B0 HI HO HO2 HM2
    generalize ofB (E ++ T) (List.replicate 27 false) zs = GB at *
    obtain ⟨G, nb⟩ := GB
    go_wp2_with fail
    refine HO3.out.mono ?_
    rintro e w3 ⟨rfl, hb3⟩
    have B3 := B2.trans (hb3.mono B2.size)
    clear HO3 hb3 B2
    go_wp2_with (first | (refine wpList_allocB (w := w3) rfl 47 rfl 27 bt_flags ?_; intro w4 hB4 hb4 hs4) | (refine wpList_storeB (w := w4) rfl 47 _ _ rfl w3.heap.size 0 47 _ G rfl rfl (at27 hGl) hB4 (by rw [List.length_replicate, hGl]; decide) ?_; intro w5 hB5 hg5))
    have e4 : putB (List.replicate 27 false) 0 G = G := putB_whole (by rw [List.length_replicate]; exact hGl)
    rw [e4] at hB5
    have B5 : Below w.heap.size w w5 := (B3.trans (hb4.mono B3.size)).grown hg5 (by have := B3.size; omega) (fun j hj => by cases hj; exact B3.size)
    clear e4 hB4 hb4 hs4 hg5
    refine (numbers_any _ 0 _ G _ hB5 (by omega)).mono ?_
    rintro e w6 ⟨v, rfl, hO, hb6⟩
    rw [HN.out] at hO
    have B6 := B5.trans (hb6.mono B5.size)
    have hs5 := B5.size
    have HD : Hid (OD w6 w.heap.size v (slD Lay.int N) (fun j => v.ownBlock = some j)) := (hO.base hs5).od
    clear hO hb6 hB5 B5 B3
    go_wp2
    go_ret
    exact ⟨_, _, rfl, HD.out, B6⟩
  · have hok2 : gramOkB P = false := by simpa using hok
    rw [if_neg hok]
    clear hok HS HM HO
    go_enter Try.func12, Try.ntmps12
    go_wp2_with (go_at_call 32; refine (HOK.out _ B0).mono ?_; rintro e w1 ⟨rfl, hb1⟩)
    go_ret
    have B1 := B0.trans (hb1.mono B0.size)
    exact ⟨_, _, rfl, (OwnInts.nil w1 w.heap.size 3).od, B1⟩
end Go.Proofs.Ytdniejpblhbjkab
namespace Go.Proofs.Ytdniejpblhbjkab
open Go.RowKit

set_option maxHeartbeats 4000000 in
set_option maxRecDepth 100000 in
theorem fnExactFirstOf_law (x0 : Gm) (a0 : Option Addr) (c0 : Nat) (z1 : List Int) (a1 : Option Addr) (c1 : Nat) (w : World) (h0 : RD w (.slice a0 x0.parts.length c0) (slD (Lay.list (Lay.list Lay.int)) x0.parts)) (h1 : RD w (.slice a1 z1.length c1) (slD Lay.int z1)) (hf0 : Lay.gram.fit x0) (hf1 : (Lay.list Lay.int).fit z1) :
    Calls Try.prog 3 #[.agg #[.slice a0 x0.parts.length c0], .slice a1 z1.length c1] w fun e w' => e = .returned (.bool true) ∧ Below w.heap.size w w' := by
  have HH0 : Hid (Holds w w [] []) := Holds.start w
  have H0 : Hid (RD w (.slice a0 x0.parts.length c0) (slD (Lay.list (Lay.list Lay.int)) x0.parts)) := h0
  clear h0
  have HF0 : Hid (Lay.gram.fit x0) := hf0
  have H1 : Hid (RD w (.slice a1 z1.length c1) (slD Lay.int z1)) := h1
  clear h1
  have HF1 : Hid ((Lay.list Lay.int).fit z1) := hf1
  have HH1 : Hid (Holds w (w.alloc (.cells #[.slice a0 x0.parts.length c0] 24)) [(w.heap.size, [.slice a0 x0.parts.length c0])] []) := by show Holds _ _ _ _; simpa using HH0.out.box [.slice a0 x0.parts.length c0] 24
  clear HH0
  have hm1 := hf1.1
  unfold maxLen at hm1
  clear hf1
  by_cases hl1 : 1048576 < z1.length
  · go_enter Try.func3, Try.ntmps3
    go_wp2
    go_ret
    exact ⟨rfl, HH1.out.below⟩
  go_enter Try.func3, Try.ntmps3
  have q0 : (w.alloc (.cells #[.slice a0 x0.parts.length c0] 24)).cell? ⟨w.heap.size, 0, none⟩ = some (.slice a0 x0.parts.length c0) := HH1.out.cell (w.heap.size, [.slice a0 x0.parts.length c0]) List.mem_cons_self 0 (by simp)
  go_wp2_with fail
  refine (szGram_l x0 a0 c0 _ _ (H0.out.later HH1.out.below) HF0.out (by omega) (by omega)).mono ?_
  rintro e w3 ⟨r0, rfl, hr0, B2⟩
  clear q0
  have HH4 : Hid (Holds w w3 [(w.heap.size, [.slice a0 x0.parts.length c0])] []) := HH1.out.later B2
  clear HH1
  clear B2
  rcases hr0 with rfl | ⟨hr0a, hr0b⟩
  · go_wp2
    go_ret
    exact ⟨rfl, HH4.out.below⟩
  have HW0 : Hid (Lay.gram.wt x0 ≤ 1048576) := by show _ ≤ _; omega
  have hr0c : r0 ≤ 1048576 := by omega
  clear hr0b hf0
  have q0 : w3.cell? ⟨w.heap.size, 0, none⟩ = some (.slice a0 x0.parts.length c0) := HH4.out.cell (w.heap.size, [.slice a0 x0.parts.length c0]) List.mem_cons_self 0 (by simp)
  go_wp2_with fail
  refine (toGram_l x0 a0 c0 _ (H0.out.later HH4.out.below) (by have := HW0.out; omega)).mono ?_
  rintro e w7 ⟨a0s, c0s, S0s, rfl, O6, B5⟩
  clear q0
  have HH8 : Hid (Holds w w7 [(w.heap.size, [.slice a0 x0.parts.length c0])] [([.slice a0s x0.parts.length c0s], Lay.gram.cells x0)]) := HH4.out.push B5 O6
  clear HH4
  clear B5 O6
  have q0 : w7.cell? ⟨w.heap.size, 0, none⟩ = some (.slice a0 x0.parts.length c0) := HH8.out.cell (w.heap.size, [.slice a0 x0.parts.length c0]) List.mem_cons_self 0 (by simp)
  go_wp2_with fail
  refine (toIntS_l z1 a1 c1 _ (H1.out.later HH8.out.below) (by rw [Lay.wt_ints]; omega)).mono ?_
  rintro e w11 ⟨v1s, S1s, rfl, O10o, B9⟩
  clear q0
  obtain ⟨a1s, c1s, rfl, _⟩ := OD.shapeL O10o
  have O10 := Cells.one O10o
  clear O10o
  have HH12 : Hid (Holds w w11 [(w.heap.size, [.slice a0 x0.parts.length c0])] [([.slice a1s z1.length c1s], [slD Lay.int z1]), ([.slice a0s x0.parts.length c0s], Lay.gram.cells x0)]) := HH8.out.push B9 O10
  clear HH8
  clear B9 O10
  have R13 : Hid (RD w11 (.slice a0s x0.parts.length c0s) (slD (Lay.list (Lay.list Lay.int)) x0.parts)) := HH12.out.rd ([.slice a0s x0.parts.length c0s], Lay.gram.cells x0) (List.mem_cons_of_mem _ List.mem_cons_self) 0 (by simp) (by simp [Lay.gram])
  have R14 : Hid (RD w11 (.slice a1s z1.length c1s) (slD Lay.int z1)) := HH12.out.rd ([.slice a1s z1.length c1s], [slD Lay.int z1]) List.mem_cons_self 0 (by simp) (by simp)
  have q0 : w11.cell? ⟨w.heap.size, 0, none⟩ = some (.slice a0 x0.parts.length c0) := HH12.out.cell (w.heap.size, [.slice a0 x0.parts.length c0]) List.mem_cons_self 0 (by simp)
  go_wp2_with fail
  refine (specFirstOf_any x0 a0s c0s z1 a1s c1s _ R13.out R14.out (by have := HW0.out; omega) HF0.out (by omega) HF1.out).mono ?_
  rintro e w17 ⟨vW, SW, rfl, O16o, B15⟩
  clear q0
  obtain ⟨aW, cW, rfl, _⟩ := OD.shapeL O16o
  have O16 := Cells.one O16o
  clear O16o
  have HH18 : Hid (Holds w w17 [(w.heap.size, [.slice a0 x0.parts.length c0])] [([.slice aW (resFirstOf x0 z1).length cW], [slD Lay.int (resFirstOf x0 z1)]), ([.slice a1s z1.length c1s], [slD Lay.int z1]), ([.slice a0s x0.parts.length c0s], Lay.gram.cells x0)]) := HH12.out.push B15 O16
  clear HH12
  clear B15 O16
  clear R13 R14
  have HH19 : Hid (Holds w w17 [(w.heap.size, [.slice a0 x0.parts.length c0])] [([.slice aW (resFirstOf x0 z1).length cW], [slD Lay.int (resFirstOf x0 z1)]), ([.slice a1s z1.length c1s], [slD Lay.int z1])]) := Holds.drop (P := [([.slice aW (resFirstOf x0 z1).length cW], [slD Lay.int (resFirstOf x0 z1)]), ([.slice a1s z1.length c1s], [slD Lay.int z1])]) (x := ([.slice a0s x0.parts.length c0s], Lay.gram.cells x0)) (Q := []) HH18.out
  clear HH18
  have HH20 : Hid (Holds w w17 [(w.heap.size, [.slice a0 x0.parts.length c0])] [([.slice aW (resFirstOf x0 z1).length cW], [slD Lay.int (resFirstOf x0 z1)])]) := Holds.drop (P := [([.slice aW (resFirstOf x0 z1).length cW], [slD Lay.int (resFirstOf x0 z1)])]) (x := ([.slice a1s z1.length c1s], [slD Lay.int z1])) (Q := []) HH19.out
  clear HH19
  have q0 : w17.cell? ⟨w.heap.size, 0, none⟩ = some (.slice a0 x0.parts.length c0) := HH20.out.cell (w.heap.size, [.slice a0 x0.parts.length c0]) List.mem_cons_self 0 (by simp)
  go_wp2_with fail
  refine (toGram_l x0 a0 c0 _ (H0.out.later HH20.out.below) (by have := HW0.out; omega)).mono ?_
  rintro e w23 ⟨a0m, c0m, S0m, rfl, O22, B21⟩
  clear q0
  have HH24 : Hid (Holds w w23 [(w.heap.size, [.slice a0 x0.parts.length c0])] [([.slice a0m x0.parts.length c0m], Lay.gram.cells x0), ([.slice aW (resFirstOf x0 z1).length cW], [slD Lay.int (resFirstOf x0 z1)])]) := HH20.out.push B21 O22
  clear HH20
  clear B21 O22
  have HH25 : Hid (Holds w (w23.alloc (.cells #[.slice a0m x0.parts.length c0m] 28)) [(w23.heap.size, [.slice a0m x0.parts.length c0m]), (w.heap.size, [.slice a0 x0.parts.length c0])] [([.slice a0m x0.parts.length c0m], Lay.gram.cells x0), ([.slice aW (resFirstOf x0 z1).length cW], [slD Lay.int (resFirstOf x0 z1)])]) := by show Holds _ _ _ _; simpa using HH24.out.box [.slice a0m x0.parts.length c0m] 28
  clear HH24
  have q0 : (w23.alloc (.cells #[.slice a0m x0.parts.length c0m] 28)).cell? ⟨w23.heap.size, 0, none⟩ = some (.slice a0m x0.parts.length c0m) := HH25.out.cell (w23.heap.size, [.slice a0m x0.parts.length c0m]) List.mem_cons_self 0 (by simp)
  have q1 : (w23.alloc (.cells #[.slice a0m x0.parts.length c0m] 28)).cell? ⟨w.heap.size, 0, none⟩ = some (.slice a0 x0.parts.length c0) := HH25.out.cell (w.heap.size, [.slice a0 x0.parts.length c0]) (List.mem_cons_of_mem _ List.mem_cons_self) 0 (by simp)
  go_wp2_with fail
  refine (toIntS_l z1 a1 c1 _ (H1.out.later HH25.out.below) (by rw [Lay.wt_ints]; omega)).mono ?_
  rintro e w28 ⟨v1m, S1m, rfl, O27o, B26⟩
  clear q0 q1
  obtain ⟨a1m, c1m, rfl, _⟩ := OD.shapeL O27o
  have O27 := Cells.one O27o
  clear O27o
  have HH29 : Hid (Holds w w28 [(w23.heap.size, [.slice a0m x0.parts.length c0m]), (w.heap.size, [.slice a0 x0.parts.length c0])] [([.slice a1m z1.length c1m], [slD Lay.int z1]), ([.slice a0m x0.parts.length c0m], Lay.gram.cells x0), ([.slice aW (resFirstOf x0 z1).length cW], [slD Lay.int (resFirstOf x0 z1)])]) := HH25.out.push B26 O27
  clear HH25
  clear B26 O27
  have R30 : Hid (RD w28 (.slice a0m x0.parts.length c0m) (slD (Lay.list (Lay.list Lay.int)) x0.parts)) := HH29.out.rd ([.slice a0m x0.parts.length c0m], Lay.gram.cells x0) (List.mem_cons_of_mem _ List.mem_cons_self) 0 (by simp) (by simp [Lay.gram])
  have R31 : Hid (RD w28 (.slice a1m z1.length c1m) (slD Lay.int z1)) := HH29.out.rd ([.slice a1m z1.length c1m], [slD Lay.int z1]) List.mem_cons_self 0 (by simp) (by simp)
  have q0 : w28.cell? ⟨w23.heap.size, 0, none⟩ = some (.slice a0m x0.parts.length c0m) := HH29.out.cell (w23.heap.size, [.slice a0m x0.parts.length c0m]) List.mem_cons_self 0 (by simp)
  have q1 : w28.cell? ⟨w.heap.size, 0, none⟩ = some (.slice a0 x0.parts.length c0) := HH29.out.cell (w.heap.size, [.slice a0 x0.parts.length c0]) (List.mem_cons_of_mem _ List.mem_cons_self) 0 (by simp)
  go_wp2_with fail
  refine (firstOf_any x0 a0m c0m z1 a1m c1m _ R30.out R31.out (by have := HW0.out; omega) HF0.out (by omega) HF1.out).mono ?_
  rintro e w34 ⟨vG, SG, rfl, O33o, B32⟩
  clear q0 q1
  obtain ⟨aG, cG, rfl, _⟩ := OD.shapeL O33o
  have O33 := Cells.one O33o
  clear O33o
  have HH35 : Hid (Holds w w34 [(w23.heap.size, [.slice a0m x0.parts.length c0m]), (w.heap.size, [.slice a0 x0.parts.length c0])] [([.slice aG (resFirstOf x0 z1).length cG], [slD Lay.int (resFirstOf x0 z1)]), ([.slice a1m z1.length c1m], [slD Lay.int z1]), ([.slice a0m x0.parts.length c0m], Lay.gram.cells x0), ([.slice aW (resFirstOf x0 z1).length cW], [slD Lay.int (resFirstOf x0 z1)])]) := HH29.out.push B32 O33
  clear HH29
  clear B32 O33
  clear R30 R31
  have HRw : Hid ((Lay.list Lay.int).wt (resFirstOf x0 z1) ≤ 2097152) := resFirstOf_le x0 z1 (by have := HW0.out; omega) HF0.out (by omega) HF1.out
  obtain ⟨R, HRe⟩ : ∃ R, Hid (resFirstOf x0 z1 = R) := ⟨_, rfl⟩
  have HH36 : Hid (Holds w w34 [(w23.heap.size, [.slice a0m x0.parts.length c0m]), (w.heap.size, [.slice a0 x0.parts.length c0])] [([.slice aG R.length cG], [slD Lay.int R]), ([.slice a1m z1.length c1m], [slD Lay.int z1]), ([.slice a0m x0.parts.length c0m], Lay.gram.cells x0), ([.slice aW R.length cW], [slD Lay.int R])]) := by show Holds _ _ _ _; have := HH35.out; rw [HRe.out] at this; exact this
  clear HH35
  have HRx : Hid ((Lay.list Lay.int).wt R ≤ 2097152) := by show _ ≤ _; rw [← HRe.out]; exact HRw.out
  clear HRw
  have HRw := HRx
  clear HRx
  rw [HRe.out]
  have R37 : Hid (RD w34 (.slice aG R.length cG) (slD Lay.int R)) := HH36.out.rd ([.slice aG R.length cG], [slD Lay.int R]) List.mem_cons_self 0 (by simp) (by simp)
  have R38 : Hid (RD w34 (.slice aW R.length cW) (slD Lay.int R)) := HH36.out.rd ([.slice aW R.length cW], [slD Lay.int R]) (List.mem_cons_of_mem _ (List.mem_cons_of_mem _ (List.mem_cons_of_mem _ List.mem_cons_self))) 0 (by simp) (by simp)
  have q0 : w34.cell? ⟨w23.heap.size, 0, none⟩ = some (.slice a0m x0.parts.length c0m) := HH36.out.cell (w23.heap.size, [.slice a0m x0.parts.length c0m]) List.mem_cons_self 0 (by simp)
  have q1 : w34.cell? ⟨w.heap.size, 0, none⟩ = some (.slice a0 x0.parts.length c0) := HH36.out.cell (w.heap.size, [.slice a0 x0.parts.length c0]) (List.mem_cons_of_mem _ List.mem_cons_self) 0 (by simp)
  go_wp2_with fail
  refine (eqIntS_l R aG aW cG cW _ R37.out R38.out (by have := HRw.out; omega)).mono ?_
  rintro e w40 ⟨rfl, B39⟩
  clear q0 q1
  clear R37 R38
  have HH41 : Hid (Holds w w40 [(w23.heap.size, [.slice a0m x0.parts.length c0m]), (w.heap.size, [.slice a0 x0.parts.length c0])] [([.slice aG R.length cG], [slD Lay.int R]), ([.slice a1m z1.length c1m], [slD Lay.int z1]), ([.slice a0m x0.parts.length c0m], Lay.gram.cells x0), ([.slice aW R.length cW], [slD Lay.int R])]) := HH36.out.later B39
  clear HH36
  clear B39
  have q0 : w40.cell? ⟨w23.heap.size, 0, none⟩ = some (.slice a0m x0.parts.length c0m) := HH41.out.cell (w23.heap.size, [.slice a0m x0.parts.length c0m]) List.mem_cons_self 0 (by simp)
  have q1 : w40.cell? ⟨w.heap.size, 0, none⟩ = some (.slice a0 x0.parts.length c0) := HH41.out.cell (w.heap.size, [.slice a0 x0.parts.length c0]) (List.mem_cons_of_mem _ List.mem_cons_self) 0 (by simp)
  go_wp2_with fail
  refine wp_region_held_drew (S := fun w' => Keeps w' [(w23.heap.size, [.slice a0m x0.parts.length c0m]), (w.heap.size, [.slice a0 x0.parts.length c0])]) (by kernel_rfl) HH41.out.boxes.drew (fun hHeld => ?_)
  refine take_atL (i := 0) (d := some 38) (v := .agg #[.slice a0m x0.parts.length c0m]) rfl rfl (by kernel_rfl) (by kernel_rfl) (by kernel_rfl) (fun _ _ _ h => h) (by rfl) ?_ hHeld ?_
  · intro w' hSw
    have p0 : w'.cell? ⟨w23.heap.size, 0, none⟩ = some (.slice a0m x0.parts.length c0m) := hSw (w23.heap.size, [.slice a0m x0.parts.length c0m]) List.mem_cons_self 0 (by simp)
    go_simp; try rfl
  try simp only [Act.put, List.setIfInBounds_toArray, List.set_cons_zero, List.set_cons_succ]
  refine take_atL (i := 1) (d := some 39) (v := .agg #[.slice a0 x0.parts.length c0]) rfl rfl (by kernel_rfl) (by kernel_rfl) (by kernel_rfl) (fun _ _ _ h => h) (by rfl) ?_ hHeld ?_
  · intro w' hSw
    have p0 : w'.cell? ⟨w.heap.size, 0, none⟩ = some (.slice a0 x0.parts.length c0) := hSw (w.heap.size, [.slice a0 x0.parts.length c0]) (List.mem_cons_of_mem _ List.mem_cons_self) 0 (by simp)
    go_simp; try rfl
  try simp only [Act.put, List.setIfInBounds_toArray, List.set_cons_zero, List.set_cons_succ]
  clear q0 q1
  refine wpAnyH_ready (rs := [2]) (by kernel_rfl) (by simp) ?_
  refine AllReadyH.cons (o := _) rfl (fun K hK => ?_) AllReadyH.nil
  rw [if_pos (by rfl)]
  go_simp
  refine (toGram_l x0 a0 c0 _ (H0.out.later (Below.drew HH41.out.below)) (by have := HW0.out; omega)).mono ?_
  rintro e w42 ⟨a0e, c0e, S0e, rfl, O44, B43d⟩
  have B43 : Below (w40).heap.size w40 w42 := Below.drewed (by simpa using B43d)
  clear B43d hHeld
  have HH45 : Hid (Holds w w42 [(w23.heap.size, [.slice a0m x0.parts.length c0m]), (w.heap.size, [.slice a0 x0.parts.length c0])] [([.slice a0e x0.parts.length c0e], Lay.gram.cells x0), ([.slice aG R.length cG], [slD Lay.int R]), ([.slice a1m z1.length c1m], [slD Lay.int z1]), ([.slice a0m x0.parts.length c0m], Lay.gram.cells x0), ([.slice aW R.length cW], [slD Lay.int R])]) := HH41.out.push B43 O44
  clear HH41
  clear B43 O44
  go_wp2_with fail
  refine hK.out _ _ HH45.out.boxes (fun hHeld => ?_)
  clear hK K
  try simp only [Act.put, List.setIfInBounds_toArray, List.set_cons_zero, List.set_cons_succ]
  refine wpAnyH_ready (rs := [3]) (by kernel_rfl) (by simp) ?_
  refine AllReadyH.cons (o := _) rfl (fun K hK => ?_) AllReadyH.nil
  rw [if_pos (by rfl)]
  go_simp
  have R46 : Hid (RD w42 (.slice a0m x0.parts.length c0m) (slD (Lay.list (Lay.list Lay.int)) x0.parts)) := HH45.out.rd ([.slice a0m x0.parts.length c0m], Lay.gram.cells x0) (List.mem_cons_of_mem _ (List.mem_cons_of_mem _ (List.mem_cons_of_mem _ List.mem_cons_self))) 0 (by simp) (by simp [Lay.gram])
  have R47 : Hid (RD w42 (.slice a0e x0.parts.length c0e) (slD (Lay.list (Lay.list Lay.int)) x0.parts)) := HH45.out.rd ([.slice a0e x0.parts.length c0e], Lay.gram.cells x0) List.mem_cons_self 0 (by simp) (by simp [Lay.gram])
  refine (eqGram_l x0 a0m a0e c0m c0e _ R46.out R47.out (by have := HW0.out; omega)).mono ?_
  rintro e w48 ⟨rfl, B49⟩
  clear hHeld R46 R47
  have HH50 : Hid (Holds w w48 [(w23.heap.size, [.slice a0m x0.parts.length c0m]), (w.heap.size, [.slice a0 x0.parts.length c0])] [([.slice a0e x0.parts.length c0e], Lay.gram.cells x0), ([.slice aG R.length cG], [slD Lay.int R]), ([.slice a1m z1.length c1m], [slD Lay.int z1]), ([.slice a0m x0.parts.length c0m], Lay.gram.cells x0), ([.slice aW R.length cW], [slD Lay.int R])]) := HH45.out.later B49
  clear HH45
  clear B49
  have HH51 : Hid (Holds w w48 [(w23.heap.size, [.slice a0m x0.parts.length c0m]), (w.heap.size, [.slice a0 x0.parts.length c0])] [([.slice aG R.length cG], [slD Lay.int R]), ([.slice a1m z1.length c1m], [slD Lay.int z1]), ([.slice a0m x0.parts.length c0m], Lay.gram.cells x0), ([.slice aW R.length cW], [slD Lay.int R])]) := Holds.drop (P := []) (x := ([.slice a0e x0.parts.length c0e], Lay.gram.cells x0)) (Q := [([.slice aG R.length cG], [slD Lay.int R]), ([.slice a1m z1.length c1m], [slD Lay.int z1]), ([.slice a0m x0.parts.length c0m], Lay.gram.cells x0), ([.slice aW R.length cW], [slD Lay.int R])]) HH50.out
  clear HH50
  go_wp2_with fail
  refine hK.out _ _ HH51.out.boxes (fun hHeld => ?_)
  clear hK K
  try simp only [Act.put, List.setIfInBounds_toArray, List.set_cons_zero, List.set_cons_succ]
  refine take_atL (i := 4) (d := some 42) (v := .bool false) rfl rfl (by kernel_rfl) (by kernel_rfl) (by kernel_rfl) (fun _ _ _ h => h) (by rfl) ?_ hHeld ?_
  · intro w' hSw; go_simp; try rfl
  try simp only [Act.put, List.setIfInBounds_toArray, List.set_cons_zero, List.set_cons_succ]
  refine wpAnyH_done (by kernel_rfl) ?_ _
  clear hHeld
  have q0 : w48.cell? ⟨w23.heap.size, 0, none⟩ = some (.slice a0m x0.parts.length c0m) := HH51.out.cell (w23.heap.size, [.slice a0m x0.parts.length c0m]) List.mem_cons_self 0 (by simp)
  have q1 : w48.cell? ⟨w.heap.size, 0, none⟩ = some (.slice a0 x0.parts.length c0) := HH51.out.cell (w.heap.size, [.slice a0 x0.parts.length c0]) (List.mem_cons_of_mem _ List.mem_cons_self) 0 (by simp)
  go_wp2_with fail
  refine (toIntS_l z1 a1 c1 _ (H1.out.later HH51.out.below) (by rw [Lay.wt_ints]; omega)).mono ?_
  rintro e w54 ⟨v1e, S1e, rfl, O53o, B52⟩
  clear q0 q1
  obtain ⟨a1e, c1e, rfl, _⟩ := OD.shapeL O53o
  have O53 := Cells.one O53o
  clear O53o
  have HH55 : Hid (Holds w w54 [(w23.heap.size, [.slice a0m x0.parts.length c0m]), (w.heap.size, [.slice a0 x0.parts.length c0])] [([.slice a1e z1.length c1e], [slD Lay.int z1]), ([.slice aG R.length cG], [slD Lay.int R]), ([.slice a1m z1.length c1m], [slD Lay.int z1]), ([.slice a0m x0.parts.length c0m], Lay.gram.cells x0), ([.slice aW R.length cW], [slD Lay.int R])]) := HH51.out.push B52 O53
  clear HH51
  clear B52 O53
  have R56 : Hid (RD w54 (.slice a1m z1.length c1m) (slD Lay.int z1)) := HH55.out.rd ([.slice a1m z1.length c1m], [slD Lay.int z1]) (List.mem_cons_of_mem _ (List.mem_cons_of_mem _ List.mem_cons_self)) 0 (by simp) (by simp)
  have R57 : Hid (RD w54 (.slice a1e z1.length c1e) (slD Lay.int z1)) := HH55.out.rd ([.slice a1e z1.length c1e], [slD Lay.int z1]) List.mem_cons_self 0 (by simp) (by simp)
  have q0 : w54.cell? ⟨w23.heap.size, 0, none⟩ = some (.slice a0m x0.parts.length c0m) := HH55.out.cell (w23.heap.size, [.slice a0m x0.parts.length c0m]) List.mem_cons_self 0 (by simp)
  have q1 : w54.cell? ⟨w.heap.size, 0, none⟩ = some (.slice a0 x0.parts.length c0) := HH55.out.cell (w.heap.size, [.slice a0 x0.parts.length c0]) (List.mem_cons_of_mem _ List.mem_cons_self) 0 (by simp)
  go_wp2_with fail
  refine (eqIntS_l z1 a1m a1e c1m c1e _ R56.out R57.out (by rw [Lay.wt_ints]; omega)).mono ?_
  rintro e w59 ⟨rfl, B58⟩
  clear q0 q1
  clear R56 R57
  have HH60 : Hid (Holds w w59 [(w23.heap.size, [.slice a0m x0.parts.length c0m]), (w.heap.size, [.slice a0 x0.parts.length c0])] [([.slice a1e z1.length c1e], [slD Lay.int z1]), ([.slice aG R.length cG], [slD Lay.int R]), ([.slice a1m z1.length c1m], [slD Lay.int z1]), ([.slice a0m x0.parts.length c0m], Lay.gram.cells x0), ([.slice aW R.length cW], [slD Lay.int R])]) := HH55.out.later B58
  clear HH55
  clear B58
  have HH61 : Hid (Holds w w59 [(w23.heap.size, [.slice a0m x0.parts.length c0m]), (w.heap.size, [.slice a0 x0.parts.length c0])] [([.slice aG R.length cG], [slD Lay.int R]), ([.slice a1m z1.length c1m], [slD Lay.int z1]), ([.slice a0m x0.parts.length c0m], Lay.gram.cells x0), ([.slice aW R.length cW], [slD Lay.int R])]) := Holds.drop (P := []) (x := ([.slice a1e z1.length c1e], [slD Lay.int z1])) (Q := [([.slice aG R.length cG], [slD Lay.int R]), ([.slice a1m z1.length c1m], [slD Lay.int z1]), ([.slice a0m x0.parts.length c0m], Lay.gram.cells x0), ([.slice aW R.length cW], [slD Lay.int R])]) HH60.out
  clear HH60
  have hcl0 := cntGram_le x0
  obtain ⟨T62, hcT62, htT62⟩ := Holds.turn (P := [([.slice aG R.length cG], [slD Lay.int R]), ([.slice a1m z1.length c1m], [slD Lay.int z1])]) (x := ([.slice a0m x0.parts.length c0m], Lay.gram.cells x0)) (Q := [([.slice aW R.length cW], [slD Lay.int R])]) HH61.out
  have q0 : w59.cell? ⟨w23.heap.size, 0, none⟩ = some (.slice a0m x0.parts.length c0m) := HH61.out.cell (w23.heap.size, [.slice a0m x0.parts.length c0m]) List.mem_cons_self 0 (by simp)
  have q1 : w59.cell? ⟨w.heap.size, 0, none⟩ = some (.slice a0 x0.parts.length c0) := HH61.out.cell (w.heap.size, [.slice a0 x0.parts.length c0]) (List.mem_cons_of_mem _ List.mem_cons_self) 0 (by simp)
  have HTT62 : Hid (∀ w' ds, Cells w' w.heap.size [.slice a0m x0.parts.length c0m] ds T62 → Within w59 w' T62 → Holds w w' [(w23.heap.size, [.slice a0m x0.parts.length c0m]), (w.heap.size, [.slice a0 x0.parts.length c0])] ([([.slice aG R.length cG], [slD Lay.int R]), ([.slice a1m z1.length c1m], [slD Lay.int z1])] ++ ([.slice a0m x0.parts.length c0m], ds) :: [([.slice aW R.length cW], [slD Lay.int R])])) := htT62
  clear htT62
  go_wp2_with fail
  refine (markGram_l x0 _ a0m x0.parts.length c0m _ 1 _ hcT62 (by have := HW0.out; omega)).mono ?_
  rintro e w63 ⟨rfl, hxT62, hwT62⟩
  have HH64 : Hid (Holds w w63 [(w23.heap.size, [.slice a0m x0.parts.length c0m]), (w.heap.size, [.slice a0 x0.parts.length c0])] [([.slice aG R.length cG], [slD Lay.int R]), ([.slice a1m z1.length c1m], [slD Lay.int z1]), ([.slice a0m x0.parts.length c0m], Lay.gram.cells (mkGram (1) x0)), ([.slice aW R.length cW], [slD Lay.int R])]) := HTT62.out _ _ hxT62 hwT62
  clear HH61
  clear q0 q1 HTT62 hxT62 hwT62 hcT62
  have hkb0 : 1 + cntGram x0 ≤ 4000000 := by have := HW0.out; omega
  clear hcl0
  have HH65 : Hid (Holds w w63 [(w23.heap.size, [.slice a0m x0.parts.length c0m]), (w.heap.size, [.slice a0 x0.parts.length c0])] [([.slice aG R.length cG], [slD Lay.int R]), ([.slice a1m z1.length c1m], [slD Lay.int z1]), ([.slice aW R.length cW], [slD Lay.int R])]) := Holds.drop (P := [([.slice aG R.length cG], [slD Lay.int R]), ([.slice a1m z1.length c1m], [slD Lay.int z1])]) (x := ([.slice a0m x0.parts.length c0m], Lay.gram.cells (mkGram (1) x0))) (Q := [([.slice aW R.length cW], [slD Lay.int R])]) HH64.out
  clear HH64
  generalize 1 + cntGram x0 = k0 at *
  have hcl1 := cntIntS_le z1
  rw [Lay.wt_ints] at hcl1
  obtain ⟨T66, hcT66, htT66⟩ := Holds.turn (P := [([.slice aG R.length cG], [slD Lay.int R])]) (x := ([.slice a1m z1.length c1m], [slD Lay.int z1])) (Q := [([.slice aW R.length cW], [slD Lay.int R])]) HH65.out
  have q0 : w63.cell? ⟨w23.heap.size, 0, none⟩ = some (.slice a0m x0.parts.length c0m) := HH65.out.cell (w23.heap.size, [.slice a0m x0.parts.length c0m]) List.mem_cons_self 0 (by simp)
  have q1 : w63.cell? ⟨w.heap.size, 0, none⟩ = some (.slice a0 x0.parts.length c0) := HH65.out.cell (w.heap.size, [.slice a0 x0.parts.length c0]) (List.mem_cons_of_mem _ List.mem_cons_self) 0 (by simp)
  have HTT66 : Hid (∀ w' ds, Cells w' w.heap.size [.slice a1m z1.length c1m] ds T66 → Within w63 w' T66 → Holds w w' [(w23.heap.size, [.slice a0m x0.parts.length c0m]), (w.heap.size, [.slice a0 x0.parts.length c0])] ([([.slice aG R.length cG], [slD Lay.int R])] ++ ([.slice a1m z1.length c1m], ds) :: [([.slice aW R.length cW], [slD Lay.int R])])) := htT66
  clear htT66
  go_wp2_with fail
  refine (markIntS_c z1 _ _ _ k0 _ hcT66 (by rw [Lay.wt_ints]; omega)).mono ?_
  rintro e w67 ⟨rfl, hxT66, hwT66⟩
  have HH68 : Hid (Holds w w67 [(w23.heap.size, [.slice a0m x0.parts.length c0m]), (w.heap.size, [.slice a0 x0.parts.length c0])] [([.slice aG R.length cG], [slD Lay.int R]), ([.slice a1m z1.length c1m], [slD Lay.int (mkIntS (k0) z1)]), ([.slice aW R.length cW], [slD Lay.int R])]) := HTT66.out _ _ hxT66 hwT66
  clear HH65
  clear q0 q1 HTT66 hxT66 hwT66 hcT66
  have hkb1 : k0 + cntIntS z1 ≤ 6000000 := by omega
  clear hcl1
  have HH69 : Hid (Holds w w67 [(w23.heap.size, [.slice a0m x0.parts.length c0m]), (w.heap.size, [.slice a0 x0.parts.length c0])] [([.slice aG R.length cG], [slD Lay.int R]), ([.slice aW R.length cW], [slD Lay.int R])]) := Holds.drop (P := [([.slice aG R.length cG], [slD Lay.int R])]) (x := ([.slice a1m z1.length c1m], [slD Lay.int (mkIntS (k0) z1)])) (Q := [([.slice aW R.length cW], [slD Lay.int R])]) HH68.out
  clear HH68
  generalize k0 + cntIntS z1 = k1 at *
  have R70 : Hid (RD w67 (.slice aG R.length cG) (slD Lay.int R)) := HH69.out.rd ([.slice aG R.length cG], [slD Lay.int R]) List.mem_cons_self 0 (by simp) (by simp)
  have R71 : Hid (RD w67 (.slice aW R.length cW) (slD Lay.int R)) := HH69.out.rd ([.slice aW R.length cW], [slD Lay.int R]) (List.mem_cons_of_mem _ List.mem_cons_self) 0 (by simp) (by simp)
  have q0 : w67.cell? ⟨w23.heap.size, 0, none⟩ = some (.slice a0m x0.parts.length c0m) := HH69.out.cell (w23.heap.size, [.slice a0m x0.parts.length c0m]) List.mem_cons_self 0 (by simp)
  have q1 : w67.cell? ⟨w.heap.size, 0, none⟩ = some (.slice a0 x0.parts.length c0) := HH69.out.cell (w.heap.size, [.slice a0 x0.parts.length c0]) (List.mem_cons_of_mem _ List.mem_cons_self) 0 (by simp)
  go_wp2_with fail
  refine (eqIntS_l R aG aW cG cW _ R70.out R71.out (by have := HRw.out; omega)).mono ?_
  rintro e w73 ⟨rfl, B72⟩
  clear q0 q1
  clear R70 R71
  have HH74 : Hid (Holds w w73 [(w23.heap.size, [.slice a0m x0.parts.length c0m]), (w.heap.size, [.slice a0 x0.parts.length c0])] [([.slice aG R.length cG], [slD Lay.int R]), ([.slice aW R.length cW], [slD Lay.int R])]) := HH69.out.later B72
  clear HH69
  clear B72
  have hcR := cntIntS_le R
  have hcR2 : 1 + cntIntS R ≤ 4000000 := by have := HRw.out; omega
  obtain ⟨T75, hcT75, htT75⟩ := Holds.turn (P := []) (x := ([.slice aG R.length cG], [slD Lay.int R])) (Q := [([.slice aW R.length cW], [slD Lay.int R])]) HH74.out
  have q0 : w73.cell? ⟨w23.heap.size, 0, none⟩ = some (.slice a0m x0.parts.length c0m) := HH74.out.cell (w23.heap.size, [.slice a0m x0.parts.length c0m]) List.mem_cons_self 0 (by simp)
  have q1 : w73.cell? ⟨w.heap.size, 0, none⟩ = some (.slice a0 x0.parts.length c0) := HH74.out.cell (w.heap.size, [.slice a0 x0.parts.length c0]) (List.mem_cons_of_mem _ List.mem_cons_self) 0 (by simp)
  have HTT75 : Hid (∀ w' ds, Cells w' w.heap.size [.slice aG R.length cG] ds T75 → Within w73 w' T75 → Holds w w' [(w23.heap.size, [.slice a0m x0.parts.length c0m]), (w.heap.size, [.slice a0 x0.parts.length c0])] ([] ++ ([.slice aG R.length cG], ds) :: [([.slice aW R.length cW], [slD Lay.int R])])) := htT75
  clear htT75
  go_wp2_with fail
  refine (markIntS_c R _ _ _ 1 _ hcT75 (by have := HRw.out; omega)).mono ?_
  rintro e w76 ⟨rfl, hxT75, hwT75⟩
  have HH77 : Hid (Holds w w76 [(w23.heap.size, [.slice a0m x0.parts.length c0m]), (w.heap.size, [.slice a0 x0.parts.length c0])] [([.slice aG R.length cG], [slD Lay.int (mkIntS 1 R)]), ([.slice aW R.length cW], [slD Lay.int R])]) := HTT75.out _ _ hxT75 hwT75
  clear HH74
  clear q0 q1 HTT75 hxT75 hwT75 hcT75
  obtain ⟨m, Hm⟩ : ∃ m, Hid (1 + cntIntS R = m) := ⟨_, rfl⟩
  have hm : m ≤ 4000000 := by rw [← Hm.out]; exact hcR2
  rw [Hm.out]
  clear hcR hcR2
  have R78 : Hid (RD w76 (.slice aG R.length cG) (slD Lay.int (mkIntS 1 R))) := HH77.out.rd ([.slice aG R.length cG], [slD Lay.int (mkIntS 1 R)]) List.mem_cons_self 0 (by simp) (by simp)
  have XH : Hid (Calls Try.prog 17 #[.slice aG R.length cG, .int .i64 1] w76 fun e w' => e = .returned (.int .i64 (m : Int)) ∧ Below (w76).heap.size w76 w') := by have := heldIntS_l R aG R.length cG 1 w76 R78.out (by have := HRw.out; omega); rw [Hm.out] at this; exact this
  clear R78
  have q0 : w76.cell? ⟨w23.heap.size, 0, none⟩ = some (.slice a0m x0.parts.length c0m) := HH77.out.cell (w23.heap.size, [.slice a0m x0.parts.length c0m]) List.mem_cons_self 0 (by simp)
  have q1 : w76.cell? ⟨w.heap.size, 0, none⟩ = some (.slice a0 x0.parts.length c0) := HH77.out.cell (w.heap.size, [.slice a0 x0.parts.length c0]) (List.mem_cons_of_mem _ List.mem_cons_self) 0 (by simp)
  go_wp2_with fail
  refine (XH.out).mono ?_
  rintro e w80 ⟨rfl, B79⟩
  clear q0 q1
  clear XH
  have HH81 : Hid (Holds w w80 [(w23.heap.size, [.slice a0m x0.parts.length c0m]), (w.heap.size, [.slice a0 x0.parts.length c0])] [([.slice aG R.length cG], [slD Lay.int (mkIntS 1 R)]), ([.slice aW R.length cW], [slD Lay.int R])]) := HH77.out.later B79
  clear HH77
  clear B79
  have q0 : w80.cell? ⟨w23.heap.size, 0, none⟩ = some (.slice a0m x0.parts.length c0m) := HH81.out.cell (w23.heap.size, [.slice a0m x0.parts.length c0m]) List.mem_cons_self 0 (by simp)
  have q1 : w80.cell? ⟨w.heap.size, 0, none⟩ = some (.slice a0 x0.parts.length c0) := HH81.out.cell (w.heap.size, [.slice a0 x0.parts.length c0]) (List.mem_cons_of_mem _ List.mem_cons_self) 0 (by simp)
  go_wp2_with fail
  refine (toGram_l x0 a0 c0 _ (H0.out.later HH81.out.below) (by have := HW0.out; omega)).mono ?_
  rintro e w84 ⟨a0h, c0h, S0h, rfl, O83, B82⟩
  clear q0 q1
  have HH85 : Hid (Holds w w84 [(w23.heap.size, [.slice a0m x0.parts.length c0m]), (w.heap.size, [.slice a0 x0.parts.length c0])] [([.slice a0h x0.parts.length c0h], Lay.gram.cells x0), ([.slice aG R.length cG], [slD Lay.int (mkIntS 1 R)]), ([.slice aW R.length cW], [slD Lay.int R])]) := HH81.out.push B82 O83
  clear HH81
  clear B82 O83
  have q0 : w84.cell? ⟨w23.heap.size, 0, none⟩ = some (.slice a0m x0.parts.length c0m) := HH85.out.cell (w23.heap.size, [.slice a0m x0.parts.length c0m]) List.mem_cons_self 0 (by simp)
  have q1 : w84.cell? ⟨w.heap.size, 0, none⟩ = some (.slice a0 x0.parts.length c0) := HH85.out.cell (w.heap.size, [.slice a0 x0.parts.length c0]) (List.mem_cons_of_mem _ List.mem_cons_self) 0 (by simp)
  go_wp2_with fail
  refine (toIntS_l z1 a1 c1 _ (H1.out.later HH85.out.below) (by rw [Lay.wt_ints]; omega)).mono ?_
  rintro e w88 ⟨v1h, S1h, rfl, O87o, B86⟩
  clear q0 q1
  obtain ⟨a1h, c1h, rfl, _⟩ := OD.shapeL O87o
  have O87 := Cells.one O87o
  clear O87o
  have HH89 : Hid (Holds w w88 [(w23.heap.size, [.slice a0m x0.parts.length c0m]), (w.heap.size, [.slice a0 x0.parts.length c0])] [([.slice a1h z1.length c1h], [slD Lay.int z1]), ([.slice a0h x0.parts.length c0h], Lay.gram.cells x0), ([.slice aG R.length cG], [slD Lay.int (mkIntS 1 R)]), ([.slice aW R.length cW], [slD Lay.int R])]) := HH85.out.push B86 O87
  clear HH85
  clear B86 O87
  have R90 : Hid (RD w88 (.slice a0h x0.parts.length c0h) (slD (Lay.list (Lay.list Lay.int)) x0.parts)) := HH89.out.rd ([.slice a0h x0.parts.length c0h], Lay.gram.cells x0) (List.mem_cons_of_mem _ List.mem_cons_self) 0 (by simp) (by simp [Lay.gram])
  have R91 : Hid (RD w88 (.slice a1h z1.length c1h) (slD Lay.int z1)) := HH89.out.rd ([.slice a1h z1.length c1h], [slD Lay.int z1]) List.mem_cons_self 0 (by simp) (by simp)
  have q0 : w88.cell? ⟨w23.heap.size, 0, none⟩ = some (.slice a0m x0.parts.length c0m) := HH89.out.cell (w23.heap.size, [.slice a0m x0.parts.length c0m]) List.mem_cons_self 0 (by simp)
  have q1 : w88.cell? ⟨w.heap.size, 0, none⟩ = some (.slice a0 x0.parts.length c0) := HH89.out.cell (w.heap.size, [.slice a0 x0.parts.length c0]) (List.mem_cons_of_mem _ List.mem_cons_self) 0 (by simp)
  go_wp2_with fail
  refine (firstOf_any x0 a0h c0h z1 a1h c1h _ R90.out R91.out (by have := HW0.out; omega) HF0.out (by omega) HF1.out).mono ?_
  rintro e w94 ⟨vH, SH, rfl, O93o, B92⟩
  clear q0 q1
  rw [HRe.out] at O93o
  obtain ⟨aH, cH, rfl, _⟩ := OD.shapeL O93o
  have O93 := Cells.one O93o
  clear O93o
  have HH95 : Hid (Holds w w94 [(w23.heap.size, [.slice a0m x0.parts.length c0m]), (w.heap.size, [.slice a0 x0.parts.length c0])] [([.slice aH R.length cH], [slD Lay.int R]), ([.slice a1h z1.length c1h], [slD Lay.int z1]), ([.slice a0h x0.parts.length c0h], Lay.gram.cells x0), ([.slice aG R.length cG], [slD Lay.int (mkIntS 1 R)]), ([.slice aW R.length cW], [slD Lay.int R])]) := HH89.out.push B92 O93
  clear HH89
  clear B92 O93
  clear R90 R91
  have HH96 : Hid (Holds w w94 [(w23.heap.size, [.slice a0m x0.parts.length c0m]), (w.heap.size, [.slice a0 x0.parts.length c0])] [([.slice aH R.length cH], [slD Lay.int R]), ([.slice a1h z1.length c1h], [slD Lay.int z1]), ([.slice aG R.length cG], [slD Lay.int (mkIntS 1 R)]), ([.slice aW R.length cW], [slD Lay.int R])]) := Holds.drop (P := [([.slice aH R.length cH], [slD Lay.int R]), ([.slice a1h z1.length c1h], [slD Lay.int z1])]) (x := ([.slice a0h x0.parts.length c0h], Lay.gram.cells x0)) (Q := [([.slice aG R.length cG], [slD Lay.int (mkIntS 1 R)]), ([.slice aW R.length cW], [slD Lay.int R])]) HH95.out
  clear HH95
  have HH97 : Hid (Holds w w94 [(w23.heap.size, [.slice a0m x0.parts.length c0m]), (w.heap.size, [.slice a0 x0.parts.length c0])] [([.slice aH R.length cH], [slD Lay.int R]), ([.slice aG R.length cG], [slD Lay.int (mkIntS 1 R)]), ([.slice aW R.length cW], [slD Lay.int R])]) := Holds.drop (P := [([.slice aH R.length cH], [slD Lay.int R])]) (x := ([.slice a1h z1.length c1h], [slD Lay.int z1])) (Q := [([.slice aG R.length cG], [slD Lay.int (mkIntS 1 R)]), ([.slice aW R.length cW], [slD Lay.int R])]) HH96.out
  clear HH96
  have R98 : Hid (RD w94 (.slice aH R.length cH) (slD Lay.int R)) := HH97.out.rd ([.slice aH R.length cH], [slD Lay.int R]) List.mem_cons_self 0 (by simp) (by simp)
  have R99 : Hid (RD w94 (.slice aW R.length cW) (slD Lay.int R)) := HH97.out.rd ([.slice aW R.length cW], [slD Lay.int R]) (List.mem_cons_of_mem _ (List.mem_cons_of_mem _ List.mem_cons_self)) 0 (by simp) (by simp)
  have q0 : w94.cell? ⟨w23.heap.size, 0, none⟩ = some (.slice a0m x0.parts.length c0m) := HH97.out.cell (w23.heap.size, [.slice a0m x0.parts.length c0m]) List.mem_cons_self 0 (by simp)
  have q1 : w94.cell? ⟨w.heap.size, 0, none⟩ = some (.slice a0 x0.parts.length c0) := HH97.out.cell (w.heap.size, [.slice a0 x0.parts.length c0]) (List.mem_cons_of_mem _ List.mem_cons_self) 0 (by simp)
  go_wp2_with fail
  refine (eqIntS_l R aH aW cH cW _ R98.out R99.out (by have := HRw.out; omega)).mono ?_
  rintro e w101 ⟨rfl, B100⟩
  clear q0 q1
  clear R98 R99
  have HH102 : Hid (Holds w w101 [(w23.heap.size, [.slice a0m x0.parts.length c0m]), (w.heap.size, [.slice a0 x0.parts.length c0])] [([.slice aH R.length cH], [slD Lay.int R]), ([.slice aG R.length cG], [slD Lay.int (mkIntS 1 R)]), ([.slice aW R.length cW], [slD Lay.int R])]) := HH97.out.later B100
  clear HH97
  clear B100
  have R103 : Hid (RD w101 (.slice aG R.length cG) (slD Lay.int (mkIntS 1 R))) := HH102.out.rd ([.slice aG R.length cG], [slD Lay.int (mkIntS 1 R)]) (List.mem_cons_of_mem _ List.mem_cons_self) 0 (by simp) (by simp)
  have XH : Hid (Calls Try.prog 17 #[.slice aG R.length cG, .int .i64 1] w101 fun e w' => e = .returned (.int .i64 (m : Int)) ∧ Below (w101).heap.size w101 w') := by have := heldIntS_l R aG R.length cG 1 w101 R103.out (by have := HRw.out; omega); rw [Hm.out] at this; exact this
  clear R103
  have q0 : w101.cell? ⟨w23.heap.size, 0, none⟩ = some (.slice a0m x0.parts.length c0m) := HH102.out.cell (w23.heap.size, [.slice a0m x0.parts.length c0m]) List.mem_cons_self 0 (by simp)
  have q1 : w101.cell? ⟨w.heap.size, 0, none⟩ = some (.slice a0 x0.parts.length c0) := HH102.out.cell (w.heap.size, [.slice a0 x0.parts.length c0]) (List.mem_cons_of_mem _ List.mem_cons_self) 0 (by simp)
  go_wp2_with fail
  refine (XH.out).mono ?_
  rintro e w105 ⟨rfl, B104⟩
  clear q0 q1
  clear XH
  have HH106 : Hid (Holds w w105 [(w23.heap.size, [.slice a0m x0.parts.length c0m]), (w.heap.size, [.slice a0 x0.parts.length c0])] [([.slice aH R.length cH], [slD Lay.int R]), ([.slice aG R.length cG], [slD Lay.int (mkIntS 1 R)]), ([.slice aW R.length cW], [slD Lay.int R])]) := HH102.out.later B104
  clear HH102
  clear B104
  go_wp2
  go_ret
  exact ⟨rfl, HH106.out.below⟩
end Go.Proofs.Ytdniejpblhbjkab
