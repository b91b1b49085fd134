/-
  Contracts and plain mathematics, joined: FlagT, LeastMath, EmBase, LPartsP, LPartsE, EmptiesOf, EmptiesMath, ProductiveOf, ReachMath, ReachUp, JoinB, ReachOf. No statement is proved here.
-/
import Derived.Test.YthnppodnjokaoaaDoorG8
import Derived.Test.YthnppodnjokaoaaDoorG3
import Derived.Test.YthnppodnjokaoaaDoorG1
import Derived.Test.YthnppodnjokaoaaDoorG5
import Derived.Deep.LoopGhost
import Derived.Test.YthnppodnjokaoaaDoorG6
namespace Go.Proofs.YthnppodnjokaoaaDoor
open Go.RowKit

section
variable {P : Program}
theorem wpList_boxB {ops : Array Oper} {rest : List Oper} {o : Oper} {a : Act} {w : World} {Q : Exit → Act → World → Prop} (hgd : Region.wanted o (yielded ops a.tmps) = true) (ty : TypeId) (x : Operand) (ho : o.op = .box ty x) (bs : List Bool) (hx : a.eval x = aggB bs)
    (h : ∀ w', Bits w' w.heap.size ty bs → Below w.heap.size w w' → w'.heap.size = w.heap.size + 1 → wpList P ops Q rest (a.put o.dst (.pointer (some ⟨w.heap.size, 0, none⟩))) w') : wpList P ops Q (o :: rest) a w := by
  obtain ⟨w', h1, h2, h3, h4⟩ := exec_boxB (P := P) (w := w) ho hx
  exact wpList_val hgd h1 (h w' h2 h3 h4)
theorem wpList_allocB {ops : Array Oper} {rest : List Oper} {o : Oper} {a : Act} {w : World} {Q : Exit → Act → World → Prop} (hgd : Region.wanted o (yielded ops a.tmps) = true) (ty : TypeId) (ho : o.op = .alloc ty) (n : Nat) (hT : BitT P ty n)
    (h : ∀ w', Bits w' w.heap.size ty (List.replicate n false) → Below w.heap.size w w' → w'.heap.size = w.heap.size + 1 → wpList P ops Q rest (a.put o.dst (.pointer (some ⟨w.heap.size, 0, none⟩))) w') : wpList P ops Q (o :: rest) a w := by
  obtain ⟨w', h1, h2, h3, h4⟩ := exec_allocB (P := P) (w := w) (ρ := a.eval) ho hT
  exact wpList_val hgd h1 (h w' h2 h3 h4)
theorem wpList_loadB {ops : Array Oper} {rest : List Oper} {o : Oper} {a : Act} {w : World} {Q : Exit → Act → World → Prop} (hgd : Region.wanted o (yielded ops a.tmps) = true) (ty : TypeId) (x : Operand) (ho : o.op = .load ty x) (b off n : Nat) (t : TypeId) (bs : List Bool) (hx : a.eval x = .pointer (some ⟨b, off, none⟩)) (hT : BitT P ty n) (hB : Bits w b t bs) (hn : off + n ≤ bs.length)
    (h : wpList P ops Q rest (a.put o.dst (aggB ((bs.drop off).take n))) w) : wpList P ops Q (o :: rest) a w :=
  wpList_val hgd (exec_loadB ho hx hT hB hn) h
theorem wpList_loadW {ops : Array Oper} {rest : List Oper} {o : Oper} {a : Act} {w : World} {Q : Exit → Act → World → Prop} (hgd : Region.wanted o (yielded ops a.tmps) = true) (ty : TypeId) (x : Operand) (ho : o.op = .load ty x) (b : Nat) (t : TypeId) (bs : List Bool) (hx : a.eval x = .pointer (some ⟨b, 0, none⟩)) (hT : BitT P ty bs.length) (hB : Bits w b t bs)
    (h : wpList P ops Q rest (a.put o.dst (aggB bs)) w) : wpList P ops Q (o :: rest) a w :=
  wpList_val hgd (exec_loadW ho hx hT hB) h
theorem wpList_storeB {ops : Array Oper} {rest : List Oper} {o : Oper} {a : Act} {w : World} {Q : Exit → Act → World → Prop} (hgd : Region.wanted o (yielded ops a.tmps) = true) (ty : TypeId) (x y : Operand) (ho : o.op = .store ty x y) (b off : Nat) (t : TypeId) (bs cs : List Bool) (hx : a.eval x = .pointer (some ⟨b, off, none⟩)) (hy : a.eval y = aggB cs) (hT : BitT P ty cs.length) (hB : Bits w b t bs) (hn : off + cs.length ≤ bs.length)
    (h : ∀ w', Bits w' b t (putB bs off cs) → w.grownBy w' (some b) → wpList P ops Q rest (a.put o.dst undef) w') : wpList P ops Q (o :: rest) a w := by
  obtain ⟨w', h1, h2, h3⟩ := exec_storeB (P := P) ho hx hy hT hB hn
  exact wpList_unit hgd h1 (h w' h2 h3)
theorem wpList_eqlB {ops : Array Oper} {rest : List Oper} {o : Oper} {a : Act} {w : World} {Q : Exit → Act → World → Prop} (hgd : Region.wanted o (yielded ops a.tmps) = true) (ty rt : TypeId) (x y : Operand) (ho : o.op = .binOp .eql ty x y rt) (cs bs : List Bool) (hx : a.eval x = aggB cs) (hy : a.eval y = aggB bs) (hg : P.eqGuardType P.depth ty = false) (he : (Op.equalIn 10000 ty (aggB cs) (aggB bs)).run P w = .ok (decide (cs = bs)) w)
    (h : wpList P ops Q rest (a.put o.dst (.bool (decide (cs = bs)))) w) : wpList P ops Q (o :: rest) a w :=
  wpList_val hgd (exec_eqlB ho hx hy hg he) h
theorem wpList_indexB {ops : Array Oper} {rest : List Oper} {o : Oper} {a : Act} {w : World} {Q : Exit → Act → World → Prop} (hgd : Region.wanted o (yielded ops a.tmps) = true) (ty e : TypeId) (x y : Operand) (ho : o.op = .index ty x y) (bs : List Bool) (i : Nat) (hx : a.eval x = aggB bs) (hy : a.eval y = .int .i64 i) (hu : P.underlying ty = some (.array bs.length e)) (he : P.underlying e = some .bool) (hz : (P.info? e).map (·.size) = some 1) (hi : i < bs.length)
    (h : wpList P ops Q rest (a.put o.dst (.bool (bs.getD i false))) w) : wpList P ops Q (o :: rest) a w :=
  wpList_val hgd (exec_indexB ho hx hy hu he hz hi) h
end

theorem row_of {P : Program} {ty : TypeId} (h : (P.underlying ty).map TypeDesc.isRow = some true) : ∃ d, P.underlying ty = some d ∧ d.isRow = true := by
  cases hq : P.underlying ty with
  | none => simp [hq] at h
  | some d => exact ⟨d, rfl, by simpa [hq] using h⟩
set_option maxRecDepth 100000 in
theorem bt_flags : BitT Tryd.prog 134 27 := ⟨by kernel_rfl, row_of (by kernel_rfl)⟩
set_option maxRecDepth 100000 in
theorem bt_table : BitT Tryd.prog 148 540 := ⟨by kernel_rfl, row_of (by kernel_rfl)⟩
theorem bool_size : (Tryd.prog.info? 4).map (·.size) = some 1 := by kernel_rfl
theorem u_flags : Tryd.prog.underlying 134 = some (.array 27 4) := by kernel_rfl
theorem u_bool : Tryd.prog.underlying 4 = some .bool := by kernel_rfl

/-- The numbers below k whose flag is up. -/
def numsB (f : Nat → Bool) : Nat → List Int
  | 0 => []
  | k + 1 => if f k then numsB f k ++ [(k : Int)] else numsB f k
theorem numsB_len (f : Nat → Bool) (k : Nat) : (numsB f k).length ≤ k := by
  induction k with
  | zero => simp [numsB]
  | succ k ih =>
    rw [numsB]
    split
    · rw [List.length_append, List.length_singleton]; omega
    · omega
theorem mem_numsB {f : Nat → Bool} {k : Nat} {x : Int} : x ∈ numsB f k ↔ ∃ n : Nat, n < k ∧ x = n ∧ f n = true := by
  induction k with
  | zero => simp [numsB]
  | succ k ih =>
    rw [numsB]
    split
    · rename_i h
      rw [List.mem_append, ih, List.mem_singleton]
      constructor
      · rintro (⟨n, h1, h2, h3⟩ | rfl)
        · exact ⟨n, by omega, h2, h3⟩
        · exact ⟨k, by omega, rfl, h⟩
      · rintro ⟨n, h1, h2, h3⟩
        by_cases e : n = k
        · subst e; exact .inr h2
        · exact .inl ⟨n, by omega, h2, h3⟩
    · rename_i h
      rw [ih]
      constructor
      · rintro ⟨n, h1, h2, h3⟩; exact ⟨n, by omega, h2, h3⟩
      · rintro ⟨n, h1, h2, h3⟩
        refine ⟨n, ?_, h2, h3⟩
        by_cases e : n = k
        · subst e; exact absurd h3 h
        · omega
theorem numsB_sorted (f : Nat → Bool) (k : Nat) : (numsB f k).Pairwise (· < ·) := by
  induction k with
  | zero => exact List.Pairwise.nil
  | succ k ih =>
    rw [numsB]
    split
    · rw [List.pairwise_append]
      refine ⟨ih, List.pairwise_singleton _ _, fun x hx y hy => ?_⟩
      obtain ⟨n, h1, rfl, _⟩ := mem_numsB.1 hx
      rw [List.mem_singleton] at hy
      omega
    · exact ih

/-- All symbols of the row are of parts whose flag is up. -/
def allB (bs : List Bool) (row : List Int) : Bool := row.all fun x => decide (100 ≤ x ∧ x - 100 < 20) && bs.getD (x - 100).toNat false
theorem allB_step {p : Int → Bool} {xs : List Int} {k : Nat} (h : (xs.take k).all p = true) (hk : k < xs.length) (g : p xs[k] = true) : (xs.take (k + 1)).all p = true := by
  rw [List.take_succ_eq_append_getElem hk, List.all_append, h]; simp [g]
theorem allB_no {p : Int → Bool} {xs : List Int} {k : Nat} (hk : k < xs.length) (g : p xs[k] = false) : xs.all p = false := by
  rw [Bool.eq_false_iff]; intro h
  rw [List.all_eq_true] at h
  have := h _ (List.getElem_mem hk)
  rw [g] at this; cases this
theorem allB_end {p : Int → Bool} {xs : List Int} {k : Nat} (h : (xs.take k).all p = true) (hk : ¬ k < xs.length) : xs.all p = true := by
  rwa [List.take_of_length_le (by omega)] at h

set_option maxRecDepth 100000 in
theorem allOf_any (zs : List Int) (a : Option Addr) (c : Nat) (bs : List Bool) (w : World) (h : Reads w a zs) (hl : zs.length ≤ 1048576) (hz : ∀ z ∈ zs, -9223372036854775808 ≤ z ∧ z ≤ 9223372036854775807) (hb : bs.length = 27) :
    Calls Tryd.prog 122 #[.slice a zs.length c, aggB bs] w fun e w' => e = .returned (.bool (allB bs zs)) ∧ Below w.heap.size w w' := by
  have HZ : Hid (∀ z ∈ zs, -9223372036854775808 ≤ z ∧ z ≤ 9223372036854775807) := hz
  clear hz
  go_enter Tryd.func122, Tryd.ntmps122
  go_wp2_with (refine wpList_boxB rfl 134 _ rfl bs rfl ?_; intro w1 hB1 hb1 hs1)
  go_loop [9] (fun s => ∃ k : Nat, k ≤ zs.length ∧ s = .int .i64 k ∧ Hid ((zs.take k).all (fun x => decide (100 ≤ x ∧ x - 100 < 20) && bs.getD (x - 100).toNat false) = true)) (fun s => zs.length - (intOf s).toNat)
  case atStart => exact ⟨0, Nat.zero_le _, rfl, by show _ = _; simp⟩
  case round =>
    obtain ⟨k, hk, rfl, HK⟩ := hrel
    have h1 := h.below hb1
    by_cases hlt : k < zs.length
    · obtain ⟨b, off, rfl, hbb, hc⟩ := h1.at hlt
      have q1 := hc k hlt
      rw [List.getD_eq_getElem?_getD, List.getElem?_eq_getElem hlt, Option.getD_some] at q1
      have hr := HZ.out zs[k] (List.getElem_mem hlt)
      have HS : Hid (100 ≤ zs[k] ∧ zs[k] - 100 < 20 → bs.getD (zs[k] - 100).toNat false = true → (zs.take (k + 1)).all (fun x => decide (100 ≤ x ∧ x - 100 < 20) && bs.getD (x - 100).toNat false) = true) := fun g1 g2 => allB_step HK.out hlt (by simp only [decide_eq_true g1, Bool.true_and]; exact g2)
      have HN : Hid ((100 ≤ zs[k] ∧ zs[k] - 100 < 20 → bs.getD (zs[k] - 100).toNat false = false) → allB bs zs = false) := fun g1 => by
        refine allB_no hlt ?_
        by_cases g2 : 100 ≤ zs[k] ∧ zs[k] - 100 < 20
        · simp only [g1 g2, Bool.and_false]
        · simp only [decide_eq_false g2, Bool.false_and]
      clear hc h h1 HK
      generalize zs[k] = z at *
      by_cases z1 : 100 ≤ z
      · by_cases z2 : z - 100 < 20
        · obtain ⟨n, hn⟩ : ∃ n : Nat, z = 100 + (n : Int) := ⟨(z - 100).toNat, by omega⟩
          subst hn
          have hn2 : n < 27 := by omega
          have q2 := hB1.cell (n := n) (by omega)
          have e1 : (100 + (n : Int) - 100).toNat = n := by omega
          have e2 : (100 + (n : Int) - 100) = n := by omega
          rw [e1] at HS HN
          by_cases z3 : bs.getD n false = true
          · rw [z3] at q2
            have HSS : Hid _ := HS.out ⟨z1, z2⟩ z3
            clear HS HN z3
            go_wp2
            go_round
            case rel => exact ⟨k + 1, by omega, by go_num, HSS.out⟩
            case measure => simp [intOf]; omega
          · have z4 : bs.getD n false = false := by simpa using z3
            rw [z4] at q2
            have HNN : Hid (allB bs zs = false) := HN.out (fun _ => z4)
            clear HS HN z3 z4
            go_wp2
            go_ret
            exact ⟨ret_bool (by rw [HNN.out]), hb1⟩
        · have HNN : Hid (allB bs zs = false) := HN.out (fun g => absurd g.2 z2)
          clear HS HN
          go_wp2
          go_ret
          exact ⟨ret_bool (by rw [HNN.out]), hb1⟩
      · have HNN : Hid (allB bs zs = false) := HN.out (fun g => absurd g.1 z1)
        clear HS HN
        go_wp2
        go_ret
        exact ⟨ret_bool (by rw [HNN.out]), hb1⟩
    · have HE : Hid (allB bs zs = true) := allB_end HK.out hlt
      clear h h1 HK
      go_wp2
      go_ret
      exact ⟨ret_bool (by rw [HE.out]), hb1⟩
end Go.Proofs.YthnppodnjokaoaaDoor
namespace Go.Proofs.YthnppodnjokaoaaDoor
open Go.RowKit

section
variable (st : Nat → List Int → List Bool → List Bool)
def leI (k : Nat) (Q : List (List Int)) (T : List Bool) : Nat → List Bool
  | 0 => T
  | i + 1 => st k (Q.getD i []) (leI k Q T i)
def leK (P : List (List (List Int))) (T : List Bool) : Nat → List Bool
  | 0 => T
  | k + 1 => leI st k (P.getD k []) (leK P T k) (P.getD k []).length
/-- What holds at the start and is kept by each row's step holds of T. -/
def Grows (P : List (List (List Int))) (T0 T : List Bool) : Prop := ∀ I : List Bool → Prop, I T0 → (∀ k (hk : k < P.length) i (hi : i < P[k].length) T, I T → I (st k P[k][i] T)) → I T
end
variable {st : Nat → List Int → List Bool → List Bool}
theorem leI_next {k i : Nat} {Q : List (List Int)} {T : List Bool} (h : i < Q.length) : leI st k Q T (i + 1) = st k Q[i] (leI st k Q T i) := by
  have e : Q.getD i [] = Q[i] := by simp [List.getD, h]
  rw [leI, e]
theorem leK_next {P : List (List (List Int))} {T : List Bool} {k : Nat} (h : k < P.length) : leK st P T (k + 1) = leI st k P[k] (leK st P T k) P[k].length := by
  have e : P.getD k [] = P[k] := by simp [List.getD, h]
  rw [leK, e]
theorem Grows.refl (P : List (List (List Int))) (T : List Bool) : Grows st P T T := fun _ h _ => h
theorem Grows.leI {P : List (List (List Int))} {T0 T : List Bool} (h : Grows st P T0 T) {k : Nat} (hk : k < P.length) (i : Nat) (hi : i ≤ P[k].length) : Grows st P T0 (leI st k P[k] T i) := by
  intro I h0 hS
  induction i with
  | zero => exact h I h0 hS
  | succ i ih => rw [leI_next (by omega)]; exact hS k hk i (by omega) _ (ih (by omega))
theorem Grows.leK {P : List (List (List Int))} {T0 T : List Bool} (h : Grows st P T0 T) (k : Nat) (hk : k ≤ P.length) : Grows st P T0 (leK st P T k) := by
  induction k with
  | zero => exact h
  | succ k ih => rw [leK_next (by omega)]; exact (ih (by omega)).leI (by omega) _ (Nat.le_refl _)
/-- Steps that leave as it was or raise a flag. -/
def Raises (st : Nat → List Int → List Bool → List Bool) (P : List (List (List Int))) (n : Nat) : Prop := ∀ k (hk : k < P.length) i (hi : i < P[k].length) (T : List Bool), T.length = n → (st k P[k][i] T).length = n ∧ (st k P[k][i] T = T ∨ cntB T < cntB (st k P[k][i] T))
theorem Raises.leI {P : List (List (List Int))} {n : Nat} (h : Raises st P n) {k : Nat} (hk : k < P.length) {T : List Bool} (hT : T.length = n) (i : Nat) (hi : i ≤ P[k].length) : (leI st k P[k] T i).length = n ∧ (leI st k P[k] T i = T ∨ cntB T < cntB (leI st k P[k] T i)) := by
  induction i with
  | zero => exact ⟨hT, .inl rfl⟩
  | succ i ih =>
    have h1 := ih (by omega)
    have h2 := h k hk i (by omega) _ h1.1
    rw [leI_next (by omega)]
    refine ⟨h2.1, ?_⟩
    rcases h1.2 with e1 | e1
    · rcases h2.2 with e2 | e2
      · left; rw [e2]; exact e1
      · right; rw [e1] at e2 ⊢; exact e2
    · rcases h2.2 with e2 | e2
      · right; rw [e2]; exact e1
      · right; omega
theorem Raises.leK {P : List (List (List Int))} {n : Nat} (h : Raises st P n) {T : List Bool} (hT : T.length = n) (k : Nat) (hk : k ≤ P.length) : (leK st P T k).length = n ∧ (leK st P T k = T ∨ cntB T < cntB (leK st P T k)) := by
  induction k with
  | zero => exact ⟨hT, .inl rfl⟩
  | succ k ih =>
    have h1 := ih (by omega)
    have h2 := h.leI (k := k) (by omega) h1.1 _ (Nat.le_refl _)
    rw [leK_next (by omega)]
    refine ⟨h2.1, ?_⟩
    rcases h1.2 with e1 | e1
    · rcases h2.2 with e2 | e2
      · left; rw [e2]; exact e1
      · right; rw [e1] at e2 ⊢; exact e2
    · rcases h2.2 with e2 | e2
      · right; rw [e2]; exact e1
      · right; omega
/-- Where a round brings nothing new, no row's step does. -/
theorem Raises.fix {P : List (List (List Int))} {n : Nat} (h : Raises st P n) {T : List Bool} (hT : T.length = n) (e : Go.Proofs.YthnppodnjokaoaaDoor.leK st P T P.length = T) {k : Nat} (hk : k < P.length) {i : Nat} (hi : i < P[k].length) : st k P[k][i] T = T := by
  have stepK : ∀ j, j < P.length → Go.Proofs.YthnppodnjokaoaaDoor.leK st P T (j + 1) = Go.Proofs.YthnppodnjokaoaaDoor.leK st P T j ∨ cntB (Go.Proofs.YthnppodnjokaoaaDoor.leK st P T j) < cntB (Go.Proofs.YthnppodnjokaoaaDoor.leK st P T (j + 1)) := by
    intro j hj
    rw [leK_next hj]
    exact (h.leI hj (h.leK hT j (by omega)).1 _ (Nat.le_refl _)).2
  have hK := steps_fix (m := cntB) (f := fun j => Go.Proofs.YthnppodnjokaoaaDoor.leK st P T (min j P.length)) (fun j => by
    by_cases hj : j < P.length
    · have e1 : min (j + 1) P.length = j + 1 := by omega
      have e2 : min j P.length = j := by omega
      show Go.Proofs.YthnppodnjokaoaaDoor.leK st P T (min (j + 1) P.length) = _ ∨ _
      rw [e1, e2]; exact stepK j hj
    · left
      have e1 : min (j + 1) P.length = P.length := by omega
      have e2 : min j P.length = P.length := by omega
      show Go.Proofs.YthnppodnjokaoaaDoor.leK st P T (min (j + 1) P.length) = _
      rw [e1, e2]) (n := P.length) (by
      show Go.Proofs.YthnppodnjokaoaaDoor.leK st P T (min P.length P.length) = Go.Proofs.YthnppodnjokaoaaDoor.leK st P T (min 0 P.length)
      rw [Nat.min_self, Nat.zero_min]; exact e)
  have kk : ∀ j, j ≤ P.length → Go.Proofs.YthnppodnjokaoaaDoor.leK st P T j = T := by
    intro j hj
    have := hK j hj
    have e1 : min j P.length = j := by omega
    have e2 : min 0 P.length = 0 := by omega
    simp only [e1, e2] at this
    exact this
  have e1 : Go.Proofs.YthnppodnjokaoaaDoor.leI st k P[k] T P[k].length = T := by
    have := leK_next (st := st) (T := T) hk
    rw [kk (k + 1) (by omega), kk k (by omega)] at this
    exact this.symm
  have hI := steps_fix (m := cntB) (f := fun j => Go.Proofs.YthnppodnjokaoaaDoor.leI st k P[k] T (min j P[k].length)) (fun j => by
    by_cases hj : j < P[k].length
    · have e1 : min (j + 1) P[k].length = j + 1 := by omega
      have e2 : min j P[k].length = j := by omega
      show Go.Proofs.YthnppodnjokaoaaDoor.leI st k P[k] T (min (j + 1) P[k].length) = _ ∨ _
      rw [e1, e2, leI_next hj]; exact (h k hk j hj _ (h.leI hk hT j (by omega)).1).2
    · left
      have e1 : min (j + 1) P[k].length = P[k].length := by omega
      have e2 : min j P[k].length = P[k].length := by omega
      show Go.Proofs.YthnppodnjokaoaaDoor.leI st k P[k] T (min (j + 1) P[k].length) = _
      rw [e1, e2]) (n := P[k].length) (by
      show Go.Proofs.YthnppodnjokaoaaDoor.leI st k P[k] T (min P[k].length P[k].length) = Go.Proofs.YthnppodnjokaoaaDoor.leI st k P[k] T (min 0 P[k].length)
      rw [Nat.min_self, Nat.zero_min]; exact e1)
  have ii : ∀ j, j ≤ P[k].length → Go.Proofs.YthnppodnjokaoaaDoor.leI st k P[k] T j = T := by
    intro j hj
    have := hI j hj
    have e1 : min j P[k].length = j := by omega
    have e2 : min 0 P[k].length = 0 := by omega
    simp only [e1, e2] at this
    exact this
  have := ii (i + 1) (by omega)
  rw [leI_next hi, ii i (by omega)] at this
  exact this
/-- The flags of a set of numbers; of sets of such. -/
def flagsOf (E : List Int) : List Bool := (List.range 27).map fun (n : Nat) => hasL E (n : Int)
theorem flagsOf_length (E : List Int) : (flagsOf E).length = 27 := by simp [flagsOf]
theorem flagsOf_get (E : List Int) {n : Nat} (h : n < 27) : (flagsOf E).getD n false = hasL E (n : Int) := by simp [flagsOf, List.getD, h]
/-- One row's step of emptiesOf. -/
def emS (allB : List Bool → List Int → Bool) (k : Nat) (row : List Int) (T : List Bool) : List Bool := bstep T (k, fun b => allB b row)
end Go.Proofs.YthnppodnjokaoaaDoor
namespace Go.Proofs.YthnppodnjokaoaaDoor
open Go.RowKit

theorem eq_flags27 {w : World} {cs bs : List Bool} (h1 : cs.length = 27) (h2 : bs.length = 27) : (Op.equalIn 10000 134 (aggB cs) (aggB bs)).run Tryd.prog w = .ok (decide (cs = bs)) w := run_eq_flags 9998 u_flags u_bool bool_size h1 h2
theorem guard_flags : Tryd.prog.eqGuardType Tryd.prog.depth 134 = false := by kernel_rfl

/-- One row's step. -/
theorem emS_raises (p : List Bool → List Int → Bool) (P : List (List (List Int))) : Raises (emS p) P 27 := fun k _ i _ T hT => ⟨by rw [emS, bstep_length]; exact hT, bstep_or _ _⟩
theorem emS_yes {p : List Bool → List Int → Bool} {k : Nat} {row : List Int} {T : List Bool} (h : T.getD k false = true) : emS p k row T = T.set k true := by simp only [emS, bstep, h, Bool.true_or]
theorem emS_no {p : List Bool → List Int → Bool} {k : Nat} {row : List Int} {T : List Bool} (h : T.getD k false = false) : emS p k row T = T.set k (p T row) := by simp only [emS, bstep, h, Bool.false_or]

theorem at27 {T : List Bool} (hl : T.length = 27) : BitT Tryd.prog 134 T.length := by rw [hl]; exact bt_flags
theorem ahead_facts {n1 : Nat} {w2 wr w3 w4 : World} {t : TypeId} {T : List Bool} (hbel : Below n1 w2 wr) (hn : n1 < wr.heap.size) (hBT : Bits wr n1 t T) (hb3 : Below wr.heap.size wr w3) (hs3 : w3.heap.size = wr.heap.size + 1) (hTl : T.length = 27) (hB4 : Bits w4 wr.heap.size 134 (putB (List.replicate 27 false) 0 T)) (hg4 : w3.grownBy w4 (some wr.heap.size)) :
    Below n1 w2 w4 ∧ Bits w4 n1 t T ∧ Bits w4 wr.heap.size 134 T := by
  have e : putB (List.replicate 27 false) 0 T = T := putB_whole (by simp [hTl])
  rw [e] at hB4
  refine ⟨?_, ?_, hB4⟩
  · exact (hbel.trans (hb3.mono (by omega))).grown hg4 (by omega) (fun k hk => by cases hk; omega)
  · exact (hBT.later hb3).grown hg4 (by intro h; cases h; omega)
theorem ret_cell {fn : Func} {p : Tmp} {tmps : Array Value} {w : World} {g : Nat} {t : TypeId} {bs : List Bool} (ty : TypeId) (h : fn.results = #[.cell p ty]) (hp : tmps.getD p undef = .pointer (some ⟨g, 0, none⟩)) (hB : Bits w g t bs) (hT : BitT Tryd.prog ty bs.length) : (results fn tmps).run Tryd.prog w = .ok (aggB bs) w := by
  obtain ⟨d, hu, hd⟩ := hT.desc
  exact results_cell_row h tmps w g t (cellsB bs) (0, 0) d hp hB hu (by cases d <;> first | rfl | cases hd) (by rw [cellsB_size]; exact hT.size)

end Go.Proofs.YthnppodnjokaoaaDoor
namespace Go.Proofs.YthnppodnjokaoaaDoor
open Go.RowKit

set_option maxHeartbeats 4000000 in
set_option maxRecDepth 100000 in
theorem leastParts_P (p : List Bool → List Int → Bool) (P : List (List (List Int))) (a0 : Option Addr) (c0 : Nat) (w : World) (h0 : RD w (.slice a0 P.length c0) (slD (Lay.list (Lay.list Lay.int)) P)) (hok : gramOkB P = true)
    (hcl : ∀ (W : World) (T : List Bool) (k : Nat) (hk : k < P.length) (i : Nat) (hi : i < P[k].length) (a : Option Addr) (c : Nat), Below w.heap.size w W → T.length = 27 → RD w (.slice a P[k][i].length c) (slD Lay.int P[k][i]) →
      Calls Tryd.prog 113 #[.slice a P[k][i].length c, aggB T] W fun e w' => e = .returned (.bool (p T P[k][i])) ∧ Below W.heap.size W w') :
    Calls Tryd.prog 112 #[.agg #[.slice a0 P.length c0], .func (.func 113) #[] #[]] w fun e w' => ∃ T, e = .returned (aggB T) ∧ T.length = 27 ∧ Grows (emS p) P (List.replicate 27 false) T ∧ leK (emS p) P T P.length = T ∧ Below w.heap.size w w' := by
  have F := Fits.of hok
  have HF : Hid (Fits P) := F
  have hp := F.parts
  have HRz : Hid (Raises (emS p) P 27) := emS_raises p P
  have HCL : Hid (∀ (W : World) (T : List Bool) (k : Nat) (hk : k < P.length) (i : Nat) (hi : i < P[k].length) (a : Option Addr) (c : Nat), Below w.heap.size w W → T.length = 27 → RD w (.slice a P[k][i].length c) (slD Lay.int P[k][i]) →
      Calls Tryd.prog 113 #[.slice a P[k][i].length c, aggB T] W fun e w' => e = .returned (.bool (p T P[k][i])) ∧ Below W.heap.size W w') := hcl
  clear F hok hcl
  have B0 := (Below.refl w.heap.size w).alloc (Nat.le_refl _) (.cells #[.slice a0 P.length c0] 28)
  have HQ0 : Hid ((w.alloc (.cells #[.slice a0 P.length c0] 28)).cell? ⟨w.heap.size, 0, none⟩ = some (.slice a0 P.length c0)) := by show _ = _; simp
  have HR0 : Hid (RD w (.slice a0 P.length c0) (slD (Lay.list (Lay.list Lay.int)) P)) := h0
  have hsb : (w.alloc (.cells #[.slice a0 P.length c0] 28)).heap.size = w.heap.size + 1 := by simp
  clear h0
  go_enter Tryd.func112, Tryd.ntmps112
  go_wp2_with (first | (refine wpList_allocB (w := w.alloc _) rfl 134 rfl 27 bt_flags ?_; rw [hsb]; intro w1 hB1 hb1 hs1) | (refine wpList_allocB (w := w1) rfl 134 rfl 27 bt_flags ?_; intro w2 hB2 hb2 hs2))
  generalize w.alloc (.cells #[.slice a0 P.length c0] 28) = wb at *
  simp only [Act.put, List.setIfInBounds_toArray, List.set_cons_zero, List.set_cons_succ]
  -- what is known below the flags
  have hs1' : w1.heap.size = w.heap.size + 2 := by omega
  have HQ : Hid (∀ W, Below w1.heap.size w2 W → W.cell? ⟨w.heap.size, 0, none⟩ = some (.slice a0 P.length c0) ∧ Below w.heap.size w W ∧ Bits W (w.heap.size + 1) 134 (List.replicate 27 false)) := by
    intro W hW
    have b1 : Below (w.heap.size + 1) wb W := hb1.trans ((hb2.mono (by omega)).trans (hW.mono (by omega)))
    refine ⟨(b1.cell (p := ⟨w.heap.size, 0, none⟩) (by simp)).trans HQ0.out, B0.trans (b1.mono (by omega)), ?_⟩
    exact (hB1.below hb2 (by omega)).below hW (by omega)
  clear HQ0 B0 hB1 hb1 hs1
  clear hb2 hs2
  generalize w1.heap.size = n1 at *
  have hn1w : w.heap.size + 1 < n1 := by omega
  clear hs1' hsb
  go_loopg [] 27 (fun g wr => ∃ T : List Bool, Aside (T.length = 27 ∧ cntB T + g = 27 ∧ Grows (emS p) P (List.replicate 27 false) T ∧ Bits wr n1 134 T ∧ Below n1 w2 wr))
  case atStart => exact ⟨List.replicate 27 false, by simp, by decide, Grows.refl _ _, hB2, Below.refl _ _⟩
  case round =>
    obtain ⟨T, A⟩ := hrel
    have hTl := A.out.1
    have HTg : Hid (cntB T + gk = 27) := A.out.2.1
    have HTG : Hid (Grows (emS p) P (List.replicate 27 false) T) := A.out.2.2.1
    have hBT := A.out.2.2.2.1
    have hbel := A.out.2.2.2.2
    clear A hB2
    have hnr := hBT.lt
    go_wp2_with (first | (refine wpList_loadW rfl 134 _ rfl n1 134 T rfl (at27 hTl) hBT ?_) | (refine wpList_allocB rfl 134 rfl 27 bt_flags ?_; intro w3 hB3 hb3 hs3) | (refine wpList_storeB rfl 134 _ _ rfl wr.heap.size 0 134 _ T rfl rfl (at27 hTl) hB3 (by simp [hTl]) ?_; intro w4 hB4 hg4; obtain ⟨hbel4, hBT4, hBA4⟩ := ahead_facts hbel hnr hBT hb3 hs3 hTl hB4 hg4; obtain ⟨q4, _, _⟩ := HQ.out w4 hbel4))
    have HA : Hid (wr.heap.size < w4.heap.size) := hBA4.lt
    have hnA : n1 < wr.heap.size := hnr
    generalize wr.heap.size = nA at *
    clear hB3 hb3 hs3 hB4 hg4 hBT hbel hnr
    go_loopw [15] (fun s13 wk => ∃ k : Nat, k ≤ P.length ∧ s13 = .int .i64 k ∧ Bits wk n1 134 (leK (emS p) P T k) ∧ Bits wk nA 134 T ∧ Below n1 w2 wk) (fun s13 _ => P.length - (intOf s13).toNat)
    case atStart => exact ⟨0, Nat.zero_le _, rfl, hBT4, hBA4, hbel4⟩
    case round =>
      obtain ⟨k, hk, rfl, hBk, hBA, hbk⟩ := hrel
      clear hBT4 hBA4 hbel4 q4 HA
      by_cases hlk : k < P.length
      · have HK : Hid (leK (emS p) P T (k + 1) = leI (emS p) k P[k] (leK (emS p) P T k) P[k].length) := leK_next hlk
        have hm := List.getElem_mem hlk
        have hQ := HF.out.alts _ hm
        have HC1 : Hid (∀ (W : World) (T : List Bool) (i : Nat) (hi : i < P[k].length) (a : Option Addr) (c : Nat), Below w.heap.size w W → T.length = 27 → RD w (.slice a P[k][i].length c) (slD Lay.int P[k][i]) →
          Calls Tryd.prog 113 #[.slice a P[k][i].length c, aggB T] W fun e w' => e = .returned (.bool (p T P[k][i])) ∧ Below W.heap.size W w') := fun W T i hi a c => HCL.out W T k hlk i hi a c
        have HLe : Hid (∀ i, i ≤ P[k].length → (leI (emS p) k P[k] (leK (emS p) P T k) i).length = 27) := fun i hi => (HRz.out.leI hlk (HRz.out.leK hTl k hk).1 i hi).1
        obtain ⟨b1, o1, ea0, hb1, a1, c1, q0', r1⟩ := HR0.out.listAt hlk
        have HR1 : Hid (RD w (.slice a1 P[k].length c1) (slD (Lay.list Lay.int) P[k])) := r1
        have q0 := ((HQ.out wr hbk).2.1.cell (p := ⟨b1, o1 + k, none⟩) hb1).trans q0'
        subst ea0
        have hk27 : k < 27 := by omega
        clear r1 q0' hm hb1
        generalize leK (emS p) P T k = Tk at *
        generalize P[k] = Q at *
        go_wp2
        go_loopw [22] (fun s20 wk => ∃ i : Nat, i ≤ Q.length ∧ s20 = .int .i64 i ∧ Bits wk n1 134 (leI (emS p) k Q Tk i) ∧ Bits wk nA 134 T ∧ Below n1 w2 wk) (fun s20 _ => Q.length - (intOf s20).toNat)
        case atStart => exact ⟨0, Nat.zero_le _, rfl, hBk, hBA, hbk⟩
        case round =>
          obtain ⟨i, hi, rfl, hBi, hBAi, hbi⟩ := hrel
          clear hBk hBA hbk q0
          by_cases hli : i < Q.length
          · have HE : Hid (leI (emS p) k Q Tk (i + 1) = emS p k Q[i] (leI (emS p) k Q Tk i)) := leI_next hli
            have hTi := HLe.out i hi
            obtain ⟨b2, o2, ea1, hb2, a2, c2, q1', r2⟩ := HR1.out.listAt hli
            have hbw := (HQ.out wr hbi).2.1
            have q1 := (hbw.cell (p := ⟨b2, o2 + i, none⟩) hb2).trans q1'
            subst ea1
            have q2 := hBi.cell (n := k) (by omega)
            have f2 := hBi.frozen k
            have hn1r := hBi.lt
            have HX : Hid (Calls Tryd.prog 113 #[.slice a2 Q[i].length c2, aggB (leI (emS p) k Q Tk i)] wr fun e w' => e = .returned (.bool (p (leI (emS p) k Q Tk i) Q[i])) ∧ Below wr.heap.size wr w') := HC1.out wr _ i hli a2 c2 hbw hTi r2
            clear r2 q1' hb2 hbw
            generalize leI (emS p) k Q Tk i = Ti at *
            generalize Q[i] = R at *
            have key : ∀ (W : World) (v : Bool), Below wr.heap.size wr W → emS p k R Ti = Ti.set k v → Bits (W.setCell ⟨n1, k, none⟩ (.bool v)) n1 134 (leI (emS p) k Q Tk (i + 1)) ∧ Bits (W.setCell ⟨n1, k, none⟩ (.bool v)) nA 134 T ∧ Below n1 w2 (W.setCell ⟨n1, k, none⟩ (.bool v)) := by
              intro W v hW he
              rw [HE.out, he]
              exact ⟨(hBi.later hW).set k v, (hBAi.later hW).grown (setCell_grown W n1 k _) (by intro h; cases h; omega), (hbi.trans (hW.mono (by omega))).setCell (Nat.le_refl _) _⟩
            have HKY : Hid (∀ (W : World) (v : Bool), Below wr.heap.size wr W → emS p k R Ti = Ti.set k v → Bits (W.setCell ⟨n1, k, none⟩ (.bool v)) n1 134 (leI (emS p) k Q Tk (i + 1)) ∧ Bits (W.setCell ⟨n1, k, none⟩ (.bool v)) nA 134 T ∧ Below n1 w2 (W.setCell ⟨n1, k, none⟩ (.bool v))) := key
            clear key
            by_cases hup : Ti.getD k false = true
            · rw [hup] at q2
              have K1 := HKY.out wr true (Below.refl _ _) (emS_yes hup)
              have HK1 : Hid _ := K1
              clear K1 hup HKY HE HX
              go_wp2
              go_roundw
              case rel => exact ⟨i + 1, by omega, by go_num, HK1.out.1, HK1.out.2.1, HK1.out.2.2⟩
              case measure => simp [intOf]; omega
            · have hdn : Ti.getD k false = false := by simpa using hup
              rw [hdn] at q2
              have HK2 : Hid (∀ W, Below wr.heap.size wr W → _) := fun W hW => HKY.out W (p Ti R) hW (emS_no hdn)
              clear hup hdn HKY HE
              go_wp2_with (first | (refine wpList_loadW rfl 134 _ rfl n1 134 Ti rfl (at27 hTi) hBi ?_) | (go_at_call 113; refine HX.out.mono ?_; rintro e w5 ⟨rfl, hb5⟩; have q5 := (hBi.later hb5).cell (n := k) (by omega); have f5 := (hBi.later hb5).frozen k))
              go_roundw
              case rel => exact ⟨i + 1, by omega, by go_num, (HK2.out w5 hb5).1, (HK2.out w5 hb5).2.1, (HK2.out w5 hb5).2.2⟩
              case measure => simp [intOf]; omega
          · have e : i = Q.length := by omega
            subst e
            have HKe := HK
            clear HK
            go_wp2
            go_roundw
            case rel => exact ⟨k + 1, by omega, by go_num, by rw [HKe.out]; exact hBi, hBAi, hbi⟩
            case measure => simp [intOf]; omega
      · have e : k = P.length := by omega
        subst e
        have hLl := (HRz.out.leK hTl P.length (Nat.le_refl _))
        have HL2 : Hid (leK (emS p) P T P.length = T ∨ cntB T < cntB (leK (emS p) P T P.length)) := hLl.2
        have hLl1 := hLl.1
        have HLG : Hid (Grows (emS p) P (List.replicate 27 false) (leK (emS p) P T P.length)) := HTG.out.leK _ (Nat.le_refl _)
        have HLc : Hid (cntB (leK (emS p) P T P.length) ≤ 27) := by show _ ≤ _; have := cntB_le (leK (emS p) P T P.length); omega
        clear hLl
        by_cases hfix : leK (emS p) P T P.length = T
        · have HX : Hid (leK (emS p) P T P.length = T) := hfix
          rw [hfix] at hBk
          clear hfix HL2 hLl1
          have hR := (HQ.out wr hbk).2.2
          have hBel := (HQ.out wr hbk).2.1
          go_wp2_with (first | (refine wpList_loadW rfl 134 _ rfl n1 134 T rfl (at27 hTl) hBk ?_) | (refine wpList_loadW rfl 134 _ rfl nA 134 T rfl (at27 hTl) hBA ?_) | (refine wpList_eqlB rfl 134 _ _ _ rfl T T rfl rfl guard_flags (eq_flags27 hTl hTl) ?_; rw [decide_eq_true (rfl : T = T)]) | (refine wpList_storeB rfl 134 _ _ rfl (w.heap.size + 1) 0 134 _ T rfl rfl (at27 hTl) hR (by simp [hTl]) ?_; intro w5 hB5 hg5))
          have e5 : putB (List.replicate 27 false) 0 T = T := putB_whole (by simp [hTl])
          rw [e5] at hB5
          have hb5 : Below w.heap.size w w5 := hBel.grown hg5 hBel.size (fun j hj => by cases hj; omega)
          refine bodyPost_ret (v := aggB T) (ret_cell 134 rfl rfl hB5 (at27 hTl)) rfl ⟨T, rfl, hTl, HTG.out, HX.out, hb5⟩
        · have hcnt : cntB T < cntB (leK (emS p) P T P.length) := HL2.out.resolve_left hfix
          have hdec : decide (leK (emS p) P T P.length = T) = false := decide_eq_false hfix
          clear hfix HL2
          generalize leK (emS p) P T P.length = T2 at *
          go_wp2_with (first | (refine wpList_loadW rfl 134 _ rfl n1 134 T2 rfl (at27 hLl1) hBk ?_) | (refine wpList_loadW rfl 134 _ rfl nA 134 T rfl (at27 hTl) hBA ?_) | (refine wpList_eqlB rfl 134 _ _ _ rfl T2 T rfl rfl guard_flags (eq_flags27 hLl1 hTl) ?_; rw [hdec]))
          go_roundg (27 - cntB T2)
          case measure => have := HTg.out; have := HLc.out; omega
          case rel => exact ⟨T2, hLl1, by have := HLc.out; omega, HLG.out, hBk, hbk⟩
end Go.Proofs.YthnppodnjokaoaaDoor
namespace Go.Proofs.YthnppodnjokaoaaDoor
open Go.RowKit

set_option maxHeartbeats 4000000 in
set_option maxRecDepth 100000 in
theorem leastParts_E (p : List Bool → List Int → Bool) (P : List (List (List Int))) (a0 : Option Addr) (c0 : Nat) (w : World) (h0 : RD w (.slice a0 P.length c0) (slD (Lay.list (Lay.list Lay.int)) P)) (hok : gramOkB P = true)
    (hcl : ∀ (W : World) (T : List Bool) (k : Nat) (hk : k < P.length) (i : Nat) (hi : i < P[k].length) (a : Option Addr) (c : Nat), Below w.heap.size w W → T.length = 27 → RD w (.slice a P[k][i].length c) (slD Lay.int P[k][i]) →
      Calls Tryd.prog 122 #[.slice a P[k][i].length c, aggB T] W fun e w' => e = .returned (.bool (p T P[k][i])) ∧ Below W.heap.size W w') :
    Calls Tryd.prog 112 #[.agg #[.slice a0 P.length c0], .func (.func 122) #[] #[]] w fun e w' => ∃ T, e = .returned (aggB T) ∧ T.length = 27 ∧ Grows (emS p) P (List.replicate 27 false) T ∧ leK (emS p) P T P.length = T ∧ Below w.heap.size w w' := by
  have F := Fits.of hok
  have HF : Hid (Fits P) := F
  have hp := F.parts
  have HRz : Hid (Raises (emS p) P 27) := emS_raises p P
  have HCL : Hid (∀ (W : World) (T : List Bool) (k : Nat) (hk : k < P.length) (i : Nat) (hi : i < P[k].length) (a : Option Addr) (c : Nat), Below w.heap.size w W → T.length = 27 → RD w (.slice a P[k][i].length c) (slD Lay.int P[k][i]) →
      Calls Tryd.prog 122 #[.slice a P[k][i].length c, aggB T] W fun e w' => e = .returned (.bool (p T P[k][i])) ∧ Below W.heap.size W w') := hcl
  clear F hok hcl
  have B0 := (Below.refl w.heap.size w).alloc (Nat.le_refl _) (.cells #[.slice a0 P.length c0] 28)
  have HQ0 : Hid ((w.alloc (.cells #[.slice a0 P.length c0] 28)).cell? ⟨w.heap.size, 0, none⟩ = some (.slice a0 P.length c0)) := by show _ = _; simp
  have HR0 : Hid (RD w (.slice a0 P.length c0) (slD (Lay.list (Lay.list Lay.int)) P)) := h0
  have hsb : (w.alloc (.cells #[.slice a0 P.length c0] 28)).heap.size = w.heap.size + 1 := by simp
  clear h0
  go_enter Tryd.func112, Tryd.ntmps112
  go_wp2_with (first | (refine wpList_allocB (w := w.alloc _) rfl 134 rfl 27 bt_flags ?_; rw [hsb]; intro w1 hB1 hb1 hs1) | (refine wpList_allocB (w := w1) rfl 134 rfl 27 bt_flags ?_; intro w2 hB2 hb2 hs2))
  generalize w.alloc (.cells #[.slice a0 P.length c0] 28) = wb at *
  simp only [Act.put, List.setIfInBounds_toArray, List.set_cons_zero, List.set_cons_succ]
  -- what is known below the flags
  have hs1' : w1.heap.size = w.heap.size + 2 := by omega
  have HQ : Hid (∀ W, Below w1.heap.size w2 W → W.cell? ⟨w.heap.size, 0, none⟩ = some (.slice a0 P.length c0) ∧ Below w.heap.size w W ∧ Bits W (w.heap.size + 1) 134 (List.replicate 27 false)) := by
    intro W hW
    have b1 : Below (w.heap.size + 1) wb W := hb1.trans ((hb2.mono (by omega)).trans (hW.mono (by omega)))
    refine ⟨(b1.cell (p := ⟨w.heap.size, 0, none⟩) (by simp)).trans HQ0.out, B0.trans (b1.mono (by omega)), ?_⟩
    exact (hB1.below hb2 (by omega)).below hW (by omega)
  clear HQ0 B0 hB1 hb1 hs1
  clear hb2 hs2
  generalize w1.heap.size = n1 at *
  have hn1w : w.heap.size + 1 < n1 := by omega
  clear hs1' hsb
  go_loopg [] 27 (fun g wr => ∃ T : List Bool, Aside (T.length = 27 ∧ cntB T + g = 27 ∧ Grows (emS p) P (List.replicate 27 false) T ∧ Bits wr n1 134 T ∧ Below n1 w2 wr))
  case atStart => exact ⟨List.replicate 27 false, by simp, by decide, Grows.refl _ _, hB2, Below.refl _ _⟩
  case round =>
    obtain ⟨T, A⟩ := hrel
    have hTl := A.out.1
    have HTg : Hid (cntB T + gk = 27) := A.out.2.1
    have HTG : Hid (Grows (emS p) P (List.replicate 27 false) T) := A.out.2.2.1
    have hBT := A.out.2.2.2.1
    have hbel := A.out.2.2.2.2
    clear A hB2
    have hnr := hBT.lt
    go_wp2_with (first | (refine wpList_loadW rfl 134 _ rfl n1 134 T rfl (at27 hTl) hBT ?_) | (refine wpList_allocB rfl 134 rfl 27 bt_flags ?_; intro w3 hB3 hb3 hs3) | (refine wpList_storeB rfl 134 _ _ rfl wr.heap.size 0 134 _ T rfl rfl (at27 hTl) hB3 (by simp [hTl]) ?_; intro w4 hB4 hg4; obtain ⟨hbel4, hBT4, hBA4⟩ := ahead_facts hbel hnr hBT hb3 hs3 hTl hB4 hg4; obtain ⟨q4, _, _⟩ := HQ.out w4 hbel4))
    have HA : Hid (wr.heap.size < w4.heap.size) := hBA4.lt
    have hnA : n1 < wr.heap.size := hnr
    generalize wr.heap.size = nA at *
    clear hB3 hb3 hs3 hB4 hg4 hBT hbel hnr
    go_loopw [15] (fun s13 wk => ∃ k : Nat, k ≤ P.length ∧ s13 = .int .i64 k ∧ Bits wk n1 134 (leK (emS p) P T k) ∧ Bits wk nA 134 T ∧ Below n1 w2 wk) (fun s13 _ => P.length - (intOf s13).toNat)
    case atStart => exact ⟨0, Nat.zero_le _, rfl, hBT4, hBA4, hbel4⟩
    case round =>
      obtain ⟨k, hk, rfl, hBk, hBA, hbk⟩ := hrel
      clear hBT4 hBA4 hbel4 q4 HA
      by_cases hlk : k < P.length
      · have HK : Hid (leK (emS p) P T (k + 1) = leI (emS p) k P[k] (leK (emS p) P T k) P[k].length) := leK_next hlk
        have hm := List.getElem_mem hlk
        have hQ := HF.out.alts _ hm
        have HC1 : Hid (∀ (W : World) (T : List Bool) (i : Nat) (hi : i < P[k].length) (a : Option Addr) (c : Nat), Below w.heap.size w W → T.length = 27 → RD w (.slice a P[k][i].length c) (slD Lay.int P[k][i]) →
          Calls Tryd.prog 122 #[.slice a P[k][i].length c, aggB T] W fun e w' => e = .returned (.bool (p T P[k][i])) ∧ Below W.heap.size W w') := fun W T i hi a c => HCL.out W T k hlk i hi a c
        have HLe : Hid (∀ i, i ≤ P[k].length → (leI (emS p) k P[k] (leK (emS p) P T k) i).length = 27) := fun i hi => (HRz.out.leI hlk (HRz.out.leK hTl k hk).1 i hi).1
        obtain ⟨b1, o1, ea0, hb1, a1, c1, q0', r1⟩ := HR0.out.listAt hlk
        have HR1 : Hid (RD w (.slice a1 P[k].length c1) (slD (Lay.list Lay.int) P[k])) := r1
        have q0 := ((HQ.out wr hbk).2.1.cell (p := ⟨b1, o1 + k, none⟩) hb1).trans q0'
        subst ea0
        have hk27 : k < 27 := by omega
        clear r1 q0' hm hb1
        generalize leK (emS p) P T k = Tk at *
        generalize P[k] = Q at *
        go_wp2
        go_loopw [22] (fun s20 wk => ∃ i : Nat, i ≤ Q.length ∧ s20 = .int .i64 i ∧ Bits wk n1 134 (leI (emS p) k Q Tk i) ∧ Bits wk nA 134 T ∧ Below n1 w2 wk) (fun s20 _ => Q.length - (intOf s20).toNat)
        case atStart => exact ⟨0, Nat.zero_le _, rfl, hBk, hBA, hbk⟩
        case round =>
          obtain ⟨i, hi, rfl, hBi, hBAi, hbi⟩ := hrel
          clear hBk hBA hbk q0
          by_cases hli : i < Q.length
          · have HE : Hid (leI (emS p) k Q Tk (i + 1) = emS p k Q[i] (leI (emS p) k Q Tk i)) := leI_next hli
            have hTi := HLe.out i hi
            obtain ⟨b2, o2, ea1, hb2, a2, c2, q1', r2⟩ := HR1.out.listAt hli
            have hbw := (HQ.out wr hbi).2.1
            have q1 := (hbw.cell (p := ⟨b2, o2 + i, none⟩) hb2).trans q1'
            subst ea1
            have q2 := hBi.cell (n := k) (by omega)
            have f2 := hBi.frozen k
            have hn1r := hBi.lt
            have HX : Hid (Calls Tryd.prog 122 #[.slice a2 Q[i].length c2, aggB (leI (emS p) k Q Tk i)] wr fun e w' => e = .returned (.bool (p (leI (emS p) k Q Tk i) Q[i])) ∧ Below wr.heap.size wr w') := HC1.out wr _ i hli a2 c2 hbw hTi r2
            clear r2 q1' hb2 hbw
            generalize leI (emS p) k Q Tk i = Ti at *
            generalize Q[i] = R at *
            have key : ∀ (W : World) (v : Bool), Below wr.heap.size wr W → emS p k R Ti = Ti.set k v → Bits (W.setCell ⟨n1, k, none⟩ (.bool v)) n1 134 (leI (emS p) k Q Tk (i + 1)) ∧ Bits (W.setCell ⟨n1, k, none⟩ (.bool v)) nA 134 T ∧ Below n1 w2 (W.setCell ⟨n1, k, none⟩ (.bool v)) := by
              intro W v hW he
              rw [HE.out, he]
              exact ⟨(hBi.later hW).set k v, (hBAi.later hW).grown (setCell_grown W n1 k _) (by intro h; cases h; omega), (hbi.trans (hW.mono (by omega))).setCell (Nat.le_refl _) _⟩
            have HKY : Hid (∀ (W : World) (v : Bool), Below wr.heap.size wr W → emS p k R Ti = Ti.set k v → Bits (W.setCell ⟨n1, k, none⟩ (.bool v)) n1 134 (leI (emS p) k Q Tk (i + 1)) ∧ Bits (W.setCell ⟨n1, k, none⟩ (.bool v)) nA 134 T ∧ Below n1 w2 (W.setCell ⟨n1, k, none⟩ (.bool v))) := key
            clear key
            by_cases hup : Ti.getD k false = true
            · rw [hup] at q2
              have K1 := HKY.out wr true (Below.refl _ _) (emS_yes hup)
              have HK1 : Hid _ := K1
              clear K1 hup HKY HE HX
              go_wp2
              go_roundw
              case rel => exact ⟨i + 1, by omega, by go_num, HK1.out.1, HK1.out.2.1, HK1.out.2.2⟩
              case measure => simp [intOf]; omega
            · have hdn : Ti.getD k false = false := by simpa using hup
              rw [hdn] at q2
              have HK2 : Hid (∀ W, Below wr.heap.size wr W → _) := fun W hW => HKY.out W (p Ti R) hW (emS_no hdn)
              clear hup hdn HKY HE
              go_wp2_with (first | (refine wpList_loadW rfl 134 _ rfl n1 134 Ti rfl (at27 hTi) hBi ?_) | (go_at_call 122; refine HX.out.mono ?_; rintro e w5 ⟨rfl, hb5⟩; have q5 := (hBi.later hb5).cell (n := k) (by omega); have f5 := (hBi.later hb5).frozen k))
              go_roundw
              case rel => exact ⟨i + 1, by omega, by go_num, (HK2.out w5 hb5).1, (HK2.out w5 hb5).2.1, (HK2.out w5 hb5).2.2⟩
              case measure => simp [intOf]; omega
          · have e : i = Q.length := by omega
            subst e
            have HKe := HK
            clear HK
            go_wp2
            go_roundw
            case rel => exact ⟨k + 1, by omega, by go_num, by rw [HKe.out]; exact hBi, hBAi, hbi⟩
            case measure => simp [intOf]; omega
      · have e : k = P.length := by omega
        subst e
        have hLl := (HRz.out.leK hTl P.length (Nat.le_refl _))
        have HL2 : Hid (leK (emS p) P T P.length = T ∨ cntB T < cntB (leK (emS p) P T P.length)) := hLl.2
        have hLl1 := hLl.1
        have HLG : Hid (Grows (emS p) P (List.replicate 27 false) (leK (emS p) P T P.length)) := HTG.out.leK _ (Nat.le_refl _)
        have HLc : Hid (cntB (leK (emS p) P T P.length) ≤ 27) := by show _ ≤ _; have := cntB_le (leK (emS p) P T P.length); omega
        clear hLl
        by_cases hfix : leK (emS p) P T P.length = T
        · have HX : Hid (leK (emS p) P T P.length = T) := hfix
          rw [hfix] at hBk
          clear hfix HL2 hLl1
          have hR := (HQ.out wr hbk).2.2
          have hBel := (HQ.out wr hbk).2.1
          go_wp2_with (first | (refine wpList_loadW rfl 134 _ rfl n1 134 T rfl (at27 hTl) hBk ?_) | (refine wpList_loadW rfl 134 _ rfl nA 134 T rfl (at27 hTl) hBA ?_) | (refine wpList_eqlB rfl 134 _ _ _ rfl T T rfl rfl guard_flags (eq_flags27 hTl hTl) ?_; rw [decide_eq_true (rfl : T = T)]) | (refine wpList_storeB rfl 134 _ _ rfl (w.heap.size + 1) 0 134 _ T rfl rfl (at27 hTl) hR (by simp [hTl]) ?_; intro w5 hB5 hg5))
          have e5 : putB (List.replicate 27 false) 0 T = T := putB_whole (by simp [hTl])
          rw [e5] at hB5
          have hb5 : Below w.heap.size w w5 := hBel.grown hg5 hBel.size (fun j hj => by cases hj; omega)
          refine bodyPost_ret (v := aggB T) (ret_cell 134 rfl rfl hB5 (at27 hTl)) rfl ⟨T, rfl, hTl, HTG.out, HX.out, hb5⟩
        · have hcnt : cntB T < cntB (leK (emS p) P T P.length) := HL2.out.resolve_left hfix
          have hdec : decide (leK (emS p) P T P.length = T) = false := decide_eq_false hfix
          clear hfix HL2
          generalize leK (emS p) P T P.length = T2 at *
          go_wp2_with (first | (refine wpList_loadW rfl 134 _ rfl n1 134 T2 rfl (at27 hLl1) hBk ?_) | (refine wpList_loadW rfl 134 _ rfl nA 134 T rfl (at27 hTl) hBA ?_) | (refine wpList_eqlB rfl 134 _ _ _ rfl T2 T rfl rfl guard_flags (eq_flags27 hLl1 hTl) ?_; rw [hdec]))
          go_roundg (27 - cntB T2)
          case measure => have := HTg.out; have := HLc.out; omega
          case rel => exact ⟨T2, hLl1, by have := HLc.out; omega, HLG.out, hBk, hbk⟩
end Go.Proofs.YthnppodnjokaoaaDoor
namespace Go.Proofs.YthnppodnjokaoaaDoor
open Go.RowKit

/-- One row's step. -/
def eS (k : Nat) (row : List Int) (T : List Bool) : List Bool := bstep T (k, fun b => allB b row)
theorem eS_raises (P : List (List (List Int))) : Raises eS P 27 := fun k _ i _ T hT => ⟨by rw [eS, bstep_length]; exact hT, bstep_or _ _⟩

set_option maxHeartbeats 4000000 in
set_option maxRecDepth 100000 in
theorem emptiesOf_grow (P : List (List (List Int))) (a0 : Option Addr) (c0 : Nat) (w : World) (h0 : RD w (.slice a0 P.length c0) (slD (Lay.list (Lay.list Lay.int)) P)) (hok : gramOkB P = true) :
    Calls Tryd.prog 118 #[.agg #[.slice a0 P.length c0]] w fun e w' => ∃ T, e = .returned (aggB T) ∧ T.length = 27 ∧ Grows eS P (List.replicate 27 false) T ∧ leK eS P T P.length = T ∧ Below w.heap.size w w' := by
  have HX : Hid (∀ W : World, Below w.heap.size w W → Calls Tryd.prog 112 #[.agg #[.slice a0 P.length c0], .func (.func 122) #[] #[]] W fun e w' => ∃ T, e = .returned (aggB T) ∧ T.length = 27 ∧ Grows eS P (List.replicate 27 false) T ∧ leK eS P T P.length = T ∧ Below W.heap.size W w') := by
    intro W hW
    have F := Fits.of hok
    refine leastParts_E allB P a0 c0 W (h0.later hW) hok (fun W2 T k hk i hi a c hb hT hr => ?_)
    have hm := List.getElem_mem hk
    have hm2 := List.getElem_mem hi
    have h8 := F.rows _ hm _ hm2
    exact allOf_any _ a c T W2 (hr.later hb).reads (by omega) (fun z hz => by have := F.syms _ hm _ hm2 z hz; omega) hT
  have B0 := (Below.refl w.heap.size w).alloc (Nat.le_refl _) (.cells #[.slice a0 P.length c0] 28)
  have hsb : (w.alloc (.cells #[.slice a0 P.length c0] 28)).heap.size = w.heap.size + 1 := by simp
  have HQ0 : Hid ((w.alloc (.cells #[.slice a0 P.length c0] 28)).cell? ⟨w.heap.size, 0, none⟩ = some (.slice a0 P.length c0)) := by show _ = _; simp
  clear h0 hok
  go_enter Tryd.func118, Tryd.ntmps118
  go_wp2_with (first | (refine wpList_allocB (w := w.alloc _) rfl 134 rfl 27 bt_flags ?_; rw [hsb]; intro w1 hB1 hb1 hs1; have q1 := (hb1.cell (p := ⟨w.heap.size, 0, none⟩) (by simp)).trans HQ0.out) | (go_at_call 112; refine (HX.out _ (B0.trans (hb1.mono (by omega)))).mono ?_; rintro e w2 ⟨T, rfl, hTl, hG, hF, hb2⟩; have hB2 := hB1.later hb2) | (refine wpList_storeB (w := w2) rfl 134 _ _ rfl (w.heap.size + 1) 0 134 _ T rfl rfl (at27 hTl) hB2 (by simp [hTl]) ?_; intro w3 hB3 hg3))
  have e5 : putB (List.replicate 27 false) 0 T = T := putB_whole (by simp [hTl])
  rw [e5] at hB3
  have b1 : Below w.heap.size w w1 := B0.trans (hb1.mono (by omega))
  have b2 : Below w.heap.size w w2 := b1.trans (hb2.mono b1.size)
  have b3 : Below w.heap.size w w3 := b2.grown hg3 b2.size (fun j hj => by cases hj; omega)
  exact bodyPost_ret (v := aggB T) (ret_cell 134 rfl rfl hB3 (at27 hTl)) rfl ⟨T, rfl, hTl, hG, hF, b3⟩
end Go.Proofs.YthnppodnjokaoaaDoor
namespace Go.Proofs.YthnppodnjokaoaaDoor
open Go.RowKit

theorem emptiesL_mem {P : List (List (List Int))} (F : Fits P) {x : Int} (h : x ∈ emptiesL P) : 0 ≤ x ∧ x < 20 := by
  have := (growT_setB (p := allE) P (P.length + 1)).lt x h
  have := F.parts
  omega
theorem rep_getD (m n : Nat) : (List.replicate m false).getD n false = false := by
  rw [List.getD_eq_getElem?_getD, List.getElem?_replicate]
  split <;> rfl
theorem getD_setB (T : List Bool) (k n : Nat) (v : Bool) : (T.set k v).getD n false = if n = k ∧ k < T.length then v else T.getD n false := by
  by_cases e : n = k
  · subst e
    by_cases h : n < T.length
    · simp [List.getD, h]
    · simp [List.getD, h]
  · simp [List.getD, e, Ne.symm e]
theorem allB_of {T : List Bool} {E row : List Int} (hz : ∀ z ∈ row, 0 ≤ z ∧ z < 120) (h : ∀ n : Nat, (n : Int) ∈ E → T.getD n false = true) (g : allE row E = true) : allB T row = true := by
  unfold allE at g
  unfold allB
  rw [List.all_eq_true] at g ⊢
  intro x hx
  have h1 := g x hx
  have h2 := hz x hx
  simp only [Bool.and_eq_true, decide_eq_true_eq] at h1 ⊢
  refine ⟨⟨h1.1, by omega⟩, h _ ?_⟩
  have h3 : x - 100 ∈ E := by simpa [hasL] using h1.2
  rwa [show (((x - 100).toNat : Nat) : Int) = x - 100 by omega]
theorem allE_of {T : List Bool} {E row : List Int} (h : ∀ n : Nat, T.getD n false = true → (n : Int) ∈ E) (g : allB T row = true) : allE row E = true := by
  unfold allB at g
  unfold allE
  rw [List.all_eq_true] at g ⊢
  intro x hx
  have h1 := g x hx
  simp only [Bool.and_eq_true, decide_eq_true_eq] at h1 ⊢
  refine ⟨h1.1.1, ?_⟩
  have h3 := h _ h1.2
  rw [show (((x - 100).toNat : Nat) : Int) = x - 100 by omega] at h3
  exact hasL_yes h3
theorem emptiesOf_is {P : List (List (List Int))} (F : Fits P) {T : List Bool} (hl : T.length = 27) (hG : Grows eS P (List.replicate 27 false) T) (hx : leK eS P T P.length = T) : T = flagsOf (emptiesL P) := by
  have sound : ∀ n : Nat, T.getD n false = true → (n : Int) ∈ emptiesL P := by
    refine hG (fun T => ∀ n : Nat, T.getD n false = true → (n : Int) ∈ emptiesL P) (fun n hn => ?_) (fun k hk i hi T hT n hn => ?_)
    · rw [rep_getD] at hn; cases hn
    · simp only [eS, bstep] at hn
      rw [getD_setB] at hn
      split at hn
      · rename_i e
        rw [Bool.or_eq_true] at hn
        rcases hn with hn | hn
        · rw [e.1]; exact hT k hn
        · rw [e.1]; exact growT_closed hk hi (allE_of hT hn)
      · exact hT n hn
  have fix : ∀ k (hk : k < P.length) i (hi : i < P[k].length), allB T P[k][i] = true → T.getD k false = true := by
    intro k hk i hi ha
    have e := (eS_raises P).fix hl hx hk hi
    have h20 := F.parts
    have := bstep_fix (s := (k, fun b => allB b P[k][i])) e (by show k < T.length; omega) ha
    simp only [List.getD, List.getElem?_eq_getElem (show k < T.length by omega), Option.getD_some]
    exact this
  have compl : ∀ x ∈ emptiesL P, ∃ n : Nat, x = n ∧ T.getD n false = true := by
    refine growT_sound (p := allE) (S := fun x => ∃ n : Nat, x = n ∧ T.getD n false = true) (fun k hk i hi E hE ha => ⟨k, rfl, fix k hk i hi ?_⟩) _
    refine allB_of (E := E) (F.syms _ (List.getElem_mem hk) _ (List.getElem_mem hi)) (fun n hn => ?_) ha
    obtain ⟨m, hm, h⟩ := hE _ hn
    rwa [show n = m by omega]
  apply list_ext_getD (by rw [hl, flagsOf_length])
  intro n hn
  rw [flagsOf_get _ (by omega), Bool.eq_iff_iff]
  constructor
  · intro h; exact hasL_yes (sound n h)
  · intro h
    obtain ⟨m, hm, h2⟩ := compl n (by simpa [hasL] using h)
    rwa [show n = m by omega]
theorem nums_flags {E : List Int} (hs : E.Pairwise (· < ·)) (hb : ∀ x ∈ E, 0 ≤ x ∧ x < 27) {f : Nat → Bool} (hf : ∀ n, n < 27 → f n = hasL E (n : Int)) : numsB f 27 = E := by
  refine eq_of_pair (numsB_sorted _ _) hs fun z => ?_
  rw [mem_numsB]
  constructor
  · rintro ⟨n, h1, rfl, h2⟩
    rw [hf n h1] at h2
    simpa [hasL] using h2
  · intro h
    have hz := hb z h
    refine ⟨z.toNat, by omega, by omega, ?_⟩
    rw [hf _ (by omega), show ((z.toNat : Nat) : Int) = z by omega]
    exact hasL_yes h
theorem allB_flags {E : List Int} (hb : ∀ x ∈ E, 0 ≤ x ∧ x < 20) (row : List Int) : allB (flagsOf E) row = allE row E := by
  unfold allB allE
  congr 1
  funext x
  by_cases h1 : 100 ≤ x
  · by_cases h2 : x - 100 < 20
    · rw [flagsOf_get _ (by omega), show (((x - 100).toNat : Nat) : Int) = x - 100 by omega]
      simp [h1, h2]
    · have : hasL E (x - 100) = false := hasL_no (fun h => by have := hb _ h; omega)
      simp [h2, this]
  · simp [h1]

set_option maxRecDepth 100000 in
theorem emptiesOf_any (P : List (List (List Int))) (a0 : Option Addr) (c0 : Nat) (w : World) (h0 : RD w (.slice a0 P.length c0) (slD (Lay.list (Lay.list Lay.int)) P)) (hok : gramOkB P = true) :
    Calls Tryd.prog 118 #[.agg #[.slice a0 P.length c0]] w fun e w' => e = .returned (aggB (flagsOf (emptiesL P))) ∧ Below w.heap.size w w' := by
  refine (emptiesOf_grow P a0 c0 w h0 hok).mono ?_
  rintro e w' ⟨T, rfl, h1, h2, h3, h4⟩
  exact ⟨by rw [emptiesOf_is (Fits.of hok) h1 h2 h3], h4⟩
end Go.Proofs.YthnppodnjokaoaaDoor
namespace Go.Proofs.YthnppodnjokaoaaDoor
open Go.RowKit

/-- All parts of the row are those whose flag is up. -/
def liveB (bs : List Bool) (row : List Int) : Bool := row.all fun x => inB x 0 25 || bs.getD (x - 100).toNat false

set_option maxRecDepth 100000 in
theorem becomesLetters_any (zs : List Int) (a : Option Addr) (c : Nat) (bs : List Bool) (w : World) (h : Reads w a zs) (hl : zs.length ≤ 1048576) (hz : ∀ z ∈ zs, (0 ≤ z ∧ z ≤ 25) ∨ (100 ≤ z ∧ z < 120)) (hb : bs.length = 27) :
    Calls Tryd.prog 113 #[.slice a zs.length c, aggB bs] w fun e w' => e = .returned (.bool (liveB bs zs)) ∧ Below w.heap.size w w' := by
  have HZ : Hid (∀ z ∈ zs, (0 ≤ z ∧ z ≤ 25) ∨ (100 ≤ z ∧ z < 120)) := hz
  clear hz
  go_enter Tryd.func113, Tryd.ntmps113
  go_wp2_with (refine wpList_boxB rfl 134 _ rfl bs rfl ?_; intro w1 hB1 hb1 hs1)
  go_loop [9] (fun s => ∃ k : Nat, k ≤ zs.length ∧ s = .int .i64 k ∧ Hid ((zs.take k).all (fun x => inB x 0 25 || bs.getD (x - 100).toNat false) = true)) (fun s => zs.length - (intOf s).toNat)
  case atStart => exact ⟨0, Nat.zero_le _, rfl, by show _ = _; simp⟩
  case round =>
    obtain ⟨k, hk, rfl, HK⟩ := hrel
    have h1 := h.below hb1
    by_cases hlt : k < zs.length
    · obtain ⟨b, off, rfl, hbb, hc⟩ := h1.at hlt
      have q1 := hc k hlt
      rw [List.getD_eq_getElem?_getD, List.getElem?_eq_getElem hlt, Option.getD_some] at q1
      have hr := HZ.out zs[k] (List.getElem_mem hlt)
      have HS : Hid ((inB zs[k] 0 25 || bs.getD (zs[k] - 100).toNat false) = true → (zs.take (k + 1)).all (fun x => inB x 0 25 || bs.getD (x - 100).toNat false) = true) := fun g => allB_step HK.out hlt g
      have HN : Hid ((inB zs[k] 0 25 || bs.getD (zs[k] - 100).toNat false) = false → liveB bs zs = false) := fun g => allB_no hlt g
      clear hc h h1 HK
      generalize zs[k] = z at *
      by_cases hlet : z ≤ 25
      · have hin : inB z 0 25 = true := inB_true.2 (by omega)
        have X : Hid (∀ W : World, Calls Tryd.prog 79 #[.int .i64 z] W fun e w' => e = .returned (.bool true) ∧ w' = W) := fun W => by have := isLetter_any z W; rwa [hin] at this
        have HSS : Hid _ := HS.out (by rw [hin, Bool.true_or])
        clear HS HN hin
        go_wp2_with (go_at_call 79; refine (X.out _).mono ?_; rintro e w' ⟨rfl, hw'⟩; have hw2 := hw'.symm; clear hw'; subst hw2)
        go_round
        case rel => exact ⟨k + 1, by omega, by go_num, HSS.out⟩
        case measure => simp [intOf]; omega
      · have hin : inB z 0 25 = false := inB_false.2 (by omega)
        have X : Hid (∀ W : World, Calls Tryd.prog 79 #[.int .i64 z] W fun e w' => e = .returned (.bool false) ∧ w' = W) := fun W => by have := isLetter_any z W; rwa [hin] at this
        obtain ⟨n, hn⟩ : ∃ n : Nat, z = 100 + (n : Int) := ⟨(z - 100).toNat, by omega⟩
        subst hn
        have hn2 : n < 27 := by omega
        have q2 := hB1.cell (n := n) (by omega)
        have e1 : (100 + (n : Int) - 100).toNat = n := by omega
        have hn0 : (0 : Int) ≤ (n : Int) := by omega
        have hn1 : (n : Int) < 27 := by omega
        rw [e1, hin, Bool.false_or] at HS HN
        clear hin e1 hlet hr
        by_cases z3 : bs.getD n false = true
        · rw [z3] at q2
          have HSS : Hid _ := HS.out z3
          clear HS HN z3
          go_wp2_with (go_at_call 79; refine (X.out _).mono ?_; rintro e w' ⟨rfl, hw'⟩; have hw2 := hw'.symm; clear hw'; subst hw2)
          go_round
          case rel => exact ⟨k + 1, by omega, by go_num, HSS.out⟩
          case measure => simp [intOf]; omega
        · have z4 : bs.getD n false = false := by simpa using z3
          rw [z4] at q2
          have HNN : Hid (liveB bs zs = false) := HN.out z4
          clear HS HN z3 z4
          go_wp2_with (go_at_call 79; refine (X.out _).mono ?_; rintro e w' ⟨rfl, hw'⟩; have hw2 := hw'.symm; clear hw'; subst hw2)
          go_ret
          exact ⟨ret_bool (by rw [HNN.out]), hb1⟩
    · have HE : Hid (liveB bs zs = true) := allB_end HK.out hlt
      clear h h1 HK
      go_wp2
      go_ret
      exact ⟨ret_bool (by rw [HE.out]), hb1⟩

theorem symsLet {P : List (List (List Int))} (hok : gramOkB P = true) {k : Nat} (hk : k < P.length) {i : Nat} (hi : i < P[k].length) : ∀ z ∈ P[k][i], (0 ≤ z ∧ z ≤ 25) ∨ (100 ≤ z ∧ z < 100 + P.length) := by
  intro z h3
  simp only [gramOkB, Bool.and_eq_true, List.all_eq_true, partOk, rowOk, decide_eq_true_eq] at hok
  exact symOk_true.1 (((hok.2 _ (List.getElem_mem hk)).2 _ (List.getElem_mem hi)).2 z h3)
/-- The flags that are found are those of the set that is grown, where the tests are one. -/
theorem leastParts_is {pB : List Bool → List Int → Bool} {pE : List Int → List Int → Bool} {P : List (List (List Int))} (F : Fits P)
    (hs : ∀ k (hk : k < P.length) i (hi : i < P[k].length) T E, (∀ n : Nat, T.getD n false = true → (n : Int) ∈ E) → pB T P[k][i] = true → pE P[k][i] E = true)
    (hc : ∀ k (hk : k < P.length) i (hi : i < P[k].length) T E, (∀ n : Nat, (n : Int) ∈ E → T.getD n false = true) → pE P[k][i] E = true → pB T P[k][i] = true)
    {T : List Bool} (hl : T.length = 27) (hG : Grows (emS pB) P (List.replicate 27 false) T) (hx : leK (emS pB) P T P.length = T) : T = flagsOf (growT pE P (P.length + 1)) := by
  have sound : ∀ n : Nat, T.getD n false = true → (n : Int) ∈ growT pE P (P.length + 1) := by
    refine hG (fun T => ∀ n : Nat, T.getD n false = true → (n : Int) ∈ growT pE P (P.length + 1)) (fun n hn => ?_) (fun k hk i hi T hT n hn => ?_)
    · rw [rep_getD] at hn; cases hn
    · simp only [emS, bstep] at hn
      rw [getD_setB] at hn
      split at hn
      · rename_i e
        rw [Bool.or_eq_true] at hn
        rcases hn with hn | hn
        · rw [e.1]; exact hT k hn
        · rw [e.1]; exact growT_closed hk hi (hs k hk i hi T _ hT hn)
      · exact hT n hn
  have fix : ∀ k (hk : k < P.length) i (hi : i < P[k].length), pB T P[k][i] = true → T.getD k false = true := by
    intro k hk i hi ha
    have e := (emS_raises pB P).fix hl hx hk hi
    have h20 := F.parts
    have := bstep_fix (s := (k, fun b => pB b P[k][i])) e (by show k < T.length; omega) ha
    simp only [List.getD, List.getElem?_eq_getElem (show k < T.length by omega), Option.getD_some]
    exact this
  have compl : ∀ x ∈ growT pE P (P.length + 1), ∃ n : Nat, x = n ∧ T.getD n false = true := by
    refine growT_sound (p := pE) (S := fun x => ∃ n : Nat, x = n ∧ T.getD n false = true) (fun k hk i hi E hE ha => ⟨k, rfl, fix k hk i hi ?_⟩) _
    refine hc k hk i hi T E (fun n hn => ?_) ha
    obtain ⟨m, hm, h⟩ := hE _ hn
    rwa [show n = m by omega]
  apply list_ext_getD (by rw [hl, flagsOf_length])
  intro n hn
  rw [flagsOf_get _ (by omega), Bool.eq_iff_iff]
  constructor
  · intro h; exact hasL_yes (sound n h)
  · intro h
    obtain ⟨m, hm, h2⟩ := compl n (by simpa [hasL] using h)
    rwa [show n = m by omega]
theorem liveB_all {bs : List Bool} {row : List Int} : liveB bs row = true ↔ ∀ x ∈ row, inB x 0 25 = true ∨ bs.getD (x - 100).toNat false = true := by
  unfold liveB
  rw [List.all_eq_true]
  exact ⟨fun h x hx => by have := h x hx; rwa [Bool.or_eq_true] at this, fun h x hx => by have := h x hx; rwa [Bool.or_eq_true]⟩
theorem aliveE_all {E row : List Int} : aliveE row E = true ↔ ∀ x ∈ row, ¬ 100 ≤ x ∨ x - 100 ∈ E := by
  unfold aliveE
  rw [List.all_eq_true]
  exact ⟨fun h x hx => by have := h x hx; simpa [hasL] using this, fun h x hx => by have := h x hx; simpa [hasL] using this⟩
theorem productiveOf_is {P : List (List (List Int))} (hok : gramOkB P = true) {T : List Bool} (hl : T.length = 27) (hG : Grows (emS liveB) P (List.replicate 27 false) T) (hx : leK (emS liveB) P T P.length = T) : T = flagsOf (aliveL P) := by
  refine leastParts_is (Fits.of hok) (pE := aliveE) (fun k hk i hi T E hT h => ?_) (fun k hk i hi T E hE h => ?_) hl hG hx
  · rw [liveB_all] at h
    rw [aliveE_all]
    intro x hx
    have hz := symsLet hok hk hi x hx
    rcases h x hx with h1 | h1
    · left; have := inB_true.1 h1; omega
    · by_cases g : 100 ≤ x
      · right; have := hT _ h1; rwa [show (((x - 100).toNat : Nat) : Int) = x - 100 by omega] at this
      · exact .inl g
  · rw [aliveE_all] at h
    rw [liveB_all]
    intro x hx
    have hz := symsLet hok hk hi x hx
    rcases h x hx with h1 | h1
    · left; exact inB_true.2 (by omega)
    · by_cases g : 100 ≤ x
      · right; exact hE _ (by rwa [show (((x - 100).toNat : Nat) : Int) = x - 100 by omega])
      · left; exact inB_true.2 (by omega)

set_option maxHeartbeats 4000000 in
set_option maxRecDepth 100000 in
theorem productiveOf_any (P : List (List (List Int))) (a0 : Option Addr) (c0 : Nat) (w : World) (h0 : RD w (.slice a0 P.length c0) (slD (Lay.list (Lay.list Lay.int)) P)) (hok : gramOkB P = true) :
    Calls Tryd.prog 102 #[.agg #[.slice a0 P.length c0]] w fun e w' => e = .returned (aggB (flagsOf (aliveL P))) ∧ Below w.heap.size w w' := by
  have HX : Hid (∀ W : World, Below w.heap.size w W → Calls Tryd.prog 112 #[.agg #[.slice a0 P.length c0], .func (.func 113) #[] #[]] W fun e w' => e = .returned (aggB (flagsOf (aliveL P))) ∧ Below W.heap.size W w') := by
    intro W hW
    have F := Fits.of hok
    have := leastParts_P liveB P a0 c0 W (h0.later hW) hok (fun W2 T k hk i hi a c hb hT hr => by
      have hm := List.getElem_mem hk
      have hm2 := List.getElem_mem hi
      have h8 := F.rows _ hm _ hm2
      have hp := F.parts
      exact becomesLetters_any _ a c T W2 (hr.later hb).reads (by omega) (fun z hz => by have := symsLet hok hk hi z hz; omega) hT)
    refine this.mono ?_
    rintro e w' ⟨T, rfl, h1, h2, h3, h4⟩
    exact ⟨by rw [productiveOf_is hok h1 h2 h3], h4⟩
  have B0 := (Below.refl w.heap.size w).alloc (Nat.le_refl _) (.cells #[.slice a0 P.length c0] 28)
  have hsb : (w.alloc (.cells #[.slice a0 P.length c0] 28)).heap.size = w.heap.size + 1 := by simp
  have HQ0 : Hid ((w.alloc (.cells #[.slice a0 P.length c0] 28)).cell? ⟨w.heap.size, 0, none⟩ = some (.slice a0 P.length c0)) := by show _ = _; simp
  have hTl := flagsOf_length (aliveL P)
  clear h0 hok
  generalize flagsOf (aliveL P) = T at *
  go_enter Tryd.func102, Tryd.ntmps102
  go_wp2_with (first | (refine wpList_allocB (w := w.alloc _) rfl 134 rfl 27 bt_flags ?_; rw [hsb]; intro w1 hB1 hb1 hs1; have q1 := (hb1.cell (p := ⟨w.heap.size, 0, none⟩) (by simp)).trans HQ0.out) | (go_at_call 112; refine (HX.out _ (B0.trans (hb1.mono (by omega)))).mono ?_; rintro e w2 ⟨rfl, hb2⟩; have hB2 := hB1.later hb2) | (refine wpList_storeB (w := w2) rfl 134 _ _ rfl (w.heap.size + 1) 0 134 _ T rfl rfl (at27 hTl) hB2 (by simp [hTl]) ?_; intro w3 hB3 hg3))
  have e5 : putB (List.replicate 27 false) 0 T = T := putB_whole (by simp [hTl])
  rw [e5] at hB3
  have b1 : Below w.heap.size w w1 := B0.trans (hb1.mono (by omega))
  have b2 : Below w.heap.size w w2 := b1.trans (hb2.mono b1.size)
  have b3 : Below w.heap.size w w3 := b2.grown hg3 b2.size (fun j hj => by cases hj; omega)
  exact bodyPost_ret (v := aggB T) (ret_cell 134 rfl rfl hB3 (at27 hTl)) rfl ⟨rfl, b3⟩
end Go.Proofs.YthnppodnjokaoaaDoor
namespace Go.Proofs.YthnppodnjokaoaaDoor
open Go.RowKit

/-- The parts that stand in a grammar are its own. -/
def SymsIn (P : List (List (List Int))) : Prop := ∀ alts ∈ P, ∀ row ∈ alts, ∀ z ∈ row, 100 ≤ z → z - 100 < P.length
theorem SymsIn.of {P : List (List (List Int))} (hok : gramOkB P = true) : SymsIn P := by
  intro alts h1 row h2 z h3 h4
  simp only [gramOkB, Bool.and_eq_true, List.all_eq_true, partOk, rowOk, decide_eq_true_eq] at hok
  have := symOk_true.1 (((hok.2 alts h1).2 row h2).2 z h3)
  omega
theorem all_steps {f : Nat → List Int} (h : ∀ i, f (i + 1) = f i ∨ (f i).length < (f (i + 1)).length) (i : Nat) : f i = f 0 ∨ (f 0).length < (f i).length := by
  induction i with
  | zero => exact .inl rfl
  | succ i ih =>
    rcases h i with h1 | h1
    · rw [h1]; exact ih
    · rcases ih with ih | ih
      · rw [ih] at h1; exact .inr h1
      · exact .inr (by omega)
theorem reachJ_step (R E : List Int) (j : Nat) : reachJ R E (j + 1) = reachJ R E j ∨ (reachJ R E j).length < (reachJ R E (j + 1)).length := by
  rw [reachJ]
  split
  · exact addL_same_or _ _
  · exact .inl rfl
theorem reachI_step (Q : List (List Int)) (E : List Int) (i : Nat) : reachI Q E (i + 1) = reachI Q E i ∨ (reachI Q E i).length < (reachI Q E (i + 1)).length := by
  rw [reachI]; exact all_steps (f := reachJ _ (reachI Q E i)) (reachJ_step _ _) _
theorem reachK_step (P : List (List (List Int))) (E : List Int) (k : Nat) : reachK P E (k + 1) = reachK P E k ∨ (reachK P E k).length < (reachK P E (k + 1)).length := by
  rw [reachK]
  split
  · exact all_steps (f := reachI _ (reachK P E k)) (reachI_step _ _) _
  · exact .inl rfl
theorem reachT_step (P : List (List (List Int))) (t : Nat) : reachT P (t + 1) = reachT P t ∨ (reachT P t).length < (reachT P (t + 1)).length := by
  rw [reachT]; exact all_steps (f := reachK P (reachT P t)) (reachK_step _ _) _
section
variable {P : List (List (List Int))} {S : List Int → Prop}
/-- What holds of the beginning and is kept where a part that may be reached is put in, holds at the end. -/
theorem reachT_keeps (h0 : S [0]) (hS : ∀ k (hk : k < P.length) i (hi : i < P[k].length) j (hj : j < P[k][i].length) (E : List Int), S E → (k : Int) ∈ E → 100 ≤ P[k][i][j] → S (addL E (P[k][i][j] - 100))) (t : Nat) : S (reachT P t) := by
  have sJ : ∀ k (hk : k < P.length) i (hi : i < P[k].length) E, S E → (k : Int) ∈ E → ∀ j, j ≤ P[k][i].length → S (reachJ P[k][i] E j) ∧ (k : Int) ∈ reachJ P[k][i] E j := by
    intro k hk i hi E hE hm j
    induction j with
    | zero => exact fun _ => ⟨hE, hm⟩
    | succ j ih =>
      intro hj
      obtain ⟨h1, h2⟩ := ih (by omega)
      by_cases g : 100 ≤ P[k][i][j]
      · rw [reachJ_yes (by omega) g]
        exact ⟨hS k hk i hi j (by omega) _ h1 h2 g, mem_addL.2 (.inr h2)⟩
      · rw [reachJ_no (by omega) g]; exact ⟨h1, h2⟩
  have sI : ∀ k (hk : k < P.length) E, S E → (k : Int) ∈ E → ∀ i, i ≤ P[k].length → S (reachI P[k] E i) ∧ (k : Int) ∈ reachI P[k] E i := by
    intro k hk E hE hm i
    induction i with
    | zero => exact fun _ => ⟨hE, hm⟩
    | succ i ih =>
      intro hi
      obtain ⟨h1, h2⟩ := ih (by omega)
      rw [reachI_next (by omega)]
      exact sJ k hk i (by omega) _ h1 h2 _ (Nat.le_refl _)
  have sK : ∀ E, S E → ∀ k, k ≤ P.length → S (reachK P E k) := by
    intro E hE k
    induction k with
    | zero => exact fun _ => hE
    | succ k ih =>
      intro hk
      have h1 := ih (by omega)
      cases g : hasL (reachK P E k) k
      · rw [reachK_no g]; exact h1
      · rw [reachK_yes (by omega) g]
        exact (sI k (by omega) _ h1 (by simpa [hasL] using g) _ (Nat.le_refl _)).1
  induction t with
  | zero => exact h0
  | succ t ih => rw [reachT]; exact sK _ ih _ (Nat.le_refl _)
end
theorem reachT_setB {P : List (List (List Int))} (h : SymsIn P) (hp : 0 < P.length) (t : Nat) : SetB (P.length : Int) (reachT P t) := by
  refine reachT_keeps (S := SetB (P.length : Int)) ⟨by simp, fun x hx => by simp at hx; subst hx; omega⟩ (fun k hk i hi j hj E hE _ g => hE.add (by omega) ?_) t
  exact h _ (List.getElem_mem hk) _ (List.getElem_mem hi) _ (List.getElem_mem hj) g
theorem reachT_sorted (P : List (List (List Int))) (t : Nat) : (reachT P t).Pairwise (· < ·) :=
  reachT_keeps (S := List.Pairwise (· < ·)) (by simp) (fun _ _ _ _ _ _ _ hE _ _ => pair_addL hE) t
theorem reachT_sound {P : List (List (List Int))} {S : Int → Prop} (h0 : S 0) (hS : ∀ k (hk : k < P.length) i (hi : i < P[k].length) j (hj : j < P[k][i].length), S k → 100 ≤ P[k][i][j] → S (P[k][i][j] - 100)) (t : Nat) : ∀ x ∈ reachT P t, S x :=
  reachT_keeps (S := fun E => ∀ x ∈ E, S x) (fun x hx => by simp at hx; subst hx; exact h0) (fun k hk i hi j hj E hE hm g x hx => by
    rcases mem_addL.1 hx with rfl | hx
    · exact hS k hk i hi j hj (hE _ hm) g
    · exact hE x hx) t
theorem reachT_zero (P : List (List (List Int))) (t : Nat) : (0 : Int) ∈ reachT P t :=
  reachT_keeps (S := fun E => (0 : Int) ∈ E) (by simp) (fun _ _ _ _ _ _ _ hE _ _ => mem_addL.2 (.inr hE)) t
theorem reachT_closed {P : List (List (List Int))} (h : SymsIn P) (hp : 0 < P.length) {k i j : Nat} (hk : k < P.length) (hi : i < P[k].length) (hj : j < P[k][i].length) (hm : (k : Int) ∈ reachT P (P.length + 1)) (g : 100 ≤ P[k][i][j]) : P[k][i][j] - 100 ∈ reachT P (P.length + 1) := by
  have fx : reachK P (reachT P (P.length + 1)) P.length = reachT P (P.length + 1) :=
    turns_fix (F := fun E => reachK P E P.length) (f := reachT P) (m := List.length) (fun t => rfl) (reachT_step P) (fun t => (reachT_setB h hp t).len)
  generalize reachT P (P.length + 1) = E at *
  have hK := steps_fix (f := reachK P E) (m := List.length) (reachK_step P E) fx
  have e1 : reachI P[k] E P[k].length = E := by
    have := reachK_yes (E := E) hk (by rw [hK k (by omega)]; exact hasL_yes hm)
    rw [hK (k + 1) (by omega), hK k (by omega)] at this
    exact this.symm
  have hI := steps_fix (f := reachI P[k] E) (m := List.length) (reachI_step P[k] E) e1
  have e2 : reachJ P[k][i] E P[k][i].length = E := by
    have := reachI_next (E := E) hi
    rw [hI (i + 1) (by omega), hI i (by omega)] at this
    exact this.symm
  have hJ := steps_fix (f := reachJ P[k][i] E) (m := List.length) (reachJ_step P[k][i] E) e2
  have e3 := hJ (j + 1) (by omega)
  have e4 : reachJ P[k][i] E j = E := hJ j (by omega)
  rw [reachJ_yes hj g, e4] at e3
  exact addL_fix e3
end Go.Proofs.YthnppodnjokaoaaDoor
namespace Go.Proofs.YthnppodnjokaoaaDoor
open Go.RowKit

/-- Part m stands in an alternative of part n. -/
def Edge (P : List (List (List Int))) (n m : Nat) : Prop := ∃ (hn : n < P.length) (i : Nat) (hi : i < P[n].length) (j : Nat) (hj : j < P[n][i].length), P[n][i][j] = 100 + (m : Int)
def leB (T T' : List Bool) : Prop := T'.length = T.length ∧ ∀ n, T.getD n false = true → T'.getD n false = true
theorem leB.refl (T : List Bool) : leB T T := ⟨rfl, fun _ h => h⟩
theorem leB.trans {A B C : List Bool} (h : leB A B) (g : leB B C) : leB A C := ⟨g.1.trans h.1, fun n hn => g.2 n (h.2 n hn)⟩
theorem leB.cnt : ∀ {T T' : List Bool}, leB T T' → cntB T ≤ cntB T'
  | [], [], _ => Nat.le_refl _
  | [], _ :: _, h => by have := h.1; simp at this
  | _ :: _, [], h => by have := h.1; simp at this
  | x :: xs, y :: ys, h => by
    have h1 : leB xs ys := ⟨by have := h.1; simpa using this, fun n hn => by have := h.2 (n + 1) (by simpa [List.getD] using hn); simpa [List.getD] using this⟩
    have h2 := h1.cnt
    have h3 := h.2 0
    simp only [cntB]
    cases x <;> cases y <;> simp_all <;> omega
/-- What the search from part k makes of the flags. -/
structure RPost (P : List (List (List Int))) (k : Nat) (T T' : List Bool) : Prop where
  up : leB T T'
  there : T'.getD k false = true
  closed : ∀ n, T'.getD n false = true → T.getD n false = false → ∀ m, Edge P n m → T'.getD m false = true
  sound : ∀ S : Nat → Prop, (∀ n m, S n → Edge P n m → S m) → S k → ∀ n, T'.getD n false = true → T.getD n false = true ∨ S n
/-- ..within the rows of part k, behind the first i and the first j symbols of the next one. -/
structure RJ (P : List (List (List Int))) (k : Nat) (T : List Bool) (i j : Nat) (T' : List Bool) : Prop where
  up : leB T T'
  closed : ∀ n, T'.getD n false = true → T.getD n false = false → ∀ m, Edge P n m → T'.getD m false = true
  sound : ∀ S : Nat → Prop, (∀ n m, S n → Edge P n m → S m) → S k → ∀ n, T'.getD n false = true → T.getD n false = true ∨ S n
  rows : ∀ (hk : k < P.length) i' (hi : i' < P[k].length) j' (hj : j' < P[k][i'].length), (i' < i ∨ (i' = i ∧ j' < j)) → ∀ m : Nat, P[k][i'][j'] = 100 + (m : Int) → T'.getD m false = true
theorem RPost.skip {P : List (List (List Int))} {k : Nat} {T : List Bool} (h : T.getD k false = true) : RPost P k T T :=
  ⟨leB.refl _, h, fun n h1 h2 => (by rw [h1] at h2; cases h2), fun _ _ _ n hn => .inl hn⟩
theorem RJ.start {P : List (List (List Int))} {k : Nat} {T : List Bool} : RJ P k T 0 0 T :=
  ⟨leB.refl _, fun n h1 h2 => (by rw [h1] at h2; cases h2), fun _ _ _ n hn => .inl hn, fun _ _ _ _ _ h => by omega⟩
theorem RJ.letter {P : List (List (List Int))} {k : Nat} {T T' : List Bool} {i j : Nat} (h : RJ P k T i j T') (hk : k < P.length) (hi : i < P[k].length) (hj : j < P[k][i].length) (g : P[k][i][j] ≤ 25) : RJ P k T i (j + 1) T' :=
  ⟨h.up, h.closed, h.sound, fun hk' i' hi' j' hj' ho m hm => by
    by_cases e : i' = i ∧ j' = j
    · obtain ⟨e1, e2⟩ := e; subst e1; subst e2; omega
    · exact h.rows hk' i' hi' j' hj' (by omega) m hm⟩
theorem RJ.call {P : List (List (List Int))} {k : Nat} {T T' T2 : List Bool} {i j m : Nat} (h : RJ P k T i j T') (hk : k < P.length) (hi : i < P[k].length) (hj : j < P[k][i].length) (g : P[k][i][j] = 100 + (m : Int)) (hp : RPost P m T' T2) : RJ P k T i (j + 1) T2 :=
  ⟨h.up.trans hp.up, fun n h1 h2 q hq => by
    by_cases e : T'.getD n false = true
    · exact hp.up.2 _ (h.closed n e h2 q hq)
    · exact hp.closed n h1 (by simpa using e) q hq, fun S hS hSk n hn => by
    have hm : S m := hS k m hSk ⟨hk, i, hi, j, hj, g⟩
    rcases hp.sound S hS hm n hn with h1 | h1
    · exact h.sound S hS hSk n h1
    · exact .inr h1, fun hk' i' hi' j' hj' ho q hq => by
    by_cases e : i' = i ∧ j' = j
    · obtain ⟨e1, e2⟩ := e; subst e1; subst e2
      have : q = m := by omega
      subst this; exact hp.there
    · exact hp.up.2 _ (h.rows hk' i' hi' j' hj' (by omega) q hq)⟩
theorem RJ.row {P : List (List (List Int))} {k : Nat} {T T' : List Bool} {i : Nat} {R : List Int} (h : RJ P k T i R.length T') (hk : k < P.length) (hi : i < P[k].length) (hR : P[k][i] = R) : RJ P k T (i + 1) 0 T' :=
  ⟨h.up, h.closed, h.sound, fun hk' i' hi' j' hj' ho m hm => by
    refine h.rows hk' i' hi' j' hj' ?_ m hm
    by_cases e : i' = i
    · subst e; rw [← hR]; exact .inr ⟨rfl, hj'⟩
    · exact .inl (by omega)⟩
theorem set_up {T : List Bool} {k : Nat} (hk : k < T.length) (n : Nat) : (T.set k true).getD n false = true ↔ n = k ∨ T.getD n false = true := by
  rw [getD_setB]
  by_cases e : n = k
  · simp [e, hk]
  · simp [e]
theorem RJ.done {P : List (List (List Int))} {k : Nat} {T T' : List Bool} (hk : k < P.length) (hl : k < T.length) (h : RJ P k (T.set k true) P[k].length 0 T') : RPost P k T T' := by
  have hkk : T'.getD k false = true := h.up.2 k ((set_up hl k).2 (.inl rfl))
  refine ⟨⟨by have := h.up.1; simpa using this, fun n hn => h.up.2 n ((set_up hl n).2 (.inr hn))⟩, hkk, fun n h1 h2 m hm => ?_, fun S hS hSk n hn => ?_⟩
  · by_cases e : n = k
    · subst e
      obtain ⟨hn, i, hi, j, hj, g⟩ := hm
      exact h.rows hn i hi j hj (.inl hi) m g
    · refine h.closed n h1 ?_ m hm
      rw [Bool.eq_false_iff]; intro h3
      rcases (set_up hl n).1 h3 with h3 | h3
      · exact e h3
      · rw [h2] at h3; cases h3
  · rcases h.sound S hS hSk n hn with h1 | h1
    · rcases (set_up hl n).1 h1 with h3 | h3
      · subst h3; exact .inr hSk
      · exact .inl h3
    · exact .inr h1
theorem RJ.cnt {P : List (List (List Int))} {k : Nat} {T T' : List Bool} {i j d : Nat} (hl : k < T.length) (hT : T.getD k false = false) (hd : 27 ≤ cntB T + (d + 1)) (h : RJ P k (T.set k true) i j T') : 27 ≤ cntB T' + d := by
  have e : T[k] = false := by simpa [List.getD, hl] using hT
  have h1 := cntB_set hl e
  have h2 := h.up.cnt
  omega
theorem RJ.len {P : List (List (List Int))} {k : Nat} {T T' : List Bool} {i j : Nat} (h : RJ P k (T.set k true) i j T') : T'.length = T.length := by
  have := h.up.1; simpa using this
theorem all_up : ∀ {T : List Bool}, T.length ≤ cntB T → ∀ {k : Nat}, k < T.length → T.getD k false = true
  | [], _, _, hk => by simp at hk
  | x :: xs, h, k, hk => by
    have h1 := cntB_le xs
    simp only [cntB, List.length_cons] at h
    cases x
    · simp at h; omega
    · cases k with
      | zero => rfl
      | succ k =>
        have := all_up (T := xs) (by simp at h; omega) (k := k) (by simpa using hk)
        simpa [List.getD] using this
theorem reachL_mem {P : List (List (List Int))} (hok : gramOkB P = true) {x : Int} (h : x ∈ reachL P) : 0 ≤ x ∧ x < 20 := by
  have F := Fits.of hok
  have hp := F.parts
  have h0 : 0 < P.length := by
    simp only [gramOkB, Bool.and_eq_true] at hok
    have := inB_true.1 hok.1
    omega
  have := (reachT_setB (SymsIn.of hok) h0 (P.length + 1)).lt x h
  omega
theorem reachOf_is {P : List (List (List Int))} (hok : gramOkB P = true) {T : List Bool} (hl : T.length = 27) (h : RPost P 0 (List.replicate 27 false) T) : T = flagsOf (reachL P) := by
  have F := Fits.of hok
  have h0 : 0 < P.length := by
    simp only [gramOkB, Bool.and_eq_true] at hok
    have := inB_true.1 hok.1
    omega
  have sound : ∀ n : Nat, T.getD n false = true → (n : Int) ∈ reachL P := by
    intro n hn
    have := h.sound (fun n => (n : Int) ∈ reachL P) (fun n m h1 h2 => by
      obtain ⟨hk, i, hi, j, hj, g⟩ := h2
      have := reachT_closed (SymsIn.of hok) h0 hk hi hj h1 (by omega)
      rwa [g, show 100 + (m : Int) - 100 = m by omega] at this) (reachT_zero P _) n hn
    rcases this with h1 | h1
    · rw [rep_getD] at h1; cases h1
    · exact h1
  have compl : ∀ x ∈ reachL P, ∃ n : Nat, x = n ∧ T.getD n false = true := by
    refine reachT_sound (S := fun x => ∃ n : Nat, x = n ∧ T.getD n false = true) ⟨0, rfl, h.there⟩ (fun k hk i hi j hj hS g => ?_) _
    obtain ⟨n, hn, hT⟩ := hS
    have e : n = k := by omega
    subst e
    refine ⟨(P[n][i][j] - 100).toNat, by omega, h.closed n hT (rep_getD _ _) _ ⟨hk, i, hi, j, hj, by omega⟩⟩
  apply list_ext_getD (by rw [hl, flagsOf_length])
  intro n hn
  rw [flagsOf_get _ (by omega), Bool.eq_iff_iff]
  constructor
  · intro h; exact hasL_yes (sound n h)
  · intro h
    obtain ⟨m, hm, h2⟩ := compl n (by simpa [hasL] using h)
    rwa [show n = m by omega]
end Go.Proofs.YthnppodnjokaoaaDoor
namespace Go.Proofs.YthnppodnjokaoaaDoor
open Go.RowKit

/-- The first k flags of cs are put to those of bs from off on. -/
def joinTo (bs : List Bool) (off : Nat) (cs : List Bool) : Nat → List Bool
  | 0 => bs
  | k + 1 => (joinTo bs off cs k).set (off + k) ((joinTo bs off cs k).getD (off + k) false || cs.getD k false)
def joinB (bs : List Bool) (off : Nat) (cs : List Bool) : List Bool := joinTo bs off cs 27
theorem joinTo_length (bs : List Bool) (off : Nat) (cs : List Bool) (k : Nat) : (joinTo bs off cs k).length = bs.length := by
  induction k with
  | zero => rfl
  | succ k ih => rw [joinTo, List.length_set]; exact ih
theorem joinB_length (bs : List Bool) (off : Nat) (cs : List Bool) : (joinB bs off cs).length = bs.length := joinTo_length _ _ _ _
theorem joinTo_get (bs : List Bool) (off : Nat) (cs : List Bool) (k : Nat) (h : off + k ≤ bs.length) (i : Nat) : (joinTo bs off cs k).getD i false = (bs.getD i false || (decide (off ≤ i ∧ i < off + k) && cs.getD (i - off) false)) := by
  induction k with
  | zero => simp [joinTo]; omega
  | succ k ih =>
    have ih := ih (by omega)
    rw [joinTo]
    by_cases e : i = off + k
    · subst e
      have hl : off + k < (joinTo bs off cs k).length := by rw [joinTo_length]; omega
      have e1 : ((joinTo bs off cs k).set (off + k) ((joinTo bs off cs k).getD (off + k) false || cs.getD k false)).getD (off + k) false = ((joinTo bs off cs k).getD (off + k) false || cs.getD k false) := by
        generalize ((joinTo bs off cs k).getD (off + k) false || cs.getD k false) = v
        simp [List.getD, hl]
      rw [e1, ih, show off + k - off = k by omega]
      simp
    · have e1 : ∀ v, ((joinTo bs off cs k).set (off + k) v).getD i false = (joinTo bs off cs k).getD i false := by
        intro v
        simp [List.getD, Ne.symm e]
      rw [e1, ih]
      congr 2
      rw [Bool.eq_iff_iff]; simp; omega
theorem joinB_get {bs : List Bool} {off : Nat} {cs : List Bool} (h : off + 27 ≤ bs.length) (i : Nat) : (joinB bs off cs).getD i false = (bs.getD i false || (decide (off ≤ i ∧ i < off + 27) && cs.getD (i - off) false)) := joinTo_get bs off cs 27 h i

set_option maxHeartbeats 2000000 in
set_option maxRecDepth 100000 in
theorem join_any (b off : Nat) (t : TypeId) (bs cs : List Bool) (w : World) (hB : Bits w b t bs) (hl : off + 27 ≤ bs.length) (hc : cs.length = 27) :
    Calls Tryd.prog 121 #[.pointer (some ⟨b, off, none⟩), aggB cs] w fun e w' => e = .returned (.tuple #[]) ∧ Bits w' b t (joinB bs off cs) ∧ w.grownBy w' (some b) := by
  go_enter Tryd.func121, Tryd.ntmps121
  go_wp2_with (first | (refine wpList_boxB rfl 134 _ rfl cs rfl ?_; intro w1 hB1 hb1 hs1) | (refine wpList_loadW rfl 134 _ rfl w.heap.size 134 cs rfl (by rw [hc]; exact bt_flags) hB1 ?_))
  have HB0 : Hid (Bits w1 b t (joinTo bs off cs 0)) := hB.later hb1
  have HG0 : Hid (w.grownBy w1 (some b)) := grownBy_of_below hb1 _
  have HL : Hid (off + 27 ≤ bs.length) := hl
  clear hB hB1 hb1 hs1 hl
  go_loopw [7] (fun s7 wr => ∃ k : Nat, k ≤ 27 ∧ s7 = .int .i64 k ∧ Bits wr b t (joinTo bs off cs k) ∧ w.grownBy wr (some b)) (fun s7 _ => 27 - (intOf s7).toNat)
  case atStart => exact ⟨0, Nat.zero_le _, rfl, HB0.out, HG0.out⟩
  case round =>
    obtain ⟨k, hk, rfl, hBk, hgk⟩ := hrel
    clear HB0 HG0
    by_cases hlt : k < 27
    · have q0 := hBk.cell (n := off + k) (by rw [joinTo_length]; have := HL.out; omega)
      have f0 := hBk.frozen (off + k)
      have hk0 : (0 : Int) ≤ (k : Int) := by omega
      have hk1 : (k : Int) < 27 := by omega
      have HN : Hid (joinTo bs off cs (k + 1) = (joinTo bs off cs k).set (off + k) ((joinTo bs off cs k).getD (off + k) false || cs.getD k false)) := rfl
      have HC : Hid (cs.length = 27) := hc
      have HB : Hid (Bits wr b t (joinTo bs off cs k)) := hBk
      generalize joinTo bs off cs k = Tk at *
      generalize Tk.getD (off + k) false = x at *
      clear hc hBk
      obtain ⟨y, Hy⟩ : ∃ y, Hid (cs.getD k false = y) := ⟨_, rfl⟩
      rw [Hy.out] at HN
      go_wp2_with (refine wpList_indexB rfl 134 4 _ _ rfl cs k rfl rfl (by rw [HC.out]; exact u_flags) u_bool bool_size (by rw [HC.out]; exact hlt) ?_; rw [Hy.out])
      have key : ∀ (v : Bool) (W : World), (x || y) = v → Below wr.heap.size (wr.setCell ⟨b, off + k, none⟩ (.bool v)) W → Bits W b t (joinTo bs off cs (k + 1)) ∧ w.grownBy W (some b) := by
        intro v W hv hW
        rw [HN.out, hv]
        have hlt2 := HB.out.lt
        exact ⟨(HB.out.set (off + k) v).below hW hlt2, grownBy_trans (grownBy_trans hgk (setCell_grown wr b (off + k) _)) (grownBy_of_below (by simpa using hW) _)⟩
      have HK : Hid (∀ (v : Bool) (W : World), (x || y) = v → Below wr.heap.size (wr.setCell ⟨b, off + k, none⟩ (.bool v)) W → Bits W b t (joinTo bs off cs (k + 1)) ∧ w.grownBy W (some b)) := key
      clear key HN Hy HB
      cases x
      · have HK1 : Hid (∀ W : World, Below wr.heap.size (wr.setCell ⟨b, off + k, none⟩ (.bool y)) W → Bits W b t (joinTo bs off cs (k + 1)) ∧ w.grownBy W (some b)) := fun W hW => HK.out y W (by simp) hW
        clear HK
        go_region
        all_goals
          go_wp2
          go_roundw
          case rel => exact ⟨k + 1, by omega, by go_num, (HK1.out _ (by first | exact Below.refl _ _ | exact Below.drew (Below.refl _ _))).1, (HK1.out _ (by first | exact Below.refl _ _ | exact Below.drew (Below.refl _ _))).2⟩
          case measure => simp [intOf]; omega
      · have HK1 : Hid (∀ W : World, Below wr.heap.size (wr.setCell ⟨b, off + k, none⟩ (.bool true)) W → Bits W b t (joinTo bs off cs (k + 1)) ∧ w.grownBy W (some b)) := fun W hW => HK.out true W (by simp) hW
        clear HK
        go_region
        all_goals
          go_wp2
          go_roundw
          case rel => exact ⟨k + 1, by omega, by go_num, (HK1.out _ (by first | exact Below.refl _ _ | exact Below.drew (Below.refl _ _))).1, (HK1.out _ (by first | exact Below.refl _ _ | exact Below.drew (Below.refl _ _))).2⟩
          case measure => simp [intOf]; omega
    · have e : k = 27 := by omega
      subst e
      go_wp2
      go_end0
      exact ⟨rfl, hBk, hgk⟩
end Go.Proofs.YthnppodnjokaoaaDoor
namespace Go.Proofs.YthnppodnjokaoaaDoor
open Go.RowKit

theorem symsR {P : List (List (List Int))} (hok : gramOkB P = true) {k : Nat} (hk : k < P.length) {i : Nat} (hi : i < P[k].length) : ∀ z ∈ P[k][i], (0 ≤ z ∧ z ≤ 25) ∨ (100 ≤ z ∧ z < 100 + P.length) := by
  intro z h3
  simp only [gramOkB, Bool.and_eq_true, List.all_eq_true, partOk, rowOk, decide_eq_true_eq] at hok
  exact symOk_true.1 (((hok.2 _ (List.getElem_mem hk)).2 _ (List.getElem_mem hi)).2 z h3)
theorem grown_below {w0 w w' : World} {b : Nat} (h : Below w0.heap.size w0 w) (hb : w0.heap.size ≤ b) (hg : w.grownBy w' (some b)) : Below w0.heap.size w0 w' := h.grown hg h.size (fun j hj => by cases hj; exact hb)
theorem grown_cell {w w' : World} {b n o : Nat} (hg : w.grownBy w' (some b)) (hn : n < w.heap.size) (hne : n ≠ b) : w'.cell? ⟨n, o, none⟩ = w.cell? ⟨n, o, none⟩ := World.cell?_of_block (w := w) (w' := w') (a := ⟨n, o, none⟩) (hg.block n hn (by intro h; cases h; exact hne rfl))

set_option maxHeartbeats 4000000 in
set_option maxRecDepth 100000 in
theorem reach_go (P : List (List (List Int))) (a0 : Option Addr) (c0 : Nat) (w0 : World) (h0 : RD w0 (.slice a0 P.length c0) (slD (Lay.list (Lay.list Lay.int)) P)) (hok : gramOkB P = true) (b : Nat) (t : TypeId) (hb0 : w0.heap.size ≤ b) : ∀ (d k : Nat) (T : List Bool) (w : World), k < P.length → Bits w b t T → T.length = 27 → 27 ≤ cntB T + d → Below w0.heap.size w0 w →
    Calls Tryd.prog 114 #[.agg #[.slice a0 P.length c0], .int .i64 (k : Int), .pointer (some ⟨b, 0, none⟩)] w fun e w' => e = .returned (.tuple #[]) ∧ ∃ T', RPost P k T T' ∧ T'.length = 27 ∧ Bits w' b t T' ∧ w.grownBy w' (some b) := by
  intro d
  induction d with
  | zero =>
    intro k T w hk hB hT hd hw
    have hp := (Fits.of hok).parts
    have hup : T.getD k false = true := all_up (by omega) (by omega)
    have q2 := hB.cell (n := k) (by omega)
    rw [hup] at q2
    have HP : Hid (RPost P k T T) := RPost.skip hup
    have hlt := hB.lt
    have hk0 : (0 : Int) ≤ (k : Int) := by omega
    have hk1 : (k : Int) < 27 := by omega
    have hg := grownBy_of_below ((Below.refl w.heap.size w).alloc (Nat.le_refl _) (.cells #[.slice a0 P.length c0] 28)) (some b)
    have hB2 := hB.later ((Below.refl w.heap.size w).alloc (Nat.le_refl _) (.cells #[.slice a0 P.length c0] 28))
    clear hup h0 hok hd hB
    go_enter Tryd.func114, Tryd.ntmps114
    go_wp2
    exact bodyPost_ret (results_none rfl _ _ _) rfl ⟨rfl, T, HP.out, hT, hB2, hg⟩
  | succ d ih =>
    intro k T w hk hB hT hd hw
    have F := Fits.of hok
    have hp := F.parts
    have hlt := hB.lt
    have hk0 : (0 : Int) ≤ (k : Int) := by omega
    have hk1 : (k : Int) < 27 := by omega
    have bA := (Below.refl w.heap.size w).alloc (Nat.le_refl _) (.cells #[.slice a0 P.length c0] 28)
    have hg := grownBy_of_below bA (some b)
    have hB2 := hB.later bA
    have q2 := hB.cell (n := k) (by omega)
    have f2 := hB.frozen k
    by_cases hup : T.getD k false = true
    · rw [hup] at q2
      have HP : Hid (RPost P k T T) := RPost.skip hup
      clear hup h0 hok hd hB ih F
      go_enter Tryd.func114, Tryd.ntmps114
      go_wp2
      exact bodyPost_ret (results_none rfl _ _ _) rfl ⟨rfl, T, HP.out, hT, hB2, hg⟩
    · have hdn : T.getD k false = false := by simpa using hup
      rw [hdn] at q2
      have HIH : Hid (∀ (m : Nat) (T : List Bool) (w : World), m < P.length → Bits w b t T → T.length = 27 → 27 ≤ cntB T + d → Below w0.heap.size w0 w →
        Calls Tryd.prog 114 #[.agg #[.slice a0 P.length c0], .int .i64 (m : Int), .pointer (some ⟨b, 0, none⟩)] w fun e w' => e = .returned (.tuple #[]) ∧ ∃ T', RPost P m T T' ∧ T'.length = 27 ∧ Bits w' b t T' ∧ w.grownBy w' (some b)) := ih
      have HRJ : Hid (∀ i j T', RJ P k (T.set k true) i j T' → T'.length = 27 ∧ 27 ≤ cntB T' + d) := fun i j T' h => ⟨h.len.trans hT, RJ.cnt (by omega) hdn hd h⟩
      have HDone : Hid (∀ T', RJ P k (T.set k true) P[k].length 0 T' → RPost P k T T') := fun T' h => RJ.done hk (by omega) h
      have bS := (Below.refl (w.setCell ⟨b, k, none⟩ (.bool true)).heap.size (w.setCell ⟨b, k, none⟩ (.bool true))).alloc (Nat.le_refl _) (.cells #[.slice a0 P.length c0] 28)
      have hB3 := (hB.set k true).later bS
      have hg3 : w.grownBy ((w.setCell ⟨b, k, none⟩ (.bool true)).alloc (.cells #[.slice a0 P.length c0] 28)) (some b) := grownBy_trans (setCell_grown w b k _) (grownBy_of_below bS _)
      have hc3 : ((w.setCell ⟨b, k, none⟩ (.bool true)).alloc (.cells #[.slice a0 P.length c0] 28)).cell? ⟨w.heap.size, 0, none⟩ = some (.slice a0 P.length c0) := by
        have key : ∀ W : World, W.heap.size = w.heap.size → (W.alloc (.cells #[.slice a0 P.length c0] 28)).cell? ⟨w.heap.size, 0, none⟩ = some (.slice a0 P.length c0) := fun W h => by rw [← h]; simp
        exact key _ (World.size_setCell w _ _)
      have hs3 : w.heap.size < ((w.setCell ⟨b, k, none⟩ (.bool true)).alloc (.cells #[.slice a0 P.length c0] 28)).heap.size := by simp
      obtain ⟨b1, o1, ea0, hb1, a1, c1, q0', r1⟩ := h0.listAt hk
      have HR1 : Hid (RD w0 (.slice a1 P[k].length c1) (slD (Lay.list Lay.int) P[k])) := r1
      have hQ8 := F.alts _ (List.getElem_mem hk)
      have hw3 : Below w0.heap.size w0 ((w.setCell ⟨b, k, none⟩ (.bool true)).alloc (.cells #[.slice a0 P.length c0] 28)) := grown_below hw hb0 hg3
      have q0 := (hw.cell (p := ⟨b1, o1 + k, none⟩) hb1).trans q0'
      have hbb : b1 ≠ b := by omega
      have hb1w : b1 < w.heap.size := Nat.lt_of_lt_of_le hb1 hw.size
      have HB3 : Hid (Bits ((w.setCell ⟨b, k, none⟩ (.bool true)).alloc (.cells #[.slice a0 P.length c0] 28)) b t (T.set k true)) := hB3
      have HG3 : Hid (w.grownBy ((w.setCell ⟨b, k, none⟩ (.bool true)).alloc (.cells #[.slice a0 P.length c0] 28)) (some b)) := hg3
      have HW3 : Hid (Below w0.heap.size w0 ((w.setCell ⟨b, k, none⟩ (.bool true)).alloc (.cells #[.slice a0 P.length c0] 28))) := hw3
      have hneb : w.heap.size ≠ b := by omega
      have HQr : Hid (∀ i (hi : i < P[k].length), P[k][i].length ≤ 8 ∧ ∀ z ∈ P[k][i], (0 ≤ z ∧ z ≤ 25) ∨ (100 ≤ z ∧ z < 100 + P.length)) := fun i hi => ⟨F.rows _ (List.getElem_mem hk) _ (List.getElem_mem hi), symsR hok hk hi⟩
      have HLet : Hid (∀ i (hi : i < P[k].length) j (hj : j < P[k][i].length) T', RJ P k (T.set k true) i j T' → P[k][i][j] ≤ 25 → RJ P k (T.set k true) i (j + 1) T') := fun i hi j hj T' h g => h.letter hk hi hj g
      have HCall : Hid (∀ i (hi : i < P[k].length) j (hj : j < P[k][i].length) T' (m : Nat) T2, RJ P k (T.set k true) i j T' → P[k][i][j] = 100 + (m : Int) → RPost P m T' T2 → RJ P k (T.set k true) i (j + 1) T2) := fun i hi j hj T' m T2 h g hp => h.call hk hi hj g hp
      have HRow : Hid (∀ i (hi : i < P[k].length) T', RJ P k (T.set k true) i P[k][i].length T' → RJ P k (T.set k true) (i + 1) 0 T') := fun i hi T' h => h.row hk hi rfl
      have HRJ0 : Hid (RJ P k (T.set k true) 0 0 (T.set k true)) := RJ.start
      have HPl : Hid (P.length ≤ 20) := hp
      subst ea0
      clear bS hup hdn h0 hok hd hB ih F r1 q0' hB3 hg3 hw3 hb1 hg hB2 bA hT hw
      generalize T.set k true = T1 at *
      generalize P[k] = Q at *
      go_enter Tryd.func114, Tryd.ntmps114
      go_wp2
      generalize (w.setCell ⟨b, k, none⟩ (.bool true)).alloc (.cells #[.slice (some ⟨b1, o1, none⟩) P.length c0] 28) = w3 at *
      have HW : Hid (∀ W : World, w3.grownBy W (some b) → W.cell? ⟨w.heap.size, 0, none⟩ = some (.slice (some ⟨b1, o1, none⟩) P.length c0) ∧ Below w0.heap.size w0 W ∧ w.grownBy W (some b)) := fun W hW => ⟨(grown_cell hW hs3 hneb).trans hc3, grown_below HW3.out hb0 hW, grownBy_trans HG3.out hW⟩
      clear hc3 hs3 HG3 HW3 q0 q2 f2 hbb hb1w hneb hlt
      go_loopw [25] (fun s wr => ∃ (i : Nat) (T2 : List Bool), i ≤ Q.length ∧ s = .int .i64 i ∧ Hid (RJ P k T1 i 0 T2) ∧ Bits wr b t T2 ∧ w3.grownBy wr (some b)) (fun s _ => Q.length - (intOf s).toNat)
      case atStart => exact ⟨0, T1, Nat.zero_le _, rfl, HRJ0, HB3.out, World.grownBy.refl _ _⟩
      case round =>
        obtain ⟨i, T2, hi, rfl, HJ, hBi, hgi⟩ := hrel
        clear HRJ0 HB3
        by_cases hli : i < Q.length
        · obtain ⟨b2, o2, ea1, hb2, a2, c2, q1', r2⟩ := HR1.out.listAt hli
          have q1 := ((HW.out wr hgi).2.1.cell (p := ⟨b2, o2 + i, none⟩) hb2).trans q1'
          subst ea1
          have hR8 := (HQr.out i hli).1
          have HRs : Hid (∀ z ∈ Q[i], (0 ≤ z ∧ z ≤ 25) ∨ (100 ≤ z ∧ z < 100 + P.length)) := (HQr.out i hli).2
          have HR2 : Hid (Reads w0 a2 Q[i]) := r2.reads
          have HLet2 : Hid (∀ j (hj : j < Q[i].length) T', RJ P k T1 i j T' → Q[i][j] ≤ 25 → RJ P k T1 i (j + 1) T') := HLet.out i hli
          have HCall2 : Hid (∀ j (hj : j < Q[i].length) T' (m : Nat) T2, RJ P k T1 i j T' → Q[i][j] = 100 + (m : Int) → RPost P m T' T2 → RJ P k T1 i (j + 1) T2) := HCall.out i hli
          have HRow2 : Hid (∀ T', RJ P k T1 i Q[i].length T' → RJ P k T1 (i + 1) 0 T') := HRow.out i hli
          clear r2 q1' hb2
          generalize Q[i] = R at *
          go_wp2
          clear q1
          go_loopw [31] (fun s wr => ∃ (j : Nat) (T2 : List Bool), j ≤ R.length ∧ s = .int .i64 j ∧ Hid (RJ P k T1 i j T2) ∧ Bits wr b t T2 ∧ w3.grownBy wr (some b)) (fun s _ => R.length - (intOf s).toNat)
          case atStart => exact ⟨0, T2, Nat.zero_le _, rfl, HJ, hBi, hgi⟩
          case round =>
            clear HJ hBi hgi
            obtain ⟨j, T3, hj, rfl, HJ, hBi, hgi⟩ := hrel
            by_cases hlj : j < R.length
            · obtain ⟨g, off, rfl, hgl, hc⟩ := (HR2.out.below (HW.out wr hgi).2.1).at hlj
              have q1 := hc j hlj
              rw [List.getD_eq_getElem?_getD, List.getElem?_eq_getElem hlj, Option.getD_some] at q1
              have hzr := HRs.out _ (List.getElem_mem hlj)
              have HL3 : Hid (R[j] ≤ 25 → RJ P k T1 i (j + 1) T3) := fun h => HLet2.out j hlj T3 HJ.out h
              have HC3 : Hid (∀ (m : Nat) T4, R[j] = 100 + (m : Int) → RPost P m T3 T4 → RJ P k T1 i (j + 1) T4) := fun m T4 h1 h2 => HCall2.out j hlj T3 m T4 HJ.out h1 h2
              clear hc
              generalize R[j] = z at *
              by_cases hlet : z ≤ 25
              · have hin : inB z 0 25 = true := inB_true.2 (by omega)
                have X : Hid (∀ W : World, Calls Tryd.prog 79 #[.int .i64 z] W fun e w' => e = .returned (.bool true) ∧ w' = W) := fun W => by have := isLetter_any z W; rwa [hin] at this
                have HF : Hid (RJ P k T1 i (j + 1) T3) := HL3.out hlet
                clear hin HL3 HC3
                go_wp2_with (go_at_call 79; refine (X.out _).mono ?_; rintro e w' ⟨rfl, hw'⟩; have hw2 := hw'.symm; clear hw'; subst hw2)
                go_roundw
                case rel => exact ⟨j + 1, T3, by omega, by go_num, HF, hBi, hgi⟩
                case measure => simp [intOf]; omega
              · have hin : inB z 0 25 = false := inB_false.2 (by omega)
                have X : Hid (∀ W : World, Calls Tryd.prog 79 #[.int .i64 z] W fun e w' => e = .returned (.bool false) ∧ w' = W) := fun W => by have := isLetter_any z W; rwa [hin] at this
                obtain ⟨m, hm⟩ : ∃ m : Nat, z = 100 + (m : Int) := ⟨(z - 100).toNat, by omega⟩
                subst hm
                have HC4 : Hid (∀ T4, RPost P m T3 T4 → RJ P k T1 i (j + 1) T4) := fun T4 h => HC3.out m T4 rfl h
                have hq := (HW.out wr hgi).1
                have hml : m < P.length := by omega
                have Y : Hid (Calls Tryd.prog 114 #[.agg #[.slice (some ⟨b1, o1, none⟩) P.length c0], .int .i64 (m : Int), .pointer (some ⟨b, 0, none⟩)] wr fun e w' => e = .returned (.tuple #[]) ∧ ∃ T', RPost P m T3 T' ∧ T'.length = 27 ∧ Bits w' b t T' ∧ wr.grownBy w' (some b)) := HIH.out m T3 wr hml hBi (HRJ.out _ _ _ HJ.out).1 (HRJ.out _ _ _ HJ.out).2 (HW.out wr hgi).2.1
                have e1 : 100 + (m : Int) - 100 = m := by omega
                clear hin HL3 HC3 hlet hzr
                go_wp2_with (first | (go_at_call 79; refine (X.out _).mono ?_; rintro e w' ⟨rfl, hw'⟩; have hw2 := hw'.symm; clear hw'; subst hw2) | (go_at_call 114; refine Y.out.mono ?_; rintro e w5 ⟨rfl, T4, hP4, hl4, hB4, hg4⟩))
                go_roundw
                case rel => exact ⟨j + 1, T4, by omega, by go_num, HC4.out T4 hP4, hB4, grownBy_trans hgi hg4⟩
                case measure => simp [intOf]; omega
            · have e : j = R.length := by omega
              subst e
              have HF : Hid (RJ P k T1 (i + 1) 0 T3) := HRow2.out T3 HJ.out
              go_wp2
              go_roundw
              case rel => exact ⟨i + 1, T3, by omega, by go_num, HF, hBi, hgi⟩
              case measure => simp [intOf]; omega
        · have e : i = Q.length := by omega
          subst e
          have HF : Hid (RPost P k T T2) := HDone.out T2 HJ.out
          have hl2 := (HRJ.out _ _ _ HJ.out).1
          have hgw := (HW.out wr hgi).2.2
          go_wp2
          go_end0
          exact ⟨rfl, T2, HF.out, hl2, hBi, hgw⟩
end Go.Proofs.YthnppodnjokaoaaDoor
