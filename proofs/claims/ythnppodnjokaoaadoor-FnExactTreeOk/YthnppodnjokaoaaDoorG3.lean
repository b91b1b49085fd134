/-
  Contracts and plain mathematics, joined: GramMath, SpecIn, SpecSame, Append1, AppendO, SetMath, SetHas, SetAdd, SetJoin. No statement is proved here.
-/
import Derived.Test.YthnppodnjokaoaaDoorG2
import Derived.Test.YthnppodnjokaoaaDoorChecked
import Derived.BigQuiet
import Derived.Deep.QuietTactic
namespace Go.Proofs.YthnppodnjokaoaaDoor
open Go.RowKit

/-- From lo to hi. -/
def inB (x lo hi : Int) : Bool := decide (lo ≤ x ∧ x ≤ hi)
theorem inB_true {x lo hi : Int} : inB x lo hi = true ↔ lo ≤ x ∧ x ≤ hi := by simp [inB]
theorem inB_false {x lo hi : Int} : inB x lo hi = false ↔ ¬ (lo ≤ x ∧ x ≤ hi) := by simp [inB]
/-- A symbol of a grammar of n parts. -/
def symOk (n : Nat) (x : Int) : Bool := inB x 0 25 || inB x 100 (100 + n - 1)
def rowOk (n : Nat) (row : List Int) : Bool := decide (row.length ≤ 8) && row.all (symOk n)
def partOk (n : Nat) (alts : List (List Int)) : Bool := inB alts.length 1 8 && alts.all (rowOk n)
def gramOkB (parts : List (List (List Int))) : Bool := inB parts.length 1 20 && parts.all (partOk parts.length)

section
variable {α : Type} {p : α → Bool} {xs : List α} {k : Nat}
theorem all_step (h : (xs.take k).all p = true) (hk : k < xs.length) (g : p xs[k] = true) : (xs.take (k + 1)).all p = true := by
  rw [List.take_succ_eq_append_getElem hk, List.all_append, h]; simp [g]
theorem all_end (h : (xs.take k).all p = true) (hk : ¬ k < xs.length) : xs.all p = true := by
  rwa [List.take_of_length_le (by omega)] at h
theorem all_no (hk : k < xs.length) (g : p xs[k] = false) : xs.all p = false := by
  simp only [List.all_eq_false]; exact ⟨xs[k], List.getElem_mem hk, by simp [g]⟩
end
theorem symOk_true {n : Nat} {x : Int} : symOk n x = true ↔ (0 ≤ x ∧ x ≤ 25) ∨ (100 ≤ x ∧ x < 100 + n) := by
  simp only [symOk, Bool.or_eq_true, inB_true]; omega
theorem symOk_false {n : Nat} {x : Int} : symOk n x = false ↔ ¬ ((0 ≤ x ∧ x ≤ 25) ∨ (100 ≤ x ∧ x < 100 + n)) := by
  rw [← symOk_true]; simp
theorem rowOk_long {n : Nat} {row : List Int} (h : ¬ row.length ≤ 8) : rowOk n row = false := by simp [rowOk, h]
theorem rowOk_no {n : Nat} {row : List Int} (h : row.all (symOk n) = false) : rowOk n row = false := by simp [rowOk, h]
theorem rowOk_yes {n : Nat} {row : List Int} (h : row.length ≤ 8) (g : row.all (symOk n) = true) : rowOk n row = true := by simp [rowOk, h, g]
theorem partOk_many {n : Nat} {alts : List (List Int)} (h : inB alts.length 1 8 = false) : partOk n alts = false := by simp [partOk, h]
theorem partOk_no {n : Nat} {alts : List (List Int)} (h : alts.all (rowOk n) = false) : partOk n alts = false := by simp [partOk, h]
theorem partOk_yes {n : Nat} {alts : List (List Int)} (h : inB alts.length 1 8 = true) (g : alts.all (rowOk n) = true) : partOk n alts = true := by simp [partOk, h, g]
theorem gramOkB_many {parts : List (List (List Int))} (h : inB parts.length 1 20 = false) : gramOkB parts = false := by simp [gramOkB, h]
theorem gramOkB_no {parts : List (List (List Int))} (h : parts.all (partOk parts.length) = false) : gramOkB parts = false := by simp [gramOkB, h]
theorem gramOkB_yes {parts : List (List (List Int))} (h : inB parts.length 1 20 = true) (g : parts.all (partOk parts.length) = true) : gramOkB parts = true := by simp [gramOkB, h, g]
end Go.Proofs.YthnppodnjokaoaaDoor
namespace Go.Proofs.YthnppodnjokaoaaDoor
open Go.RowKit

theorem l1In_any (x lo hi : Int) (w : World) : Calls Tryd.prog 41 #[.int .i64 x, .int .i64 lo, .int .i64 hi] w fun e w' => e = .returned (.bool (inB x lo hi)) ∧ w' = w := by
  by_cases h1 : lo ≤ x
  · by_cases h2 : x ≤ hi
    · go_enter Tryd.func41, Tryd.ntmps41
      go_wp2
      go_ret
      exact ⟨ret_bool (by simp [inB, h1, h2]), rfl⟩
    · go_enter Tryd.func41, Tryd.ntmps41
      go_wp2
      go_ret
      exact ⟨ret_bool (by simp [inB, h1, h2]), rfl⟩
  · go_enter Tryd.func41, Tryd.ntmps41
    go_wp2
    go_ret
    exact ⟨ret_bool (by simp [inB]; omega), rfl⟩

end Go.Proofs.YthnppodnjokaoaaDoor
namespace Go.Proofs.YthnppodnjokaoaaDoor
open Go.RowKit

set_option maxHeartbeats 1000000 in
set_option maxRecDepth 100000 in
theorem l1Same_any (xs ys : List Int) (ax ay : Option Addr) (cx cy : Nat) (w : World) (hx : Reads w ax xs) (hy : Reads w ay ys) (hl : xs.length ≤ 1048576) :
    Calls Tryd.prog 57 #[.slice ax xs.length cx, .slice ay ys.length cy] w fun e w' => e = .returned (.bool (decide (xs = ys))) ∧ Below w.heap.size w w' := by
  have HX : Hid (Reads w ax xs) := hx
  have HY : Hid (Reads w ay ys) := hy
  clear hx hy
  by_cases hne : xs.length = ys.length
  · have hneI : ((xs.length : Int) != (ys.length : Int)) = false := by simp; omega
    obtain ⟨R, HR⟩ : ∃ R, decide (xs = ys) = R := ⟨_, rfl⟩
    rw [HR]
    have HNE : Hid (∀ i (h1 : i < xs.length) (h2 : i < ys.length), xs[i] ≠ ys[i] → R = false) := fun i h1 h2 h => by
      rw [← HR]
      refine decide_eq_false (fun e => h ?_)
      subst e; rfl
    have HEQ : Hid ((∀ i (h1 : i < xs.length) (h2 : i < ys.length), xs[i] = ys[i]) → R = true) := fun h => by
      rw [← HR]
      exact decide_eq_true (List.ext_getElem hne (fun i h1 h2 => h i h1 h2))
    have HI0 : Hid (∀ i (h1 : i < xs.length) (h2 : i < ys.length), i < 0 → xs[i] = ys[i]) := fun i _ _ h => by omega
    have HLE : Hid (xs.length = ys.length) := hne
    have HB0 : Hid (Below w.heap.size w w) := Below.refl _ _
    clear HR hne
    go_enter Tryd.func57, Tryd.ntmps57
    go_wp2
    go_loopw [5] (fun u5 wr => ∃ j : Nat, j ≤ xs.length ∧ u5 = .int .i64 (j : Int) ∧ Hid (Below w.heap.size w wr) ∧ Hid (∀ i (h1 : i < xs.length) (h2 : i < ys.length), i < j → xs[i] = ys[i])) (fun u5 _ => xs.length - (intOf u5).toNat)
    case atStart => exact ⟨0, Nat.zero_le _, rfl, HB0, HI0⟩
    case round =>
      obtain ⟨j, hj, rfl, HB, HI⟩ := hrel
      obtain ⟨wA, hwA⟩ : ∃ y, y = wr := ⟨_, rfl⟩
      subst hwA
      clear HI0 HB0
      have hsz := HB.out.size
      by_cases hlt : j < xs.length
      · have hlt2 : j < ys.length := by have := HLE.out; omega
        obtain ⟨b1, o1, rfl, hb1, hc1⟩ := HX.out.at hlt
        obtain ⟨b2, o2, rfl, hb2, hc2⟩ := HY.out.at hlt2
        have q1' := hc1 j hlt
        have q2' := hc2 j hlt2
        rw [List.getD_eq_getElem?_getD, List.getElem?_eq_getElem hlt, Option.getD_some] at q1'
        rw [List.getD_eq_getElem?_getD, List.getElem?_eq_getElem hlt2, Option.getD_some] at q2'
        have q1 := (HB.out.cell (p := ⟨b1, o1 + j, none⟩) hb1).trans q1'
        have q2 := (HB.out.cell (p := ⟨b2, o2 + j, none⟩) hb2).trans q2'
        have HN := HNE.out j hlt hlt2
        have hltI : (j : Int) < (xs.length : Int) := by omega
        have hlt2I : (j : Int) < (ys.length : Int) := by omega
        have HST : Hid (xs[j] = ys[j] → ∀ i (h1 : i < xs.length) (h2 : i < ys.length), i < j + 1 → xs[i] = ys[i]) := fun h i h1 h2 hi => by
          by_cases e : i = j
          · subst e; exact h
          · exact HI.out i h1 h2 (by omega)
        clear q1' q2' hc1 hc2 HX HY HNE HEQ HI
        generalize ys[j] = z at *
        generalize xs[j] = x at *
        have HBN : Hid (∀ nq, Below w.heap.size w (wA.drewN nq)) := fun nq => HB.out.trans ((below_drew nq).mono hsz)
        by_cases he : x = z
        · have HS2 : Hid (∀ i (h1 : i < xs.length) (h2 : i < ys.length), i < j + 1 → xs[i] = ys[i]) := HST.out he
          have hbf : (x != z) = false := by simpa using he
          clear HN HST he HB
          go_wp2_with fail
          go_quiet (fail)
          go_wp2
          go_roundw
          case rel => exact ⟨j + 1, by omega, by go_num, HBN.out _, HS2⟩
          case measure => simp [intOf]; omega
        · have HR : Hid (R = false) := HN he
          have hbf : (x != z) = true := by simpa using he
          clear HN HST HB
          go_wp2_with fail
          go_quiet (fail)
          go_wp2
          go_ret
          rw [HR.out]
          exact ⟨rfl, HBN.out _⟩
      · have HR : Hid (R = true) := HEQ.out (fun i h1 h2 => HI.out i h1 h2 (by omega))
        have hltI : ¬ (j : Int) < (xs.length : Int) := by omega
        clear HX HY HNE HEQ HI
        go_wp2
        go_ret
        rw [HR.out]
        exact ⟨rfl, HB.out⟩
  · have hneI : ((xs.length : Int) != (ys.length : Int)) = true := by simp; omega
    have hr : decide (xs = ys) = false := decide_eq_false (fun e => hne (by rw [e]))
    rw [hr]
    clear HX HY
    go_enter Tryd.func57, Tryd.ntmps57
    go_wp2
    go_ret
    exact ⟨rfl, Below.refl _ _⟩
end Go.Proofs.YthnppodnjokaoaaDoor
namespace Go.Proofs.YthnppodnjokaoaaDoor
open Go.RowKit

section
variable {P : Program} (w : World)
theorem run_append_ints1 (base : Nat) (t ty e : TypeId) (ht : P.underlying t = some (.slice e)) (hinfo : (P.info? e).map (fun i => (i.zero, i.size, i.bytes)) = some (some (.int .i64 0), 1, 8))
    (v : Value) (xs : List Int) (hown : OwnInts w base e v xs) (ad : Option Addr) (c : Nat) (news : List Int) (hne : news ≠ []) (hnews : Reads w ad news) (hlen : xs.length + news.length ≤ 1099511627776) (hbase : base ≤ w.heap.size) :
    ∃ v' w', (Builtin.append_ #[t, t] ty #[v, .slice ad news.length c]).run P w = .ok v' w' ∧ OwnInts w' base e v' (xs ++ news) ∧ w.grownBy w' v.ownBlock ∧ (∀ k, v'.ownBlock = some k → v.ownBlock = some k ∨ k = w.heap.size) := by
  obtain ⟨i, hi, hz0, hz1, hz2⟩ := info_parts hinfo
  rcases hnews with h | ⟨b, off, rfl, hb, hc⟩
  · exact absurd h hne
  · have hpos : 0 < news.length := List.length_pos_iff.2 hne
    obtain ⟨v', w', h1, h2, h3, h4⟩ := run_append_where (P := P) w base t ty e i (.int .i64 0) 1 8 ht hi hz0 hz1 hz2 rfl (by decide) v _ _ hown ⟨b, off, none⟩ news.length c (news.map (Value.int .i64)) hpos (by simp)
      (by
        intro j u hu
        have hj : j < news.length := by have := (List.getElem?_eq_some_iff.1 hu).1; simpa using this
        rw [Addr.add_lit, hc j hj]
        simp [hj] at hu
        simp [hj, hu])
      (ints_oneCell _ _) (by unfold maxLen; omega) (by omega) hbase
    exact ⟨v', w', h1, by simpa [OwnInts] using h2, h3, h4⟩
theorem wpList_append_ints1 {ops : Array Oper} {rest : List Oper} {o : Oper} {a : Act} {Q : Exit → Act → World → Prop} (hgd : o.guard = none) (s x : Operand) (t : TypeId)
    (ho : o.op = .call { callee := .builtin .append, args := #[s, x], argTypes := #[t, t] })
    (base : Nat) (e : TypeId) (ht : P.underlying t = some (.slice e)) (hinfo : (P.info? e).map (fun i => (i.zero, i.size, i.bytes)) = some (some (.int .i64 0), 1, 8))
    (v : Value) (xs : List Int) (hs : a.eval s = v) (hown : OwnInts w base e v xs) (ad : Option Addr) (n c : Nat) (news : List Int) (hne : news ≠ []) (hx : a.eval x = .slice ad n c) (hn : n = news.length) (hnews : Reads w ad news)
    (hlen : xs.length + news.length ≤ 1099511627776) (hbase : base ≤ w.heap.size)
    (h : ∀ v' w', OwnInts w' base e v' (xs ++ news) → w.grownBy w' v.ownBlock → (∀ k, v'.ownBlock = some k → v.ownBlock = some k ∨ k = w.heap.size) → wpList P ops Q rest (a.put o.dst v') w') : wpList P ops Q (o :: rest) a w := by
  refine wpList_plain hgd fun K hK => ?_
  subst hn
  obtain ⟨v', w', hr, h2, h3, h4⟩ := run_append_ints1 (P := P) w base t o.type e ht hinfo v xs hown ad c news hne hnews hlen hbase
  unfold Oper.wp execOp
  simp only [ho, resolve, invoke, builtin, Sem.run_bind, Sem.run_pure, Result.andThen_ok, List.map_toArray, List.map_cons, List.map_nil, hs, hx, hr]
  exact hK _ _ (h v' w' h2 h3 h4)
end
end Go.Proofs.YthnppodnjokaoaaDoor
namespace Go.Proofs.YthnppodnjokaoaaDoor
open Go.RowKit

section
variable {P : Program}
theorem oper_append_ints {o : Oper} {a : Act} {w : World} {next : Act → World → Prop} {Q : Exit → Act → World → Prop} (s x : Operand) (t : TypeId)
    (ho : o.op = .call { callee := .builtin .append, args := #[s, x], argTypes := #[t, t] })
    (base : Nat) (e : TypeId) (ht : P.underlying t = some (.slice e)) (hinfo : (P.info? e).map (fun i => (i.zero, i.size, i.bytes)) = some (some (.int .i64 0), 1, 8))
    (v : Value) (xs : List Int) (hs : a.eval s = v) (hown : OwnInts w base e v xs) (ad : Option Addr) (n c : Nat) (news : List Int) (hx : a.eval x = .slice ad n c) (hn : n = news.length) (hnews : Reads w ad news)
    (hlen : xs.length + news.length ≤ 1099511627776) (hbase : base ≤ w.heap.size)
    (h : ∀ v' w', OwnInts w' base e v' (xs ++ news) → w.grownBy w' v.ownBlock → next (a.put o.dst v') w') : Oper.wp P o a w next Q := by
  subst hn
  obtain ⟨v', w', hr, h2, h3⟩ := run_append_ints (P := P) w base t o.type e ht hinfo v xs hown ad c news hnews hlen hbase
  unfold Oper.wp execOp
  simp only [ho, resolve, invoke, builtin, Sem.run_bind, Sem.run_pure, Result.andThen_ok, List.map_toArray, List.map_cons, List.map_nil, hs, hx, hr]
  exact h v' w' h2 h3
theorem oper_append_ints1 {o : Oper} {a : Act} {w : World} {next : Act → World → Prop} {Q : Exit → Act → World → Prop} (s x : Operand) (t : TypeId)
    (ho : o.op = .call { callee := .builtin .append, args := #[s, x], argTypes := #[t, t] })
    (base : Nat) (e : TypeId) (ht : P.underlying t = some (.slice e)) (hinfo : (P.info? e).map (fun i => (i.zero, i.size, i.bytes)) = some (some (.int .i64 0), 1, 8))
    (v : Value) (xs : List Int) (hs : a.eval s = v) (hown : OwnInts w base e v xs) (ad : Option Addr) (n c : Nat) (news : List Int) (hne : news ≠ []) (hx : a.eval x = .slice ad n c) (hn : n = news.length) (hnews : Reads w ad news)
    (hlen : xs.length + news.length ≤ 1099511627776) (hbase : base ≤ w.heap.size)
    (h : ∀ v' w', OwnInts w' base e v' (xs ++ news) → w.grownBy w' v.ownBlock → (∀ k, v'.ownBlock = some k → v.ownBlock = some k ∨ k = w.heap.size) → next (a.put o.dst v') w') : Oper.wp P o a w next Q := by
  subst hn
  obtain ⟨v', w', hr, h2, h3, h4⟩ := run_append_ints1 (P := P) w base t o.type e ht hinfo v xs hown ad c news hne hnews hlen hbase
  unfold Oper.wp execOp
  simp only [ho, resolve, invoke, builtin, Sem.run_bind, Sem.run_pure, Result.andThen_ok, List.map_toArray, List.map_cons, List.map_nil, hs, hx, hr]
  exact h v' w' h2 h3 h4
end
end Go.Proofs.YthnppodnjokaoaaDoor
namespace Go.Proofs.YthnppodnjokaoaaDoor

theorem mem_addL {zs : List Int} {x z : Int} : z ∈ addL zs x ↔ z = x ∨ z ∈ zs := by
  unfold addL
  split
  · constructor
    · exact .inr
    · rintro (rfl | h)
      · assumption
      · exact h
  · have e : ∀ p, z ∈ zs.take p ++ [x] ++ zs.drop p ↔ z = x ∨ z ∈ zs := by
      intro p
      have : z ∈ zs ↔ z ∈ zs.take p ∨ z ∈ zs.drop p := by rw [← List.mem_append, List.take_append_drop]
      rw [this]; simp only [List.mem_append, List.mem_singleton]
      constructor
      · rintro ((h | h) | h)
        · exact .inr (.inl h)
        · exact .inl h
        · exact .inr (.inr h)
      · rintro (h | h | h)
        · exact .inl (.inr h)
        · exact .inl (.inl h)
        · exact .inr h
    exact e _

theorem mem_joinL {xs ys : List Int} {z : Int} : z ∈ joinL xs ys ↔ z ∈ xs ∨ z ∈ ys := by
  induction ys generalizing xs with
  | nil => simp [joinL]
  | cons y ys ih =>
    show z ∈ joinL (addL xs y) ys ↔ _
    rw [ih, mem_addL]
    simp only [List.mem_cons]
    constructor
    · rintro ((h | h) | h)
      · exact .inr (.inl h)
      · exact .inl h
      · exact .inr (.inr h)
    · rintro (h | h | h)
      · exact .inl (.inr h)
      · exact .inl (.inl h)
      · exact .inr h

theorem hasL_join_left {xs ys : List Int} {k : Nat} (h : k < xs.length) : hasL (joinL xs ys) xs[k] = true := hasL_yes (mem_joinL.2 (.inl (List.getElem_mem h)))
theorem hasL_join_right {xs ys : List Int} {k : Nat} (h : k < ys.length) : hasL (joinL xs ys) ys[k] = true := hasL_yes (mem_joinL.2 (.inr (List.getElem_mem h)))

/-- Each number is below all that follow. -/
theorem pair_of_ok {zs : List Int} (h : okL zs = true) : zs.Pairwise (· < ·) := by
  simp only [okL, decide_eq_true_eq] at h
  have step : ∀ d i, i + d + 1 < zs.length → zs.getD i 0 < zs.getD (i + d + 1) 0 := by
    intro d
    induction d with
    | zero => intro i hi; exact h i (by omega)
    | succ d ih =>
      intro i hi
      have h1 := ih i (by omega)
      have h2 := h (i + d + 1) (by omega)
      have e : i + (d + 1) + 1 = i + d + 1 + 1 := by omega
      rw [e]
      omega
  rw [List.pairwise_iff_getElem]
  intro i j hi hj hij
  have := step (j - i - 1) i (by omega)
  rw [show i + (j - i - 1) + 1 = j by omega] at this
  simpa [List.getD, hi, hj] using this

theorem ok_of_pair {zs : List Int} (h : zs.Pairwise (· < ·)) : okL zs = true := by
  simp only [okL, decide_eq_true_eq]
  intro j hj
  rw [List.pairwise_iff_getElem] at h
  have := h j (j + 1) (by omega) (by omega) (by omega)
  have h1 : j < zs.length := by omega
  have h2 : j + 1 < zs.length := by omega
  simpa [List.getD, h1, h2] using this

theorem place_cons (z : Int) (zs : List Int) (x : Int) : placeL (z :: zs) x = if x < z then 0 else placeL zs x + 1 := by
  unfold placeL
  rw [List.findIdx_cons]
  by_cases h : x < z <;> simp [h]

theorem pair_add {zs : List Int} {x : Int} (h : zs.Pairwise (· < ·)) (hx : x ∉ zs) : (zs.take (placeL zs x) ++ [x] ++ zs.drop (placeL zs x)).Pairwise (· < ·) := by
  induction zs with
  | nil => simp [placeL]
  | cons z zs ih =>
    rw [List.pairwise_cons] at h
    rw [place_cons]
    by_cases hz : x < z
    · rw [if_pos hz]
      simp only [List.take_zero, List.nil_append, List.drop_zero, List.singleton_append]
      rw [List.pairwise_cons, List.pairwise_cons]
      refine ⟨fun a ha => ?_, h⟩
      rcases List.mem_cons.1 ha with rfl | ha
      · exact hz
      · have := h.1 a ha; omega
    · rw [if_neg hz]
      simp only [List.take_succ_cons, List.drop_succ_cons, List.cons_append]
      rw [List.pairwise_cons]
      refine ⟨fun a ha => ?_, ih h.2 (fun hm => hx (List.mem_cons_of_mem _ hm))⟩
      have hne : x ≠ z := fun e => hx (by rw [e]; exact List.mem_cons_self ..)
      have : a = x ∨ a ∈ zs := by
        simp only [List.mem_append, List.mem_singleton] at ha
        rcases ha with (ha | ha) | ha
        · exact .inr (List.mem_of_mem_take ha)
        · exact .inl ha
        · exact .inr (List.mem_of_mem_drop ha)
      rcases this with rfl | hm
      · omega
      · exact h.1 a hm

theorem pair_addL {zs : List Int} {x : Int} (h : zs.Pairwise (· < ·)) : (addL zs x).Pairwise (· < ·) := by
  unfold addL
  split
  · exact h
  · exact pair_add h ‹_›

theorem pair_joinL {xs ys : List Int} (h : xs.Pairwise (· < ·)) : (joinL xs ys).Pairwise (· < ·) := by
  induction ys generalizing xs with
  | nil => exact h
  | cons y ys ih => exact ih (pair_addL h)

theorem eq_of_pair : ∀ {xs ys : List Int}, xs.Pairwise (· < ·) → ys.Pairwise (· < ·) → (∀ z, z ∈ xs ↔ z ∈ ys) → xs = ys
  | [], [], _, _, _ => rfl
  | [], y :: ys, _, _, h => absurd ((h y).2 (List.mem_cons_self ..)) (by simp)
  | x :: xs, [], _, _, h => absurd ((h x).1 (List.mem_cons_self ..)) (by simp)
  | x :: xs, y :: ys, hx, hy, h => by
    rw [List.pairwise_cons] at hx hy
    have hxy : x = y := by
      have h1 := (h x).1 (List.mem_cons_self ..)
      have h2 := (h y).2 (List.mem_cons_self ..)
      rcases List.mem_cons.1 h1 with e | h1
      · exact e
      · rcases List.mem_cons.1 h2 with e | h2
        · exact e.symm
        · have a := hy.1 x h1
          have b := hx.1 y h2
          omega
    subst hxy
    congr 1
    refine eq_of_pair hx.2 hy.2 fun z => ⟨fun hz => ?_, fun hz => ?_⟩
    · have := hx.1 z hz
      rcases List.mem_cons.1 ((h z).1 (List.mem_cons_of_mem _ hz)) with e | e
      · omega
      · exact e
    · have := hy.1 z hz
      rcases List.mem_cons.1 ((h z).2 (List.mem_cons_of_mem _ hz)) with e | e
      · omega
      · exact e

theorem join_comm {xs ys : List Int} (hx : okL xs = true) (hy : okL ys = true) : joinL xs ys = joinL ys xs :=
  eq_of_pair (pair_joinL (pair_of_ok hx)) (pair_joinL (pair_of_ok hy)) fun z => by rw [mem_joinL, mem_joinL, Or.comm]
theorem join_ok {xs ys : List Int} (hx : okL xs = true) : okL (joinL xs ys) = true := ok_of_pair (pair_joinL (pair_of_ok hx))

theorem cmpL_self (xs : List Int) : cmpL xs xs = 0 := by
  induction xs with
  | nil => rfl
  | cons x xs ih => simp [cmpL, ih]
theorem cmpL_bound : ∀ xs ys : List Int, -1 ≤ cmpL xs ys ∧ cmpL xs ys ≤ 1
  | [], [] => by simp [cmpL]
  | [], _ :: _ => by simp [cmpL]
  | _ :: _, [] => by simp [cmpL]
  | x :: xs, y :: ys => by
    have := cmpL_bound xs ys
    rw [cmpL]
    split
    · omega
    · split <;> omega
theorem cmpL_swap : ∀ xs ys : List Int, cmpL ys xs = - cmpL xs ys
  | [], [] => rfl
  | [], _ :: _ => rfl
  | _ :: _, [] => rfl
  | x :: xs, y :: ys => by
    have := cmpL_swap xs ys
    rw [cmpL, cmpL]
    by_cases h1 : x < y
    · rw [if_neg (by omega), if_pos h1, if_pos h1]; rfl
    · by_cases h2 : y < x
      · rw [if_pos h2, if_neg h1, if_pos h2]
      · rw [if_neg h2, if_neg h1, if_neg h1, if_neg h2, this]
theorem cmpL_trans : ∀ xs ys zs : List Int, cmpL xs ys ≤ 0 → cmpL ys zs ≤ 0 → cmpL xs zs ≤ 0
  | [], _, [], _, _ => by simp [cmpL]
  | [], _, _ :: _, _, _ => by simp [cmpL]
  | _ :: _, [], _, h, _ => by simp [cmpL] at h
  | _ :: _, _ :: _, [], _, h => by simp [cmpL] at h
  | x :: xs, y :: ys, z :: zs, h, g => by
    rw [cmpL] at h g ⊢
    have ih := cmpL_trans xs ys zs
    split at h
    · split at g
      · rw [if_pos (by omega)]; omega
      · split at g
        · omega
        · rw [if_pos (by omega)]; omega
    · split at h
      · omega
      · split at g
        · rw [if_pos (by omega)]; omega
        · split at g
          · omega
          · rw [if_neg (by omega), if_neg (by omega)]
            exact ih h g
end Go.Proofs.YthnppodnjokaoaaDoor
namespace Go.Proofs.YthnppodnjokaoaaDoor
open Go.RowKit

theorem specSetHas_same (a : Option Addr) (c : Nat) (zs : List Int) (x : Int) (w : World) (h : Reads w a zs) (hl : zs.length ≤ 1048576 * 4) :
    Calls Tryd.prog 53 #[.slice a zs.length c, .int .i64 x] w fun e w' => e = .returned (.bool (hasL zs x)) ∧ w' = w := by
  go_enter Tryd.func53, Tryd.ntmps53
  go_wp2
  go_loop [5] (fun i => ∃ k : Nat, k ≤ zs.length ∧ i = .int .i64 k ∧ x ∉ zs.take k) (fun i => zs.length - (intOf i).toNat)
  case atStart => exact ⟨0, Nat.zero_le _, rfl, by simp⟩
  case round =>
    obtain ⟨k, hk, rfl, hnot⟩ := hrel
    have HN : Hid (x ∉ zs.take k) := hnot
    clear hnot
    by_cases hlt : k < zs.length
    · obtain ⟨b1, o1, rfl, hb1, hc1⟩ := h.at hlt
      have hcx := hc1 k hlt
      go_wp2
      · go_ret
        exact ⟨ret_bool (hasL_yes (in_at hlt ‹_›)).symm, rfl⟩
      · go_round
        case rel => exact ⟨k + 1, by omega, by go_num, notin_step HN.out hlt ‹_›⟩
        case measure => simp [intOf]; omega
    · go_wp2
      go_ret
      exact ⟨ret_bool (hasL_no (notin_end HN.out hlt)).symm, rfl⟩

theorem specSetHas_any (a : Option Addr) (c : Nat) (zs : List Int) (x : Int) (w : World) (h : Reads w a zs) (hl : zs.length ≤ 1048576 * 4) :
    Calls Tryd.prog 53 #[.slice a zs.length c, .int .i64 x] w fun e w' => e = .returned (.bool (hasL zs x)) ∧ Below w.heap.size w w' := by
  refine (specSetHas_same a c zs x w h hl).mono ?_
  rintro e w' ⟨rfl, rfl⟩
  exact ⟨rfl, Below.refl _ _⟩

end Go.Proofs.YthnppodnjokaoaaDoor
namespace Go.Proofs.YthnppodnjokaoaaDoor
open Go.RowKit

/-- A slice of integers, nil or a whole block's beginning, with its room. -/
def PartsI (w : World) (v : Value) (xs : List Int) : Prop :=
  (v = .slice none 0 0 ∧ xs = []) ∨ ∃ g cap, v = .slice (some ⟨g, 0, none⟩) xs.length cap ∧ xs.length ≤ cap ∧ cap ≤ maxLen ∧ g < w.heap.size ∧ ∀ i, i < xs.length → w.cell? ⟨g, i, none⟩ = some (.int .i64 (xs.getD i 0))
theorem PartsI.shape {w : World} {v : Value} {xs : List Int} (h : PartsI w v xs) : ∃ a cap, v = .slice a xs.length cap ∧ Reads w a xs := by
  rcases h with ⟨rfl, rfl⟩ | ⟨g, cap, rfl, _, _, hg, hc⟩
  · exact ⟨none, 0, rfl, .inl rfl⟩
  · exact ⟨_, cap, rfl, .inr ⟨g, 0, rfl, hg, fun i hi => by simpa using hc i hi⟩⟩

theorem specSetAdd_p (v : Value) (zs : List Int) (x : Int) (w : World) (h : PartsI w v zs) (hl : zs.length ≤ 1048576 * 3) :
    Calls Tryd.prog 77 #[v, .int .i64 x] w fun e w' => ∃ v', e = .returned v' ∧ OwnInts w' w.heap.size 3 v' (addL zs x) ∧ Below w.heap.size w w' := by
  cases hh : hasL zs x
  · have hp := placeL_le zs x
    rcases h with ⟨rfl, rfl⟩ | ⟨g, cap, rfl, hnc, hcm, hgw, hcell⟩
    · have hr : Reads w none [] := .inl rfl
      go_enter Tryd.func77, Tryd.ntmps77
      go_wp2_with fail
      refine (specSetHas_any _ _ [] x _ hr (by simp)).mono ?_
      rintro e w1 ⟨rfl, hl1⟩
      rw [hh]
      go_wp2
      refine wp_loop_rounds 1 ?_
      rw [rounds_succ]
      go_wp2_with (at_builtin; refine wpList_append_ints _ rfl (.tmp 30) (.tmp 33) 25 rfl w.heap.size 3 Tryd.underlying25 Tryd.infoInt _ [] rfl (OwnInts.empty hl1.size) _ _ _ [] rfl rfl (.inl rfl) (by simp) (Nat.le_trans hl1.size (by simp)) ?_)
      intro v4 w4 hown4 hgr4
      have k4 := (hl1.alloc hl1.size _).grown hgr4 (Nat.le_trans hl1.size (by simp)) (fun k hk => by cases hk; exact hl1.size)
      go_wp2_with (at_builtin; refine wpList_append_ints _ rfl (.tmp 35) (.tmp 37) 25 rfl w.heap.size 3 Tryd.underlying25 Tryd.infoInt _ _ rfl (hown4.alloc _) _ _ _ [x] rfl rfl (Reads.new _ _ _) (by simp) (Nat.le_trans k4.size (by simp)) ?_)
      intro v5 w5 hown5 hgr5
      have k5 := (k4.alloc k4.size _).grown hgr5 (Nat.le_trans k4.size (by simp)) (fun k hk => (hown4.block k hk).1)
      go_wp2_with (at_builtin; refine wpList_append_ints _ rfl (.tmp 39) (.tmp 42) 25 rfl w.heap.size 3 Tryd.underlying25 Tryd.infoInt _ _ rfl hown5 _ _ _ [] rfl rfl (.inl rfl) (by simp) k5.size ?_)
      intro v6 w6 hown6 hgr6
      have k6 := k5.grown hgr6 k5.size (fun k hk => (hown5.block k hk).1)
      go_wp2
      go_ret
      refine ⟨v6, rfl, ?_, k6⟩
      rw [addL_no hh]
      exact hown6
    · obtain ⟨p, hP⟩ : ∃ p, placeL zs x = p := ⟨_, rfl⟩
      have HP : Hid (placeL zs x = p) := hP
      rw [hP] at hp
      have hr : Reads w (some ⟨g, 0, none⟩) zs := .inr ⟨g, 0, rfl, hgw, fun i hi => by simpa using hcell i hi⟩
      unfold maxLen at hcm
      clear hP
      go_enter Tryd.func77, Tryd.ntmps77
      go_wp2_with fail
      refine (specSetHas_any _ _ zs x _ hr (by omega)).mono ?_
      rintro e w1 ⟨rfl, hl1⟩
      rw [hh]
      have c1 : ∀ i, i < zs.length → w1.cell? ⟨g, i, none⟩ = some (.int .i64 (zs.getD i 0)) := fun i hi => (hl1.cell (p := ⟨g, i, none⟩) hgw).trans (hcell i hi)
      go_wp2
      go_loop [5, 6] (fun t i => ∃ m : Nat, m ≤ zs.length ∧ i = .int .i64 ((m : Int) - 1) ∧ t = .int .i64 (placeFrom zs x m)) (fun _ i => (intOf i + 1).toNat)
      case atStart => exact ⟨zs.length, Nat.le_refl _, rfl, by rw [placeFrom_end]⟩
      case round =>
        obtain ⟨m, hm, rfl, rfl⟩ := hrel
        have hpm := placeFrom_le zs x m hm
        cases m with
        | succ k =>
          have hlt : k < zs.length := by omega
          have hcx := c1 k hlt
          have ek : ((k + 1 : Nat) : Int) - 1 = (k : Int) := by omega
          rw [ek]
          clear ek
          go_wp2
          · go_round
            case rel => exact ⟨k, by omega, rfl, by rw [placeFrom_yes hlt ‹_›]⟩
            case measure => simp [intOf]
          · go_round
            case rel => exact ⟨k, by omega, rfl, by rw [placeFrom_no hlt (Int.not_lt.2 ‹_›)]⟩
            case measure => simp [intOf]
        | zero =>
          rw [placeFrom_zero, HP.out]
          go_wp2_with (at_builtin; refine wpList_append_ints _ rfl (.tmp 30) (.tmp 33) 25 rfl w.heap.size 3 Tryd.underlying25 Tryd.infoInt _ [] rfl (OwnInts.empty hl1.size) _ _ _ (zs.take p) rfl (by simp; omega) ((hr.below (hl1.alloc hl1.size _)).take p) (by simp; omega) (Nat.le_trans hl1.size (by simp)) ?_)
          intro v4 w4 hown4 hgr4
          have k4 := (hl1.alloc hl1.size _).grown hgr4 (Nat.le_trans hl1.size (by simp)) (fun k hk => by cases hk; exact hl1.size)
          go_wp2_with (at_builtin; refine wpList_append_ints _ rfl (.tmp 35) (.tmp 37) 25 rfl w.heap.size 3 Tryd.underlying25 Tryd.infoInt _ _ rfl (hown4.alloc _) _ _ _ [x] rfl rfl (Reads.new _ _ _) (by simp; omega) (Nat.le_trans k4.size (by simp)) ?_)
          intro v5 w5 hown5 hgr5
          have k5 := (k4.alloc k4.size _).grown hgr5 (Nat.le_trans k4.size (by simp)) (fun k hk => (hown4.block k hk).1)
          have C5 : Hid (∀ i, i < zs.length → w5.cell? ⟨g, i, none⟩ = some (.int .i64 (zs.getD i 0))) := fun i hi => (k5.cell (p := ⟨g, i, none⟩) hgw).trans (hcell i hi)
          clear c1 hcell
          have gw5 := Nat.lt_of_lt_of_le hgw k5.size
          have hlen5 : (zs.take p ++ [x]).length + (zs.drop p).length ≤ 1099511627776 := by simp; omega
          go_wp2_with (at_builtin; refine wpList_append_ints _ rfl (.tmp 39) (.tmp 42) 25 rfl w.heap.size 3 Tryd.underlying25 Tryd.infoInt _ _ rfl hown5 _ _ _ (zs.drop p) rfl (by simp) (Reads.drop gw5 C5.out (by intro hk; first | rfl | rw [if_neg (by omega)] | (exfalso; omega))) hlen5 k5.size ?_)
          all_goals
            intro v6 w6 hown6 hgr6
            have k6 := k5.grown hgr6 k5.size (fun k hk => (hown5.block k hk).1)
            go_wp2
            go_ret
            refine ⟨v6, rfl, ?_, k6⟩
            rw [addL_no hh, HP.out]
            simpa using hown6
  · obtain ⟨a, cap, rfl, hr⟩ := h.shape
    go_enter Tryd.func77, Tryd.ntmps77
    go_wp2_with fail
    refine (specSetHas_any _ _ zs x _ hr (by omega)).mono ?_
    rintro e w1 ⟨rfl, hl1⟩
    rw [hh]
    go_wp2_with (at_builtin; refine wpList_append_ints _ rfl (.tmp 11) (.tmp 12) 25 rfl w.heap.size 3 Tryd.underlying25 Tryd.infoInt _ [] rfl (OwnInts.empty hl1.size) _ _ _ zs rfl rfl (hr.below (hl1.alloc hl1.size _)) (by simp; omega) (Nat.le_trans hl1.size (by simp)) ?_)
    intro v2 w2 hown2 hgr2
    go_wp2
    go_ret
    rw [addL_yes hh]
    exact ⟨v2, rfl, by simpa using hown2, (hl1.alloc hl1.size _).grown hgr2 (Nat.le_trans hl1.size (by simp)) (fun k hk => by cases hk; exact hl1.size)⟩

theorem specSetAdd_any (base : Nat) (v : Value) (zs : List Int) (x : Int) (w : World) (h : OwnInts w base 3 v zs) (hl : zs.length ≤ 1048576 * 3) :
    Calls Tryd.prog 77 #[v, .int .i64 x] w fun e w' => ∃ v', e = .returned v' ∧ OwnInts w' w.heap.size 3 v' (addL zs x) ∧ Below w.heap.size w w' := specSetAdd_p v zs x w h.parts hl
end Go.Proofs.YthnppodnjokaoaaDoor
namespace Go.Proofs.YthnppodnjokaoaaDoor
open Go.RowKit

theorem specSetJoin_r (a : Option Addr) (c : Nat) (a2 : Option Addr) (c2 : Nat) (xs ys : List Int) (w : World) (hr : Reads w a xs) (gr : Reads w a2 ys) (hl : xs.length ≤ 1048576) (gl : ys.length ≤ 1048576) :
    Calls Tryd.prog 76 #[.slice a xs.length c, .slice a2 ys.length c2] w fun e w' => ∃ v', e = .returned v' ∧ OwnInts w' w.heap.size 3 v' (joinL xs ys) ∧ Below w.heap.size w w' := by
  go_enter Tryd.func76, Tryd.ntmps76
  go_wp2_with (at_builtin; refine wpList_append_ints _ rfl (.tmp 7) (.tmp 8) 25 rfl w.heap.size 3 Tryd.underlying25 Tryd.infoInt _ [] rfl (OwnInts.empty (Nat.le_refl _)) _ _ _ xs rfl rfl (hr.below ((Below.refl _ _).alloc (Nat.le_refl _) _)) (by simp; omega) (by simp) ?_)
  intro v1 w1 o1 hg1
  have hl1 := ((Below.refl w.heap.size w).alloc (Nat.le_refl _) _).grown hg1 (by simp) (fun k hk => by cases hk; exact Nat.le_refl _)
  go_wp2
  go_loopw [5, 6] (fun t i wr => ∃ k : Nat, k ≤ ys.length ∧ i = .int .i64 k ∧ OwnInts wr w.heap.size 3 t (joinL xs (ys.take k)) ∧ Below w.heap.size w wr) (fun _ i _ => ys.length - (intOf i).toNat)
  case atStart => exact ⟨0, Nat.zero_le _, rfl, by simpa [joinL] using o1, hl1⟩
  case round =>
    obtain ⟨k, hk, rfl, hown, hbel⟩ := hrel
    have hj := joinL_length_le xs (ys.take k)
    rw [List.length_take, Nat.min_eq_left hk] at hj
    by_cases hlt : k < ys.length
    · obtain ⟨b, o, rfl, hb, hc⟩ := gr.at hlt
      have hcx := (hbel.cell (p := ⟨b, o + k, none⟩) hb).trans (hc k hlt)
      go_wp2_with fail
      refine (specSetAdd_any _ _ _ _ _ hown (by omega)).mono ?_
      rintro e w2 ⟨v2, rfl, o2, hl2⟩
      go_wp2
      go_roundw
      case rel => exact ⟨k + 1, by omega, by go_num, by rw [← joinL_step hlt]; exact o2.base hbel.size, hbel.trans (hl2.mono hbel.size)⟩
      case measure => simp [intOf]; omega
    · go_wp2
      go_ret
      exact ⟨_, rfl, by rw [List.take_of_length_le (by omega)] at hown; exact hown, hbel⟩

theorem specSetJoin_any (b1 b2 : Nat) (u v : Value) (xs ys : List Int) (w : World) (h : OwnInts w b1 3 u xs) (g : OwnInts w b2 3 v ys) (hl : xs.length ≤ 1048576) (gl : ys.length ≤ 1048576) :
    Calls Tryd.prog 76 #[u, v] w fun e w' => ∃ v', e = .returned v' ∧ OwnInts w' w.heap.size 3 v' (joinL xs ys) ∧ Below w.heap.size w w' := by
  obtain ⟨a, c, rfl, hr, _⟩ := h.shape
  obtain ⟨a2, c2, rfl, gr, _⟩ := g.shape
  exact specSetJoin_r a c a2 c2 xs ys w hr gr hl gl
end Go.Proofs.YthnppodnjokaoaaDoor
