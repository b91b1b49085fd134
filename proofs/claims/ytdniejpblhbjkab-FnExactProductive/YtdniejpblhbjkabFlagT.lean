/-
  The program's types of flags, and its small functions over them: numbers, allOf. No statement is proved here.
-/
import Derived.Test.YtdniejpblhbjkabFlagsEq
import Derived.Test.YtdniejpblhbjkabInfo
namespace Go.Proofs.Ytdniejpblhbjkab
open Go.RowKit

section
variable {P : Program}
theorem wpList_boxB {ops : Array Oper} {rest : List Oper} {o : Oper} {a : Act} {w : World} {Q : Exit → Act → World → Prop} (hgd : Region.wanted o (yielded ops a.tmps) = true) (ty : TypeId) (x : Operand) (ho : o.op = .box ty x) (bs : List Bool) (hx : a.eval x = aggB bs)
    (h : ∀ w', Bits w' w.heap.size ty bs → Below w.heap.size w w' → w'.heap.size = w.heap.size + 1 → wpList P ops Q rest (a.put o.dst (.pointer (some ⟨w.heap.size, 0, none⟩))) w') : wpList P ops Q (o :: rest) a w := by
  obtain ⟨w', h1, h2, h3, h4⟩ := exec_boxB (P := P) (w := w) ho hx
  exact wpList_val hgd h1 (h w' h2 h3 h4)
theorem wpList_allocB {ops : Array Oper} {rest : List Oper} {o : Oper} {a : Act} {w : World} {Q : Exit → Act → World → Prop} (hgd : Region.wanted o (yielded ops a.tmps) = true) (ty : TypeId) (ho : o.op = .alloc ty) (n : Nat) (hT : BitT P ty n)
    (h : ∀ w', Bits w' w.heap.size ty (List.replicate n false) → Below w.heap.size w w' → w'.heap.size = w.heap.size + 1 → wpList P ops Q rest (a.put o.dst (.pointer (some ⟨w.heap.size, 0, none⟩))) w') : wpList P ops Q (o :: rest) a w := by
  obtain ⟨w', h1, h2, h3, h4⟩ := exec_allocB (P := P) (w := w) (ρ := a.eval) ho hT
  exact wpList_val hgd h1 (h w' h2 h3 h4)
theorem wpList_loadB {ops : Array Oper} {rest : List Oper} {o : Oper} {a : Act} {w : World} {Q : Exit → Act → World → Prop} (hgd : Region.wanted o (yielded ops a.tmps) = true) (ty : TypeId) (x : Operand) (ho : o.op = .load ty x) (b off n : Nat) (t : TypeId) (bs : List Bool) (hx : a.eval x = .pointer (some ⟨b, off, none⟩)) (hT : BitT P ty n) (hB : Bits w b t bs) (hn : off + n ≤ bs.length)
    (h : wpList P ops Q rest (a.put o.dst (aggB ((bs.drop off).take n))) w) : wpList P ops Q (o :: rest) a w :=
  wpList_val hgd (exec_loadB ho hx hT hB hn) h
theorem wpList_loadW {ops : Array Oper} {rest : List Oper} {o : Oper} {a : Act} {w : World} {Q : Exit → Act → World → Prop} (hgd : Region.wanted o (yielded ops a.tmps) = true) (ty : TypeId) (x : Operand) (ho : o.op = .load ty x) (b : Nat) (t : TypeId) (bs : List Bool) (hx : a.eval x = .pointer (some ⟨b, 0, none⟩)) (hT : BitT P ty bs.length) (hB : Bits w b t bs)
    (h : wpList P ops Q rest (a.put o.dst (aggB bs)) w) : wpList P ops Q (o :: rest) a w :=
  wpList_val hgd (exec_loadW ho hx hT hB) h
theorem wpList_storeB {ops : Array Oper} {rest : List Oper} {o : Oper} {a : Act} {w : World} {Q : Exit → Act → World → Prop} (hgd : Region.wanted o (yielded ops a.tmps) = true) (ty : TypeId) (x y : Operand) (ho : o.op = .store ty x y) (b off : Nat) (t : TypeId) (bs cs : List Bool) (hx : a.eval x = .pointer (some ⟨b, off, none⟩)) (hy : a.eval y = aggB cs) (hT : BitT P ty cs.length) (hB : Bits w b t bs) (hn : off + cs.length ≤ bs.length)
    (h : ∀ w', Bits w' b t (putB bs off cs) → w.grownBy w' (some b) → wpList P ops Q rest (a.put o.dst undef) w') : wpList P ops Q (o :: rest) a w := by
  obtain ⟨w', h1, h2, h3⟩ := exec_storeB (P := P) ho hx hy hT hB hn
  exact wpList_unit hgd h1 (h w' h2 h3)
theorem wpList_eqlB {ops : Array Oper} {rest : List Oper} {o : Oper} {a : Act} {w : World} {Q : Exit → Act → World → Prop} (hgd : Region.wanted o (yielded ops a.tmps) = true) (ty rt : TypeId) (x y : Operand) (ho : o.op = .binOp .eql ty x y rt) (cs bs : List Bool) (hx : a.eval x = aggB cs) (hy : a.eval y = aggB bs) (hg : P.eqGuardType P.depth ty = false) (he : (Op.equalIn 10000 ty (aggB cs) (aggB bs)).run P w = .ok (decide (cs = bs)) w)
    (h : wpList P ops Q rest (a.put o.dst (.bool (decide (cs = bs)))) w) : wpList P ops Q (o :: rest) a w :=
  wpList_val hgd (exec_eqlB ho hx hy hg he) h
theorem wpList_indexB {ops : Array Oper} {rest : List Oper} {o : Oper} {a : Act} {w : World} {Q : Exit → Act → World → Prop} (hgd : Region.wanted o (yielded ops a.tmps) = true) (ty e : TypeId) (x y : Operand) (ho : o.op = .index ty x y) (bs : List Bool) (i : Nat) (hx : a.eval x = aggB bs) (hy : a.eval y = .int .i64 i) (hu : P.underlying ty = some (.array bs.length e)) (he : P.underlying e = some .bool) (hz : (P.info? e).map (·.size) = some 1) (hi : i < bs.length)
    (h : wpList P ops Q rest (a.put o.dst (.bool (bs.getD i false))) w) : wpList P ops Q (o :: rest) a w :=
  wpList_val hgd (exec_indexB ho hx hy hu he hz hi) h
end

theorem row_of {P : Program} {ty : TypeId} (h : (P.underlying ty).map TypeDesc.isRow = some true) : ∃ d, P.underlying ty = some d ∧ d.isRow = true := by
  cases hq : P.underlying ty with
  | none => simp [hq] at h
  | some d => exact ⟨d, rfl, by simpa [hq] using h⟩
set_option maxRecDepth 100000 in
theorem bt_flags : BitT Try.prog 47 27 := ⟨by kernel_rfl, row_of (by kernel_rfl)⟩
set_option maxRecDepth 100000 in
theorem bt_table : BitT Try.prog 50 540 := ⟨by kernel_rfl, row_of (by kernel_rfl)⟩
set_option maxRecDepth 100000 in
theorem bt_begin : BitT Try.prog 52 567 := ⟨by kernel_rfl, row_of (by kernel_rfl)⟩
theorem bool_size : (Try.prog.info? 4).map (·.size) = some 1 := by kernel_rfl
theorem u_flags : Try.prog.underlying 47 = some (.array 27 4) := by kernel_rfl
theorem u_bool : Try.prog.underlying 4 = some .bool := by kernel_rfl

/-- The numbers below k whose flag is up. -/
def numsB (f : Nat → Bool) : Nat → List Int
  | 0 => []
  | k + 1 => if f k then numsB f k ++ [(k : Int)] else numsB f k
theorem numsB_len (f : Nat → Bool) (k : Nat) : (numsB f k).length ≤ k := by
  induction k with
  | zero => simp [numsB]
  | succ k ih =>
    rw [numsB]
    split
    · rw [List.length_append, List.length_singleton]; omega
    · omega
theorem mem_numsB {f : Nat → Bool} {k : Nat} {x : Int} : x ∈ numsB f k ↔ ∃ n : Nat, n < k ∧ x = n ∧ f n = true := by
  induction k with
  | zero => simp [numsB]
  | succ k ih =>
    rw [numsB]
    split
    · rename_i h
      rw [List.mem_append, ih, List.mem_singleton]
      constructor
      · rintro (⟨n, h1, h2, h3⟩ | rfl)
        · exact ⟨n, by omega, h2, h3⟩
        · exact ⟨k, by omega, rfl, h⟩
      · rintro ⟨n, h1, h2, h3⟩
        by_cases e : n = k
        · subst e; exact .inr h2
        · exact .inl ⟨n, by omega, h2, h3⟩
    · rename_i h
      rw [ih]
      constructor
      · rintro ⟨n, h1, h2, h3⟩; exact ⟨n, by omega, h2, h3⟩
      · rintro ⟨n, h1, h2, h3⟩
        refine ⟨n, ?_, h2, h3⟩
        by_cases e : n = k
        · subst e; exact absurd h3 h
        · omega
theorem numsB_sorted (f : Nat → Bool) (k : Nat) : (numsB f k).Pairwise (· < ·) := by
  induction k with
  | zero => exact List.Pairwise.nil
  | succ k ih =>
    rw [numsB]
    split
    · rw [List.pairwise_append]
      refine ⟨ih, List.pairwise_singleton _ _, fun x hx y hy => ?_⟩
      obtain ⟨n, h1, rfl, _⟩ := mem_numsB.1 hx
      rw [List.mem_singleton] at hy
      omega
    · exact ih

set_option maxRecDepth 100000 in
theorem numbers_any (b off : Nat) (t : TypeId) (bs : List Bool) (w : World) (hB : Bits w b t bs) (hl : off + 27 ≤ bs.length) :
    Calls Try.prog 35 #[.pointer (some ⟨b, off, none⟩)] w fun e w' => ∃ v, e = .returned v ∧ OwnInts w' w.heap.size 3 v (numsB (fun n => bs.getD (off + n) false) 27) ∧ Below w.heap.size w w' := by
  obtain ⟨f, Hf⟩ : ∃ f : Nat → Bool, Hid (f = fun n => bs.getD (off + n) false) := ⟨_, rfl⟩
  rw [← Hf.out]
  have HC : Hid (∀ W : World, Below w.heap.size w W → ∀ n, n < 27 → W.cell? ⟨b, off + n, none⟩ = some (.bool (f n))) := by
    intro W hW n hn
    rw [Hf.out]
    exact (hB.later hW).cell (by omega)
  clear Hf hB hl
  go_enter Try.func35, Try.ntmps35
  go_wp2
  go_loopw [3, 7] (fun so sk wr => ∃ k : Nat, k ≤ 27 ∧ sk = .int .i64 k ∧ OwnInts wr w.heap.size 3 so (numsB f k) ∧ Below w.heap.size w wr) (fun _ sk _ => 27 - (intOf sk).toNat)
  case atStart => exact ⟨0, Nat.zero_le _, rfl, OwnInts.nil _ _ _, Below.refl _ _⟩
  case round =>
    obtain ⟨k, hk, rfl, hO, hbel⟩ := hrel
    by_cases hlt : k < 27
    · have q0 := HC.out wr hbel k hlt
      have HN : Hid (numsB f (k + 1) = if f k then numsB f k ++ [(k : Int)] else numsB f k) := rfl
      have hln := numsB_len f k
      generalize numsB f k = ns at *
      go_wp2
      go_quiet (fail)
      have hb2 := hbel.trans ((below_drew (w := wr) nq).mono hbel.size)
      have hO2 := hO.below (below_drew nq)
      clear hbel hO q0
      generalize wr.drewN nq = wq at *
      by_cases hf : f k = true
      · rw [hf] at HN
        rw [hf]
        rw [if_pos rfl] at HN
        go_wp2_with (at_builtin; refine wpList_append_ints _ rfl (.tmp 14) (.tmp 16) 25 rfl w.heap.size 3 Try.underlying25 Try.infoInt _ _ rfl (hO2.alloc _) _ _ _ [(k : Int)] rfl rfl (Reads.new _ _ _) (by simp; omega) (Nat.le_trans hb2.size (by simp)) ?_)
        intro v3 w3 hO3 hg3
        have hb3 : Below w.heap.size w w3 := (hb2.alloc hb2.size _).grown hg3 (Nat.le_trans hb2.size (by simp)) (fun j hj => (hO2.block j hj).1)
        clear hO2 hb2 hg3
        go_wp2
        go_roundw
        case rel => exact ⟨k + 1, by omega, by go_num, by rw [HN.out]; exact hO3, hb3⟩
        case measure => simp [intOf]; omega
      · have hf2 : f k = false := by simpa using hf
        clear hf
        rw [hf2] at HN
        rw [hf2]
        rw [if_neg (by simp)] at HN
        go_wp2
        go_roundw
        case rel => exact ⟨k + 1, by omega, by go_num, by rw [HN.out]; exact hO2, hb2⟩
        case measure => simp [intOf]; omega
    · have e : k = 27 := by omega
      subst e
      clear HC
      go_wp2
      go_ret
      exact ⟨_, rfl, hO, hbel⟩

/-- All symbols of the row are of parts whose flag is up. -/
def allB (bs : List Bool) (row : List Int) : Bool := row.all fun x => decide (100 ≤ x ∧ x - 100 < 20) && bs.getD (x - 100).toNat false
theorem allB_step {p : Int → Bool} {xs : List Int} {k : Nat} (h : (xs.take k).all p = true) (hk : k < xs.length) (g : p xs[k] = true) : (xs.take (k + 1)).all p = true := by
  rw [List.take_succ_eq_append_getElem hk, List.all_append, h]; simp [g]
theorem allB_no {p : Int → Bool} {xs : List Int} {k : Nat} (hk : k < xs.length) (g : p xs[k] = false) : xs.all p = false := by
  rw [Bool.eq_false_iff]; intro h
  rw [List.all_eq_true] at h
  have := h _ (List.getElem_mem hk)
  rw [g] at this; cases this
theorem allB_end {p : Int → Bool} {xs : List Int} {k : Nat} (h : (xs.take k).all p = true) (hk : ¬ k < xs.length) : xs.all p = true := by
  rwa [List.take_of_length_le (by omega)] at h

set_option maxRecDepth 100000 in
theorem allOf_any (zs : List Int) (a : Option Addr) (c : Nat) (bs : List Bool) (w : World) (h : Reads w a zs) (hl : zs.length ≤ 1048576) (hz : ∀ z ∈ zs, -9223372036854775808 ≤ z ∧ z ≤ 9223372036854775807) (hb : bs.length = 27) :
    Calls Try.prog 68 #[.slice a zs.length c, aggB bs] w fun e w' => e = .returned (.bool (allB bs zs)) ∧ Below w.heap.size w w' := by
  have HZ : Hid (∀ z ∈ zs, -9223372036854775808 ≤ z ∧ z ≤ 9223372036854775807) := hz
  clear hz
  go_enter Try.func68, Try.ntmps68
  go_wp2_with (refine wpList_boxB rfl 47 _ rfl bs rfl ?_; intro w1 hB1 hb1 hs1)
  go_loop [9] (fun s => ∃ k : Nat, k ≤ zs.length ∧ s = .int .i64 k ∧ Hid ((zs.take k).all (fun x => decide (100 ≤ x ∧ x - 100 < 20) && bs.getD (x - 100).toNat false) = true)) (fun s => zs.length - (intOf s).toNat)
  case atStart => exact ⟨0, Nat.zero_le _, rfl, by show _ = _; simp⟩
  case round =>
    obtain ⟨k, hk, rfl, HK⟩ := hrel
    have h1 := h.below hb1
    by_cases hlt : k < zs.length
    · obtain ⟨b, off, rfl, hbb, hc⟩ := h1.at hlt
      have q1 := hc k hlt
      rw [List.getD_eq_getElem?_getD, List.getElem?_eq_getElem hlt, Option.getD_some] at q1
      have hr := HZ.out zs[k] (List.getElem_mem hlt)
      have HS : Hid (100 ≤ zs[k] ∧ zs[k] - 100 < 20 → bs.getD (zs[k] - 100).toNat false = true → (zs.take (k + 1)).all (fun x => decide (100 ≤ x ∧ x - 100 < 20) && bs.getD (x - 100).toNat false) = true) := fun g1 g2 => allB_step HK.out hlt (by simp only [decide_eq_true g1, Bool.true_and]; exact g2)
      have HN : Hid ((100 ≤ zs[k] ∧ zs[k] - 100 < 20 → bs.getD (zs[k] - 100).toNat false = false) → allB bs zs = false) := fun g1 => by
        refine allB_no hlt ?_
        by_cases g2 : 100 ≤ zs[k] ∧ zs[k] - 100 < 20
        · simp only [g1 g2, Bool.and_false]
        · simp only [decide_eq_false g2, Bool.false_and]
      clear hc h h1 HK
      generalize zs[k] = z at *
      by_cases z1 : 100 ≤ z
      · by_cases z2 : z - 100 < 20
        · obtain ⟨n, hn⟩ : ∃ n : Nat, z = 100 + (n : Int) := ⟨(z - 100).toNat, by omega⟩
          subst hn
          have hn2 : n < 27 := by omega
          have q2 := hB1.cell (n := n) (by omega)
          have e1 : (100 + (n : Int) - 100).toNat = n := by omega
          have e2 : (100 + (n : Int) - 100) = n := by omega
          rw [e1] at HS HN
          by_cases z3 : bs.getD n false = true
          · rw [z3] at q2
            have HSS : Hid _ := HS.out ⟨z1, z2⟩ z3
            clear HS HN z3
            go_wp2
            go_round
            case rel => exact ⟨k + 1, by omega, by go_num, HSS.out⟩
            case measure => simp [intOf]; omega
          · have z4 : bs.getD n false = false := by simpa using z3
            rw [z4] at q2
            have HNN : Hid (allB bs zs = false) := HN.out (fun _ => z4)
            clear HS HN z3 z4
            go_wp2
            go_ret
            exact ⟨ret_bool (by rw [HNN.out]), hb1⟩
        · have HNN : Hid (allB bs zs = false) := HN.out (fun g => absurd g.2 z2)
          clear HS HN
          go_wp2
          go_ret
          exact ⟨ret_bool (by rw [HNN.out]), hb1⟩
      · have HNN : Hid (allB bs zs = false) := HN.out (fun g => absurd g.1 z1)
        clear HS HN
        go_wp2
        go_ret
        exact ⟨ret_bool (by rw [HNN.out]), hb1⟩
    · have HE : Hid (allB bs zs = true) := allB_end HK.out hlt
      clear h h1 HK
      go_wp2
      go_ret
      exact ⟨ret_bool (by rw [HE.out]), hb1⟩
end Go.Proofs.Ytdniejpblhbjkab
