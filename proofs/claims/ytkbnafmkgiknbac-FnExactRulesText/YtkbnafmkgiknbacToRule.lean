/-
  Contracts of the law package's szRule, szRuleS, toRule, toRuleS over this translation. No statement is proved here.
-/
import Derived.Test.YtkbnafmkgiknbacRuleTree
import Derived.Test.YtkbnafmkgiknbacToExpr
namespace Go.Proofs.Ytkbnafmkgiknbac
open Go.RowKit

/-- How much rules weigh: their names' bytes, their expressions, and one for each. -/
def Rl.wt (r : Rl) : Nat := r.name.size + r.ex.wt
def Rl.wtL : List Rl → Nat
  | [] => 0
  | r :: rs => (1 + r.wt) + Rl.wtL rs
theorem Rl.wt_eq (r : Rl) : r.wt = r.name.size + (r.ex.text.size + Ex.wtL r.ex.kids) := by rw [Rl.wt, Ex.wt_eq]
theorem Rl.wtL_append (xs ys : List Rl) : Rl.wtL (xs ++ ys) = Rl.wtL xs + Rl.wtL ys := by
  induction xs with
  | nil => simp [Rl.wtL]
  | cons x xs ih => simp [Rl.wtL, ih]; omega
theorem Rl.wtL_take {xs : List Rl} {k : Nat} (h : k < xs.length) : Rl.wtL (xs.take (k + 1)) = Rl.wtL (xs.take k) + (1 + xs[k].wt) := by
  rw [List.take_succ_eq_append_getElem h, Rl.wtL_append]; simp [Rl.wtL]
theorem Rl.wtL_take_le (xs : List Rl) (k : Nat) : Rl.wtL (xs.take k) ≤ Rl.wtL xs := by
  have h : Rl.wtL xs = Rl.wtL (xs.take k) + Rl.wtL (xs.drop k) := by rw [← Rl.wtL_append, List.take_append_drop]
  omega
theorem Rl.length_le_wtL (xs : List Rl) : xs.length ≤ Rl.wtL xs := by
  induction xs with
  | nil => simp
  | cons x xs ih => simp [Rl.wtL]; omega
theorem Rl.nodesL_le_wtL (xs : List Rl) : Rl.nodesL xs ≤ Rl.wtL xs := by
  induction xs with
  | nil => simp [Rl.nodesL]
  | cons x xs ih =>
    have h1 := Ex.nodes_eq x.ex
    have h2 := Ex.nodesL_le_wtL _ x.ex.kids (Nat.le_refl _)
    have h3 := Rl.wt_eq x
    simp only [Rl.nodesL, Rl.wtL]; omega
def Rl.fit (r : Rl) : Prop := r.name.size ≤ maxLen ∧ r.ex.fit
def Rl.fitL : List Rl → Prop
  | [] => True
  | r :: rs => r.fit ∧ Rl.fitL rs
theorem Rl.fitL_at {xs : List Rl} (h : Rl.fitL xs) {i : Nat} (hi : i < xs.length) : xs[i].fit := by
  induction xs generalizing i with
  | nil => simp at hi
  | cons x xs ih =>
    simp only [Rl.fitL] at h
    cases i with
    | zero => exact h.1
    | succ i => exact ih h.2 (by simpa using hi)

set_option maxRecDepth 100000 in
theorem szRule_step (nm : ByteArray) (kd : Int) (tx : ByteArray) (n : Nat) (a : Option Addr) (c : Nat) (wt : Nat) (l : Int) (w : World) (h0 : 0 ≤ l) (h1 : l ≤ 1048576) (hn : nm.size ≤ maxLen) (hs : tx.size ≤ maxLen)
    (IH : ∀ (W : World) (l' : Int), Below w.heap.size w W → 0 ≤ l' → l' ≤ 1048576 → Calls Try.prog 44 #[.slice a n c, .int .i64 l'] W fun e w' => ∃ r, e = .returned (.int .i64 r) ∧ SzEnd wt l' r ∧ Below W.heap.size W w') :
    Calls Try.prog 50 #[.agg #[.string nm, .int .i64 kd, .string tx, .slice a n c], .int .i64 l] w fun e w' => ∃ r, e = .returned (.int .i64 r) ∧ SzEnd (nm.size + (tx.size + wt)) l r ∧ Below w.heap.size w w' := by
  unfold maxLen at hn
  have B := (Below.refl w.heap.size w).alloc (Nat.le_refl _) (.cells #[.string nm, .int .i64 kd, .string tx, .slice a n c] 103)
  by_cases h : l < (nm.size : Int)
  · clear IH
    go_enter Try.func50, Try.ntmps50
    go_wp2
    go_ret
    exact ⟨_, rfl, .inl rfl, B⟩
  · have HX : Hid (Calls Try.prog 17 #[.agg #[.int .i64 kd, .string tx, .slice a n c], .int .i64 (l - nm.size)] (w.alloc (.cells #[.string nm, .int .i64 kd, .string tx, .slice a n c] 103)) fun e w' => ∃ r, e = .returned (.int .i64 r) ∧ SzEnd (tx.size + wt) (l - nm.size) r ∧ Below (w.alloc (.cells #[.string nm, .int .i64 kd, .string tx, .slice a n c] 103)).heap.size (w.alloc (.cells #[.string nm, .int .i64 kd, .string tx, .slice a n c] 103)) w') :=
      szExpr_step kd tx n a c wt (l - nm.size) _ (by omega) (by omega) hs (fun W l' hW => IH W l' (B.trans (hW.mono B.size)))
    clear IH hs
    go_enter Try.func50, Try.ntmps50
    go_wp2_with fail
    refine HX.out.mono ?_
    rintro e w1 ⟨r, rfl, hr, hb⟩
    have B1 := B.trans (hb.mono B.size)
    clear HX
    rcases hr with rfl | ⟨hr0, hr1⟩
    · go_wp2
      go_ret
      exact ⟨_, rfl, .inl rfl, B1⟩
    · have HR : Hid (r = l - nm.size - (tx.size + wt : Nat)) := hr1
      clear hr1
      go_wp2
      go_ret
      exact ⟨_, rfl, .inr ⟨hr0, by rw [HR.out]; omega⟩, B1⟩

set_option maxRecDepth 100000 in
theorem szRuleS_any (rs : List Rl) (a : Option Addr) (c : Nat) (l : Int) (w : World) (h : RD w (.slice a rs.length c) (ruD rs)) (hm : rs.length ≤ maxLen) (hf : Rl.fitL rs) (h0 : 0 ≤ l) (h1 : l ≤ 1048576) :
    Calls Try.prog 22 #[.slice a rs.length c, .int .i64 l] w fun e w' => ∃ r, e = .returned (.int .i64 r) ∧ SzEnd (Rl.wtL rs) l r ∧ Below w.heap.size w w' := by
  unfold maxLen at hm
  by_cases hbig : l < (rs.length : Int)
  · go_enter Try.func22, Try.ntmps22
    go_wp2
    go_ret
    exact ⟨_, rfl, .inl rfl, Below.refl _ _⟩
  · go_enter Try.func22, Try.ntmps22
    go_wp2
    go_loopw [1, 5] (fun sl i wr => ∃ (k : Nat) (x : Int), k ≤ rs.length ∧ i = .int .i64 k ∧ sl = .int .i64 x ∧ 0 ≤ x ∧ Hid (x + (rs.length - k : Nat) + Rl.wtL (rs.take k) = l) ∧ Below w.heap.size w wr) (fun _ i _ => rs.length - (intOf i).toNat)
    case atStart => exact ⟨0, l - rs.length, Nat.zero_le _, rfl, rfl, by omega, by show _ = _; simp [Rl.wtL], Below.refl _ _⟩
    case round =>
      obtain ⟨k, x, hk, rfl, rfl, hx0, HXL, hbel⟩ := hrel
      by_cases hlt : k < rs.length
      · obtain ⟨b1, o1, rfl, hb1, q0, q1, q2, a1, c1, q3, r1⟩ := (h.later hbel).ru hlt
        obtain ⟨fn, fe⟩ := Rl.fitL_at hf hlt
        obtain ⟨ft, fk, fl⟩ := (Ex.fit_eq rs[k].ex).1 fe
        have HW : Hid (Rl.wtL (rs.take (k + 1)) = Rl.wtL (rs.take k) + (1 + (rs[k].name.size + (rs[k].ex.text.size + Ex.wtL rs[k].ex.kids)))) := by show _ = _; rw [Rl.wtL_take hlt, Rl.wt_eq]
        have hx1 : x ≤ 1048576 := by have := HXL.out; omega
        have X : Hid (Calls Try.prog 50 #[.agg #[.string rs[k].name, .int .i64 rs[k].ex.kind, .string rs[k].ex.text, .slice a1 rs[k].ex.kids.length c1], .int .i64 x] wr fun e w' => ∃ r, e = .returned (.int .i64 r) ∧ SzEnd (rs[k].name.size + (rs[k].ex.text.size + Ex.wtL rs[k].ex.kids)) x r ∧ Below wr.heap.size wr w') :=
          szRule_step rs[k].name rs[k].ex.kind rs[k].ex.text rs[k].ex.kids.length a1 c1 (Ex.wtL rs[k].ex.kids) x wr hx0 hx1 fn ft
            (fun W l' hW hl0 hl1 => szExprS_any _ rs[k].ex.kids (Nat.le_refl _) a1 c1 l' W (r1.later hW) fk fl hl0 hl1)
        clear h r1 ft fk fl fn fe hf
        go_wp2_with fail
        refine X.out.mono ?_
        rintro e w1 ⟨r, rfl, hr, hb2⟩
        have B2 := hbel.trans (hb2.mono hbel.size)
        clear X hb2 q0 q1 q2 q3
        rcases hr with rfl | ⟨hr0, hr1⟩
        · go_wp2
          go_ret
          exact ⟨_, rfl, .inl rfl, B2⟩
        · have HR : Hid (r = x - (rs[k].name.size + (rs[k].ex.text.size + Ex.wtL rs[k].ex.kids) : Nat)) := hr1
          clear hr1
          go_wp2
          go_roundw
          case rel => exact ⟨k + 1, r, by omega, by go_num, rfl, hr0, by show _ = _; rw [HW.out]; have h1 := HXL.out; have h2 := HR.out; omega, B2⟩
          case measure => simp [intOf]; omega
      · have e : k = rs.length := by omega
        subst e
        have HE : Hid (x = l - Rl.wtL rs) := by have := HXL.out; rw [List.take_length] at this; show _ = _; omega
        clear HXL
        go_wp2
        go_ret
        exact ⟨_, rfl, .inr ⟨hx0, HE.out⟩, hbel⟩

theorem Try.infoRule : (Try.prog.info? 77).map (fun i => (i.zero, i.size, i.bytes)) = some (some (.agg #[.string ByteArray.empty, .int .i64 0, .string ByteArray.empty, .slice none 0 0]), 4, 64) := by kernel_rfl

set_option maxRecDepth 100000 in
theorem toRule_step (nm : ByteArray) (kd : Int) (tx : ByteArray) (n : Nat) (a : Option Addr) (c : Nat) (ks : List Ex) (w : World)
    (IH : ∀ (W : World), Below w.heap.size w W → Calls Try.prog 45 #[.slice a n c] W fun e w' => ∃ v S, e = .returned v ∧ OD w' W.heap.size v (exD ks) S ∧ Below W.heap.size W w') :
    Calls Try.prog 51 #[.agg #[.string nm, .int .i64 kd, .string tx, .slice a n c]] w fun e w' => ∃ v S, e = .returned (.agg #[.string nm, .int .i64 kd, .string tx, v]) ∧ OD w' w.heap.size v (exD ks) S ∧ Below w.heap.size w w' := by
  go_enter Try.func51, Try.ntmps51
  have HIH : Hid (∀ (W : World), Below w.heap.size w W → Calls Try.prog 19 #[.agg #[.int .i64 kd, .string tx, .slice a n c]] W fun e w' => ∃ v S, e = .returned (.agg #[.int .i64 kd, .string tx, v]) ∧ OD w' W.heap.size v (exD ks) S ∧ Below W.heap.size W w') :=
    fun W hW => toExpr_step kd tx n a c ks W (fun W' hW' => IH W' (hW.trans (hW'.mono hW.size)))
  clear IH
  have B : Below w.heap.size w (((w.alloc (.cells #[.string nm, .int .i64 kd, .string tx, .slice a n c] 103)).alloc (.cells #[.string ⟨#[]⟩, .int .i64 0, .string ⟨#[]⟩, .slice none 0 0] 77)).alloc (.cells #[.string nm, .int .i64 0, .string ⟨#[]⟩, .slice none 0 0] 77)) :=
    (((Below.refl _ _).alloc (Nat.le_refl _) _).alloc (by simp) _).alloc (by simp; omega) _
  go_wp2_with fail
  refine (HIH.out _ B).mono ?_
  rintro e w1 ⟨v, S, rfl, O1, hb1⟩
  obtain ⟨hc, hf⟩ := bcell hb1
  have hz := hb1.size
  simp only [World.size_alloc] at hc hf hz
  have B1 := B.trans (hb1.mono B.size)
  obtain ⟨a1, c1, rfl, _⟩ := OD.exShape O1
  clear HIH B hb1
  go_wp2
  refine bodyPost_ret (v := .agg #[.string nm, .int .i64 kd, .string tx, .slice a1 ks.length c1]) (by simp [results, Try.results51, go_sem, hc]) rfl ⟨.slice a1 ks.length c1, S, rfl, ?_, ?_⟩
  · refine (O1.kept (T := fun k => k < w.heap.size + 1 + 1 + 1) ?_ (fun k hk hk2 => ?_)).base (by simp; omega)
    · repeat refine Within.setCell ?_ _ _ (by simp)
      exact Within.refl _ _
    · have := (O1.lt k hk).1
      simp at this
      omega
  · repeat refine Below.setCell ?_ (by simp; try omega) _
    exact B1

theorem zeroRu_cells (n : Nat) : (List.replicate n ()).flatMap (fun _ => [Dat.val (.string ByteArray.empty), .val (.int .i64 0), .val (.string ByteArray.empty), .sl 0 []]) = (List.replicate n (Rl.mk ByteArray.empty (Ex.mk 0 ByteArray.empty []))).flatMap Rl.cells := by
  induction n with
  | zero => rfl
  | succ n ih => rw [List.replicate_succ, List.replicate_succ, List.flatMap_cons, List.flatMap_cons, ih]; simp [Rl.cells, exD, Ex.kind_mk, Ex.text_mk, Ex.kids_mk]

theorem putR_step {ws : List Rl} {x : Rl} {k : Nat} (h : k < ws.length) : (ws.take k ++ List.replicate (ws.length - k) x).set k ws[k] = ws.take (k + 1) ++ List.replicate (ws.length - (k + 1)) x := by
  have hl : (ws.take k).length = k := by simp; omega
  have e : ws.length - k = (ws.length - (k + 1)) + 1 := by omega
  rw [List.set_append_right _ _ (by omega), hl, Nat.sub_self, e, List.replicate_succ, List.set_cons_zero, List.take_succ_eq_append_getElem h, List.append_assoc]
  rfl

/-- The four cells of a rule stored into a list under construction. -/
theorem OL.putRu {w : World} {base g n c : Nat} {e : TypeId} {L : List Rl} {S : Nat → Prop} (h : OL w base e 4 (.slice (some ⟨g, 0, none⟩) n c) n (L.flatMap Rl.cells) S) {i : Nat} (hi : i < L.length) (nm : ByteArray) (kd : Int) (tx : ByteArray) (u : Value) (ks : List Ex) (T : Nat → Prop) (hu : OD w base u (exD ks) T) (hdis : ∀ k, T k → ¬ S k) :
    ∃ S', OL ((((w.setCell ⟨g, i * 4, none⟩ (.string nm)).setCell ⟨g, i * 4 + 1, none⟩ (.int .i64 kd)).setCell ⟨g, i * 4 + 2, none⟩ (.string tx)).setCell ⟨g, i * 4 + 3, none⟩ u) base e 4 (.slice (some ⟨g, 0, none⟩) n c) n ((L.set i ⟨nm, .mk kd tx ks⟩).flatMap Rl.cells) S' ∧ (∀ k, S' k → S k ∨ T k) ∧ S g ∧
      w.grownBy ((((w.setCell ⟨g, i * 4, none⟩ (.string nm)).setCell ⟨g, i * 4 + 1, none⟩ (.int .i64 kd)).setCell ⟨g, i * 4 + 2, none⟩ (.string tx)).setCell ⟨g, i * 4 + 3, none⟩ u) (some g) ∧
      ((∃ z, w.cell? ⟨g, i * 4, none⟩ = some z) ∧ w.frozen? ⟨g, i * 4, none⟩ = false) ∧
      ((∃ z, (w.setCell ⟨g, i * 4, none⟩ (.string nm)).cell? ⟨g, i * 4 + 1, none⟩ = some z) ∧ (w.setCell ⟨g, i * 4, none⟩ (.string nm)).frozen? ⟨g, i * 4 + 1, none⟩ = false) ∧
      ((∃ z, ((w.setCell ⟨g, i * 4, none⟩ (.string nm)).setCell ⟨g, i * 4 + 1, none⟩ (.int .i64 kd)).cell? ⟨g, i * 4 + 2, none⟩ = some z) ∧ ((w.setCell ⟨g, i * 4, none⟩ (.string nm)).setCell ⟨g, i * 4 + 1, none⟩ (.int .i64 kd)).frozen? ⟨g, i * 4 + 2, none⟩ = false) ∧
      ((∃ z, (((w.setCell ⟨g, i * 4, none⟩ (.string nm)).setCell ⟨g, i * 4 + 1, none⟩ (.int .i64 kd)).setCell ⟨g, i * 4 + 2, none⟩ (.string tx)).cell? ⟨g, i * 4 + 3, none⟩ = some z) ∧ (((w.setCell ⟨g, i * 4, none⟩ (.string nm)).setCell ⟨g, i * 4 + 1, none⟩ (.int .i64 kd)).setCell ⟨g, i * 4 + 2, none⟩ (.string tx)).frozen? ⟨g, i * 4 + 3, none⟩ = false) := by
  have l0 := flat_lt Rl.cells_len hi (show 0 < 4 by decide)
  have l1 := flat_lt Rl.cells_len hi (show 1 < 4 by decide)
  have l2 := flat_lt Rl.cells_len hi (show 2 < 4 by decide)
  have l3 := flat_lt Rl.cells_len hi (show 3 < 4 by decide)
  obtain ⟨S1, O1, hS1, G1, hSg, c0, f0⟩ := h.put l0 (.string nm) (.val (.string nm)) (fun _ => False) (.val _) (fun _ h => h.elim)
  have hS1' : ∀ k, S1 k → S k := fun k hk => (hS1 k hk).resolve_right id
  obtain ⟨S2, O2, hS2, G2, _, c1, f1⟩ := O1.put (by simpa using l1) (.int .i64 kd) (.val (.int .i64 kd)) (fun _ => False) (.val _) (fun _ h => h.elim)
  have hS2' : ∀ k, S2 k → S k := fun k hk => hS1' k ((hS2 k hk).resolve_right id)
  obtain ⟨S3, O3, hS3, G3, _, c2, f2⟩ := O2.put (by simpa using l2) (.string tx) (.val (.string tx)) (fun _ => False) (.val _) (fun _ h => h.elim)
  have hS3' : ∀ k, S3 k → S k := fun k hk => hS2' k ((hS3 k hk).resolve_right id)
  have W13 : Within w (((w.setCell ⟨g, i * 4 + 0, none⟩ (.string nm)).setCell ⟨g, i * 4 + 1, none⟩ (.int .i64 kd)).setCell ⟨g, i * 4 + 2, none⟩ (.string tx)) (fun k => k = g) :=
    ((Within.of_grown G1 (fun k hk => by simpa using hk.symm)).trans (Within.of_grown G2 (fun k hk => by simpa using hk.symm))).trans (Within.of_grown G3 (fun k hk => by simpa using hk.symm))
  have hu2 := hu.kept W13 (fun k hk e => hdis k hk (e ▸ hSg))
  obtain ⟨S4, O4, hS4, G4, _, c3, f3⟩ := O3.put (by simpa using l3) u (exD ks) T hu2 (fun k hk hk2 => hdis k hk (hS3' k hk2))
  have e3 : ((((L.flatMap Rl.cells).set (i * 4 + 0) (.val (.string nm))).set (i * 4 + 1) (.val (.int .i64 kd))).set (i * 4 + 2) (.val (.string tx))).set (i * 4 + 3) (exD ks) = (L.set i ⟨nm, .mk kd tx ks⟩).flatMap Rl.cells := by
    have h1 := flat_set Rl.cells_len hi (show 0 < 4 by decide) (.val (.string nm)) ⟨nm, L[i].ex⟩ (by simp [Rl.cells])
    have hi1 : i < (L.set i ⟨nm, L[i].ex⟩).length := by simpa using hi
    have h2 := flat_set Rl.cells_len hi1 (show 1 < 4 by decide) (.val (.int .i64 kd)) ⟨nm, .mk kd L[i].ex.text L[i].ex.kids⟩ (by simp [Rl.cells, Ex.kind_mk, Ex.text_mk, Ex.kids_mk])
    have hi2 : i < ((L.set i ⟨nm, L[i].ex⟩).set i ⟨nm, .mk kd L[i].ex.text L[i].ex.kids⟩).length := by simpa using hi
    have h3 := flat_set Rl.cells_len hi2 (show 2 < 4 by decide) (.val (.string tx)) ⟨nm, .mk kd tx L[i].ex.kids⟩ (by simp [Rl.cells, Ex.kind_mk, Ex.text_mk, Ex.kids_mk])
    have hi3 : i < (((L.set i ⟨nm, L[i].ex⟩).set i ⟨nm, .mk kd L[i].ex.text L[i].ex.kids⟩).set i ⟨nm, .mk kd tx L[i].ex.kids⟩).length := by simpa using hi
    have h4 := flat_set Rl.cells_len hi3 (show 3 < 4 by decide) (exD ks) ⟨nm, .mk kd tx ks⟩ (by simp [Rl.cells, Ex.kind_mk, Ex.text_mk, Ex.kids_mk])
    rw [h1, h2, h3, h4, List.set_set, List.set_set, List.set_set]
  rw [e3] at O4
  exact ⟨S4, O4, fun k hk => (hS4 k hk).imp (hS3' k) id, hSg, grownBy_trans (grownBy_trans (grownBy_trans G1 G2) G3) G4, ⟨c0, f0⟩, ⟨c1, f1⟩, ⟨c2, f2⟩, ⟨c3, f3⟩⟩

set_option maxRecDepth 100000 in
theorem toRuleS_any (rs : List Rl) (a : Option Addr) (c : Nat) (w : World) (h : RD w (.slice a rs.length c) (ruD rs)) (hn : Rl.nodesL rs ≤ 1099511627776) :
    Calls Try.prog 24 #[.slice a rs.length c] w fun e w' => ∃ v S, e = .returned v ∧ OD w' w.heap.size v (ruD rs) S ∧ Below w.heap.size w w' := by
  have hlen := Rl.length_le rs
  obtain ⟨W, hmk, O0, B0⟩ := make_ownL (P := Try.prog) w 29 77 (.agg #[.string ByteArray.empty, .int .i64 0, .string ByteArray.empty, .slice none 0 0]) 64 [.string ByteArray.empty, .int .i64 0, .string ByteArray.empty, .slice none 0 0] [.val (.string ByteArray.empty), .val (.int .i64 0), .val (.string ByteArray.empty), .sl 0 []] rs.length Try.underlying29 Try.infoRule rfl (by decide) (by omega) (by decide) (by intro u hu; simp at hu; rcases hu with rfl | rfl | rfl | rfl <;> rfl) rfl
    (by intro W base i hi hi'; match i, hi with | 0, _ => exact .val _ | 1, _ => exact .val _ | 2, _ => exact .val _ | 3, _ => exact .nil 0 rfl)
  rw [zeroRu_cells] at O0
  go_enter Try.func24, Try.ntmps24
  go_wp2
  go_loopw [4] (fun i wr => ∃ (k : Nat) (S : Nat → Prop), k ≤ rs.length ∧ i = .int .i64 k ∧ OL wr w.heap.size 77 4 (.slice (some ⟨w.heap.size, 0, none⟩) rs.length rs.length) rs.length ((rs.take k ++ List.replicate (rs.length - k) (Rl.mk ByteArray.empty (Ex.mk 0 ByteArray.empty []))).flatMap Rl.cells) S ∧ Below w.heap.size w wr) (fun i _ => rs.length - (intOf i).toNat)
  case atStart => exact ⟨0, _, Nat.zero_le _, rfl, by simpa using O0, B0⟩
  case round =>
    obtain ⟨k, S, hk, rfl, hown, hbel⟩ := hrel
    by_cases hlt : k < rs.length
    · obtain ⟨b1, o1, rfl, hb1, q0, q1, q2, a1, c1, q3, r1⟩ := (h.later hbel).ru hlt
      have hk2 := Rl.nodes_le hlt
      rw [Ex.nodes_eq] at hk2
      have X : Hid (Calls Try.prog 51 #[.agg #[.string rs[k].name, .int .i64 rs[k].ex.kind, .string rs[k].ex.text, .slice a1 rs[k].ex.kids.length c1]] wr fun e w' => ∃ v S, e = .returned (.agg #[.string rs[k].name, .int .i64 rs[k].ex.kind, .string rs[k].ex.text, v]) ∧ OD w' wr.heap.size v (exD rs[k].ex.kids) S ∧ Below wr.heap.size wr w') :=
        toRule_step rs[k].name rs[k].ex.kind rs[k].ex.text rs[k].ex.kids.length a1 c1 rs[k].ex.kids wr (fun W hW => toExprS_any _ rs[k].ex.kids (Nat.lt_succ_self _) a1 c1 W (r1.later hW) (by omega))
      have HP : Hid ((rs.take k ++ List.replicate (rs.length - k) (Rl.mk ByteArray.empty (Ex.mk 0 ByteArray.empty []))).set k ⟨rs[k].name, .mk rs[k].ex.kind rs[k].ex.text rs[k].ex.kids⟩ = rs.take (k + 1) ++ List.replicate (rs.length - (k + 1)) (Rl.mk ByteArray.empty (Ex.mk 0 ByteArray.empty []))) := by
        have e : (⟨rs[k].name, .mk rs[k].ex.kind rs[k].ex.text rs[k].ex.kids⟩ : Rl) = rs[k] := by cases rs[k] with | mk nm ex => cases ex; rfl
        show _ = _
        rw [e]; exact putR_step hlt
      have hkL : k < (rs.take k ++ List.replicate (rs.length - k) (Rl.mk ByteArray.empty (Ex.mk 0 ByteArray.empty []))).length := by simp; omega
      generalize rs.take k ++ List.replicate (rs.length - k) (Rl.mk ByteArray.empty (Ex.mk 0 ByteArray.empty [])) = L at *
      generalize rs[k].ex.kids = ks at *
      generalize rs[k].ex.kind = kd at *
      generalize rs[k].ex.text = tx at *
      generalize rs[k].name = nm at *
      clear h r1 hmk O0 B0 hk2
      go_wp2_with fail
      refine X.out.mono ?_
      rintro e w1 ⟨v, T, rfl, O1, hb2⟩
      obtain ⟨av, cv, rfl, _⟩ := OD.exShape O1
      have B1 := hbel.trans (hb2.mono hbel.size)
      have own1 := hown.later hb2
      have hsz := hbel.size
      obtain ⟨S', O2, hS', hSg, G2, ⟨⟨z0, c0⟩, f0⟩, ⟨⟨z1, d1⟩, f1⟩, ⟨⟨z2, d2⟩, f2⟩, ⟨⟨z3, d3⟩, f3⟩⟩ := own1.putRu hkL nm kd tx (.slice av ks.length cv) ks T (O1.base hsz) (fun k hk hk2 => by have h1 := (O1.lt k hk).1; have h2 := (hown.lt k hk2).2; omega)
      rw [HP.out] at O2
      have B2 := B1.grown G2 B1.size (fun k hk => by cases hk; exact Nat.le_refl _)
      have hz1 : w.heap.size < w1.heap.size := Nat.lt_of_lt_of_le (hown.lt _ hSg).2 hb2.size
      clear X hown own1 O1 hbel hb2 HP G2 q0 q1 q2 q3 hb1 hkL B1
      go_wp2
      go_roundw
      case rel => exact ⟨k + 1, S', by omega, by go_num, O2, B2⟩
      case measure => simp [intOf]; omega
    · have e : k = rs.length := by omega
      subst e
      go_wp2
      go_ret
      exact ⟨_, _, rfl, by simpa [ruD] using hown.od, hbel⟩
end Go.Proofs.Ytkbnafmkgiknbac
