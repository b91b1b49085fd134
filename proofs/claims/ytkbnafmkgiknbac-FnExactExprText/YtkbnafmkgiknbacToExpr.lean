/-
  Contracts of the law package's szExpr, szExprS, toExpr, toExprS over this translation. No statement is proved here.
-/
import Derived.Test.YtkbnafmkgiknbacExTree
import Derived.Test.YtkbnafmkgiknbacOwnL
import Derived.Test.YtkbnafmkgiknbacChecked
namespace Go.Proofs.Ytkbnafmkgiknbac
open Go.RowKit

mutual
/-- How much an expression weighs: its texts' bytes, and one for each kid. -/
def Ex.wt : Ex → Nat
  | .mk _ t ks => t.size + Ex.wtL ks
def Ex.wtL : List Ex → Nat
  | [] => 0
  | x :: xs => (1 + x.wt) + Ex.wtL xs
end
theorem Ex.wt_eq (x : Ex) : x.wt = x.text.size + Ex.wtL x.kids := by cases x; simp [Ex.wt, Ex.text, Ex.kids]
theorem Ex.wtL_append (xs ys : List Ex) : Ex.wtL (xs ++ ys) = Ex.wtL xs + Ex.wtL ys := by
  induction xs with
  | nil => simp [Ex.wtL]
  | cons x xs ih => simp [Ex.wtL, ih]; omega
theorem Ex.wtL_take {xs : List Ex} {k : Nat} (h : k < xs.length) : Ex.wtL (xs.take (k + 1)) = Ex.wtL (xs.take k) + (1 + xs[k].wt) := by
  rw [List.take_succ_eq_append_getElem h, Ex.wtL_append]; simp [Ex.wtL]
theorem Ex.length_le_wtL (xs : List Ex) : xs.length ≤ Ex.wtL xs := by
  induction xs with
  | nil => simp
  | cons x xs ih => simp [Ex.wtL]; omega
theorem Ex.nodesL_le_wtL : ∀ (N : Nat) (xs : List Ex), Ex.nodesL xs ≤ N → Ex.nodesL xs ≤ Ex.wtL xs := by
  intro N
  induction N with
  | zero => intro xs h; omega
  | succ N ih =>
    intro xs h
    induction xs with
    | nil => simp [Ex.nodesL]
    | cons x xs ih2 =>
      have hx := Ex.nodes_eq x
      have hw := Ex.wt_eq x
      simp only [Ex.nodesL] at h
      have h1 := ih x.kids (by omega)
      have h2 := ih2 (by omega)
      simp only [Ex.nodesL, Ex.wtL]; omega

mutual
/-- All its texts and lists are no longer than a machine can hold. -/
def Ex.fit : Ex → Prop
  | .mk _ t ks => t.size ≤ maxLen ∧ ks.length ≤ maxLen ∧ Ex.fitL ks
def Ex.fitL : List Ex → Prop
  | [] => True
  | x :: xs => x.fit ∧ Ex.fitL xs
end
theorem Ex.fit_eq (x : Ex) : x.fit ↔ x.text.size ≤ maxLen ∧ x.kids.length ≤ maxLen ∧ Ex.fitL x.kids := by cases x; simp [Ex.fit, Ex.text, Ex.kids]
theorem Ex.fitL_at {xs : List Ex} (h : Ex.fitL xs) {i : Nat} (hi : i < xs.length) : xs[i].fit := by
  induction xs generalizing i with
  | nil => simp at hi
  | cons x xs ih =>
    simp only [Ex.fitL] at h
    cases i with
    | zero => exact h.1
    | succ i => exact ih h.2 (by simpa using hi)

/-- What the measuring tells. -/
def SzEnd (wt : Nat) (l r : Int) : Prop := r = -1 ∨ (0 ≤ r ∧ r = l - wt)

set_option maxRecDepth 100000 in
theorem szExpr_step (kd : Int) (tx : ByteArray) (n : Nat) (a : Option Addr) (c : Nat) (wt : Nat) (l : Int) (w : World) (h0 : 0 ≤ l) (h1 : l ≤ 1048576) (hs : tx.size ≤ maxLen)
    (IH : ∀ (W : World) (l' : Int), Below w.heap.size w W → 0 ≤ l' → l' ≤ 1048576 → Calls Try.prog 44 #[.slice a n c, .int .i64 l'] W fun e w' => ∃ r, e = .returned (.int .i64 r) ∧ SzEnd wt l' r ∧ Below W.heap.size W w') :
    Calls Try.prog 17 #[.agg #[.int .i64 kd, .string tx, .slice a n c], .int .i64 l] w fun e w' => ∃ r, e = .returned (.int .i64 r) ∧ SzEnd (tx.size + wt) l r ∧ Below w.heap.size w w' := by
  unfold maxLen at hs
  have B := (Below.refl w.heap.size w).alloc (Nat.le_refl _) (.cells #[.int .i64 kd, .string tx, .slice a n c] 37)
  by_cases h : l < (tx.size : Int)
  · clear IH
    go_enter Try.func17, Try.ntmps17
    go_wp2
    go_ret
    exact ⟨_, rfl, .inl rfl, B⟩
  · have X := IH (w.alloc (.cells #[.int .i64 kd, .string tx, .slice a n c] 37)) (l - tx.size) B (by omega) (by omega)
    have HX : Hid (Calls Try.prog 44 #[.slice a n c, .int .i64 (l - tx.size)] (w.alloc (.cells #[.int .i64 kd, .string tx, .slice a n c] 37)) fun e w' => ∃ r, e = .returned (.int .i64 r) ∧ SzEnd wt (l - tx.size) r ∧ Below (w.alloc (.cells #[.int .i64 kd, .string tx, .slice a n c] 37)).heap.size (w.alloc (.cells #[.int .i64 kd, .string tx, .slice a n c] 37)) w') := X
    clear X IH
    go_enter Try.func17, Try.ntmps17
    go_wp2_with fail
    refine HX.out.mono ?_
    rintro e w1 ⟨r, rfl, hr, hb⟩
    have B1 := B.trans (hb.mono B.size)
    clear HX
    rcases hr with rfl | ⟨hr0, hr1⟩
    · go_wp2
      go_ret
      exact ⟨_, rfl, .inl rfl, B1⟩
    · have HR : Hid (r = l - tx.size - wt) := hr1
      clear hr1
      go_wp2
      go_ret
      exact ⟨_, rfl, .inr ⟨hr0, by rw [HR.out]; omega⟩, B1⟩

set_option maxRecDepth 100000 in
theorem szExprS_any : ∀ (N : Nat) (xs : List Ex), Ex.nodesL xs ≤ N → ∀ (a : Option Addr) (c : Nat) (l : Int) (w : World), RD w (.slice a xs.length c) (exD xs) → xs.length ≤ maxLen → Ex.fitL xs → 0 ≤ l → l ≤ 1048576 →
    Calls Try.prog 44 #[.slice a xs.length c, .int .i64 l] w fun e w' => ∃ r, e = .returned (.int .i64 r) ∧ SzEnd (Ex.wtL xs) l r ∧ Below w.heap.size w w' := by
  intro N
  induction N with
  | zero =>
    intro xs hN a c l w h hm hf h0 h1
    have : xs.length = 0 := by have := Ex.length_le xs; omega
    have e : xs = [] := List.eq_nil_of_length_eq_zero this
    subst e
    go_enter Try.func44, Try.ntmps44
    go_wp2
    go_loopw [1, 5] (fun sl i wr => i = .int .i64 0 ∧ sl = .int .i64 l ∧ wr = w) (fun _ _ _ => 0)
    case atStart => exact ⟨rfl, rfl, rfl⟩
    case round =>
      obtain ⟨rfl, rfl, rfl⟩ := hrel
      go_wp2
      go_ret
      exact ⟨_, rfl, .inr ⟨h0, by simp [Ex.wtL]⟩, Below.refl _ _⟩
  | succ N ih =>
    intro xs hN a c l w h hm hf h0 h1
    unfold maxLen at hm
    by_cases hbig : l < (xs.length : Int)
    · clear ih
      go_enter Try.func44, Try.ntmps44
      go_wp2
      go_ret
      exact ⟨_, rfl, .inl rfl, Below.refl _ _⟩
    · have HIH : Hid (∀ (xs : List Ex), Ex.nodesL xs ≤ N → ∀ (a : Option Addr) (c : Nat) (l : Int) (w : World), RD w (.slice a xs.length c) (exD xs) → xs.length ≤ maxLen → Ex.fitL xs → 0 ≤ l → l ≤ 1048576 →
        Calls Try.prog 44 #[.slice a xs.length c, .int .i64 l] w fun e w' => ∃ r, e = .returned (.int .i64 r) ∧ SzEnd (Ex.wtL xs) l r ∧ Below w.heap.size w w') := ih
      clear ih
      go_enter Try.func44, Try.ntmps44
      go_wp2
      go_loopw [1, 5] (fun sl i wr => ∃ (k : Nat) (x : Int), k ≤ xs.length ∧ i = .int .i64 k ∧ sl = .int .i64 x ∧ 0 ≤ x ∧ Hid (x + (xs.length - k : Nat) + Ex.wtL (xs.take k) = l) ∧ Below w.heap.size w wr) (fun _ i _ => xs.length - (intOf i).toNat)
      case atStart => exact ⟨0, l - xs.length, Nat.zero_le _, rfl, rfl, by omega, by show _ = _; simp [Ex.wtL], Below.refl _ _⟩
      case round =>
        obtain ⟨k, x, hk, rfl, rfl, hx0, HXL, hbel⟩ := hrel
        by_cases hlt : k < xs.length
        · obtain ⟨b1, o1, rfl, hb1, q0, q1, a1, c1, q2, r1⟩ := (h.later hbel).ex hlt
          have hkid := Ex.kids_lt hlt
          obtain ⟨ft, fk, fl⟩ := (Ex.fit_eq xs[k]).1 (Ex.fitL_at hf hlt)
          have HW : Hid (Ex.wtL (xs.take (k + 1)) = Ex.wtL (xs.take k) + (1 + (xs[k].text.size + Ex.wtL xs[k].kids))) := by show _ = _; rw [Ex.wtL_take hlt, Ex.wt_eq]
          have hx1 : x ≤ 1048576 := by have := HXL.out; omega
          have IH2 : ∀ (W : World) (l' : Int), Below wr.heap.size wr W → 0 ≤ l' → l' ≤ 1048576 → Calls Try.prog 44 #[.slice a1 xs[k].kids.length c1, .int .i64 l'] W fun e w' => ∃ r, e = .returned (.int .i64 r) ∧ SzEnd (Ex.wtL xs[k].kids) l' r ∧ Below W.heap.size W w' :=
            fun W l' hW hl0 hl1 => HIH.out xs[k].kids (by omega) a1 c1 l' W (r1.later hW) fk fl hl0 hl1
          have X : Hid (Calls Try.prog 17 #[.agg #[.int .i64 xs[k].kind, .string xs[k].text, .slice a1 xs[k].kids.length c1], .int .i64 x] wr fun e w' => ∃ r, e = .returned (.int .i64 r) ∧ SzEnd (xs[k].text.size + Ex.wtL xs[k].kids) x r ∧ Below wr.heap.size wr w') :=
            szExpr_step xs[k].kind xs[k].text xs[k].kids.length a1 c1 (Ex.wtL xs[k].kids) x wr hx0 hx1 ft IH2
          clear IH2 HIH h r1 ft fk fl hf
          go_wp2_with fail
          refine X.out.mono ?_
          rintro e w1 ⟨r, rfl, hr, hb2⟩
          have B2 := hbel.trans (hb2.mono hbel.size)
          clear X hb2 q0 q1 q2
          rcases hr with rfl | ⟨hr0, hr1⟩
          · go_wp2
            go_ret
            exact ⟨_, rfl, .inl rfl, B2⟩
          · have HR : Hid (r = x - (xs[k].text.size + Ex.wtL xs[k].kids : Nat)) := hr1
            clear hr1
            go_wp2
            go_roundw
            case rel => exact ⟨k + 1, r, by omega, by go_num, rfl, hr0, by show _ = _; rw [HW.out]; have h1 := HXL.out; have h2 := HR.out; omega, B2⟩
            case measure => simp [intOf]; omega
        · have e : k = xs.length := by omega
          subst e
          have HE : Hid (x = l - Ex.wtL xs) := by have := HXL.out; rw [List.take_length] at this; show _ = _; omega
          clear HXL
          go_wp2
          go_ret
          exact ⟨_, rfl, .inr ⟨hx0, HE.out⟩, hbel⟩

theorem Try.infoExpr : (Try.prog.info? 42).map (fun i => (i.zero, i.size, i.bytes)) = some (some (.agg #[.int .i64 0, .string ByteArray.empty, .slice none 0 0]), 3, 48) := by kernel_rfl

theorem bcell {W w1 : World} (hb : Below W.heap.size W w1) : (∀ b o, b < W.heap.size → w1.cell? ⟨b, o, none⟩ = W.cell? ⟨b, o, none⟩) ∧ (∀ b o, b < W.heap.size → w1.frozen? ⟨b, o, none⟩ = W.frozen? ⟨b, o, none⟩) :=
  ⟨fun b o h => hb.cell (p := ⟨b, o, none⟩) h, fun b o h => hb.frozen (p := ⟨b, o, none⟩) h⟩

set_option maxRecDepth 100000 in
theorem toExpr_step (kd : Int) (tx : ByteArray) (n : Nat) (a : Option Addr) (c : Nat) (ks : List Ex) (w : World)
    (IH : ∀ (W : World), Below w.heap.size w W → Calls Try.prog 45 #[.slice a n c] W fun e w' => ∃ v S, e = .returned v ∧ OD w' W.heap.size v (exD ks) S ∧ Below W.heap.size W w') :
    Calls Try.prog 19 #[.agg #[.int .i64 kd, .string tx, .slice a n c]] w fun e w' => ∃ v S, e = .returned (.agg #[.int .i64 kd, .string tx, v]) ∧ OD w' w.heap.size v (exD ks) S ∧ Below w.heap.size w w' := by
  go_enter Try.func19, Try.ntmps19
  have HIH : Hid (∀ (W : World), Below w.heap.size w W → Calls Try.prog 45 #[.slice a n c] W fun e w' => ∃ v S, e = .returned v ∧ OD w' W.heap.size v (exD ks) S ∧ Below W.heap.size W w') := IH
  clear IH
  have B : Below w.heap.size w (((w.alloc (.cells #[.int .i64 kd, .string tx, .slice a n c] 37)).alloc (.cells #[.int .i64 0, .string ⟨#[]⟩, .slice none 0 0] 42)).alloc (.cells #[.int .i64 kd, .string tx, .slice none 0 0] 42)) :=
    (((Below.refl _ _).alloc (Nat.le_refl _) _).alloc (by simp) _).alloc (by simp; omega) _
  go_wp2_with fail
  refine (HIH.out _ B).mono ?_
  rintro e w1 ⟨v, S, rfl, O1, hb1⟩
  obtain ⟨hc, hf⟩ := bcell hb1
  have hz := hb1.size
  simp only [World.size_alloc] at hc hf hz
  have B1 := B.trans (hb1.mono B.size)
  obtain ⟨a1, c1, rfl, _⟩ := OD.exShape O1
  clear HIH B hb1
  go_wp2
  refine bodyPost_ret (v := .agg #[.int .i64 kd, .string tx, .slice a1 ks.length c1]) (by simp [results, Try.results19, go_sem, hc]) rfl ⟨.slice a1 ks.length c1, S, rfl, ?_, ?_⟩
  · have hW : Within w1 ((((w1.setCell ⟨w.heap.size + 1 + 1, 2, none⟩ (.slice a1 ks.length c1)).setCell ⟨w.heap.size + 1, 0, none⟩ (.int .i64 kd)).setCell ⟨w.heap.size + 1, 1, none⟩ (.string tx)).setCell ⟨w.heap.size + 1, 2, none⟩ (.slice a1 ks.length c1)) (fun k => k < w.heap.size + 1 + 1 + 1) :=
      ((((Within.refl _ _).setCell _ _ (by simp)).setCell _ _ (by simp)).setCell _ _ (by simp)).setCell _ _ (by simp)
    refine (O1.kept hW (fun k hk hk2 => ?_)).base (by simp; omega)
    have := (O1.lt k hk).1
    simp at this
    omega
  · exact (((B1.setCell (p := ⟨w.heap.size + 1 + 1, 2, none⟩) (by simp; omega) _).setCell (p := ⟨w.heap.size + 1, 0, none⟩) (by simp) _).setCell (p := ⟨w.heap.size + 1, 1, none⟩) (by simp) _).setCell (p := ⟨w.heap.size + 1, 2, none⟩) (by simp) _

/-- The cells of an expression of nothing. -/
theorem zeroEx_cells (n : Nat) : (List.replicate n ()).flatMap (fun _ => [Dat.val (.int .i64 0), .val (.string ByteArray.empty), .sl 0 []]) = (List.replicate n (Ex.mk 0 ByteArray.empty [])).flatMap Ex.cells := by
  induction n with
  | zero => rfl
  | succ n ih => rw [List.replicate_succ, List.replicate_succ, List.flatMap_cons, List.flatMap_cons, ih]; simp [Ex.cells, Ex.cellsL]

theorem putX_step {ws : List Ex} {x : Ex} {k : Nat} (h : k < ws.length) : (ws.take k ++ List.replicate (ws.length - k) x).set k ws[k] = ws.take (k + 1) ++ List.replicate (ws.length - (k + 1)) x := by
  have hl : (ws.take k).length = k := by simp; omega
  have e : ws.length - k = (ws.length - (k + 1)) + 1 := by omega
  rw [List.set_append_right _ _ (by omega), hl, Nat.sub_self, e, List.replicate_succ, List.set_cons_zero, List.take_succ_eq_append_getElem h, List.append_assoc]
  rfl

/-- The three cells of an expression stored into a list under construction. -/
theorem OL.putEx {w : World} {base g n c : Nat} {e : TypeId} {L : List Ex} {S : Nat → Prop} (h : OL w base e 3 (.slice (some ⟨g, 0, none⟩) n c) n (L.flatMap Ex.cells) S) {i : Nat} (hi : i < L.length) (kd : Int) (tx : ByteArray) (u : Value) (ks : List Ex) (T : Nat → Prop) (hu : OD w base u (exD ks) T) (hdis : ∀ k, T k → ¬ S k) :
    ∃ S', OL (((w.setCell ⟨g, i * 3, none⟩ (.int .i64 kd)).setCell ⟨g, i * 3 + 1, none⟩ (.string tx)).setCell ⟨g, i * 3 + 2, none⟩ u) base e 3 (.slice (some ⟨g, 0, none⟩) n c) n ((L.set i (.mk kd tx ks)).flatMap Ex.cells) S' ∧ (∀ k, S' k → S k ∨ T k) ∧ S g ∧
      w.grownBy (((w.setCell ⟨g, i * 3, none⟩ (.int .i64 kd)).setCell ⟨g, i * 3 + 1, none⟩ (.string tx)).setCell ⟨g, i * 3 + 2, none⟩ u) (some g) ∧
      ((∃ z, w.cell? ⟨g, i * 3, none⟩ = some z) ∧ w.frozen? ⟨g, i * 3, none⟩ = false) ∧
      ((∃ z, (w.setCell ⟨g, i * 3, none⟩ (.int .i64 kd)).cell? ⟨g, i * 3 + 1, none⟩ = some z) ∧ (w.setCell ⟨g, i * 3, none⟩ (.int .i64 kd)).frozen? ⟨g, i * 3 + 1, none⟩ = false) ∧
      ((∃ z, ((w.setCell ⟨g, i * 3, none⟩ (.int .i64 kd)).setCell ⟨g, i * 3 + 1, none⟩ (.string tx)).cell? ⟨g, i * 3 + 2, none⟩ = some z) ∧ ((w.setCell ⟨g, i * 3, none⟩ (.int .i64 kd)).setCell ⟨g, i * 3 + 1, none⟩ (.string tx)).frozen? ⟨g, i * 3 + 2, none⟩ = false) := by
  have l0 := Ex.flat_lt hi (show 0 < 3 by decide)
  have l1 := Ex.flat_lt hi (show 1 < 3 by decide)
  have l2 := Ex.flat_lt hi (show 2 < 3 by decide)
  obtain ⟨S1, O1, hS1, G1, hSg, c0, f0⟩ := h.put l0 (.int .i64 kd) (.val (.int .i64 kd)) (fun _ => False) (.val _) (fun _ h => h.elim)
  have hS1' : ∀ k, S1 k → S k := fun k hk => (hS1 k hk).resolve_right id
  obtain ⟨S2, O2, hS2, G2, _, c1, f1⟩ := O1.put (by simpa using l1) (.string tx) (.val (.string tx)) (fun _ => False) (.val _) (fun _ h => h.elim)
  have hS2' : ∀ k, S2 k → S k := fun k hk => hS1' k ((hS2 k hk).resolve_right id)
  have W12 : Within w ((w.setCell ⟨g, i * 3 + 0, none⟩ (.int .i64 kd)).setCell ⟨g, i * 3 + 1, none⟩ (.string tx)) (fun k => k = g) := (Within.of_grown G1 (fun k hk => by simpa using hk.symm)).trans (Within.of_grown G2 (fun k hk => by simpa using hk.symm))
  have hu2 := hu.kept W12 (fun k hk e => hdis k hk (e ▸ hSg))
  obtain ⟨S3, O3, hS3, G3, _, c2, f2⟩ := O2.put (by simpa using l2) u (exD ks) T hu2 (fun k hk hk2 => hdis k hk (hS2' k hk2))
  have e3 : (((L.flatMap Ex.cells).set (i * 3 + 0) (.val (.int .i64 kd))).set (i * 3 + 1) (.val (.string tx))).set (i * 3 + 2) (exD ks) = (L.set i (.mk kd tx ks)).flatMap Ex.cells := by
    have h1 := flat_set Ex.cells_len hi (show 0 < 3 by decide) (.val (.int .i64 kd)) (.mk kd L[i].text L[i].kids) (by simp [Ex.cells_eq, Ex.kind_mk, Ex.text_mk, Ex.kids_mk])
    have hi1 : i < (L.set i (.mk kd L[i].text L[i].kids)).length := by simpa using hi
    have h2 := flat_set Ex.cells_len hi1 (show 1 < 3 by decide) (.val (.string tx)) (.mk kd tx L[i].kids) (by simp [Ex.cells_eq, Ex.kind_mk, Ex.text_mk, Ex.kids_mk])
    have hi2 : i < ((L.set i (.mk kd L[i].text L[i].kids)).set i (.mk kd tx L[i].kids)).length := by simpa using hi
    have h3 := flat_set Ex.cells_len hi2 (show 2 < 3 by decide) (exD ks) (.mk kd tx ks) (by simp [Ex.cells_eq, Ex.kind_mk, Ex.text_mk, Ex.kids_mk])
    rw [h1, h2, h3, List.set_set, List.set_set]
  rw [e3] at O3
  exact ⟨S3, O3, fun k hk => (hS3 k hk).imp (hS2' k) id, hSg, grownBy_trans (grownBy_trans G1 G2) G3, ⟨c0, f0⟩, ⟨c1, f1⟩, ⟨c2, f2⟩⟩

set_option maxRecDepth 100000 in
theorem toExprS_any : ∀ (N : Nat) (xs : List Ex), Ex.nodesL xs < N → ∀ (a : Option Addr) (c : Nat) (w : World), RD w (.slice a xs.length c) (exD xs) → Ex.nodesL xs ≤ 1099511627776 →
    Calls Try.prog 45 #[.slice a xs.length c] w fun e w' => ∃ v S, e = .returned v ∧ OD w' w.heap.size v (exD xs) S ∧ Below w.heap.size w w' := by
  intro N
  induction N with
  | zero =>
    intro xs hN
    omega
  | succ N ih =>
    intro xs hN a c w h hn
    have hlen := Ex.length_le xs
    obtain ⟨W, hmk, O0, B0⟩ := make_ownL (P := Try.prog) w 40 42 (.agg #[.int .i64 0, .string ByteArray.empty, .slice none 0 0]) 48 [.int .i64 0, .string ByteArray.empty, .slice none 0 0] [.val (.int .i64 0), .val (.string ByteArray.empty), .sl 0 []] xs.length Try.underlying40 Try.infoExpr rfl (by decide) (by omega) (by decide) (by intro u hu; simp at hu; rcases hu with rfl | rfl | rfl <;> rfl) rfl
      (by intro W base i hi hi'; match i, hi with | 0, _ => exact .val _ | 1, _ => exact .val _ | 2, _ => exact .nil 0 rfl)
    rw [zeroEx_cells] at O0
    have HIH : Hid (∀ (xs : List Ex), Ex.nodesL xs < N → ∀ (a : Option Addr) (c : Nat) (w : World), RD w (.slice a xs.length c) (exD xs) → Ex.nodesL xs ≤ 1099511627776 →
      Calls Try.prog 45 #[.slice a xs.length c] w fun e w' => ∃ v S, e = .returned v ∧ OD w' w.heap.size v (exD xs) S ∧ Below w.heap.size w w') := ih
    clear ih
    go_enter Try.func45, Try.ntmps45
    go_wp2
    go_loopw [4] (fun i wr => ∃ (k : Nat) (S : Nat → Prop), k ≤ xs.length ∧ i = .int .i64 k ∧ OL wr w.heap.size 42 3 (.slice (some ⟨w.heap.size, 0, none⟩) xs.length xs.length) xs.length ((xs.take k ++ List.replicate (xs.length - k) (Ex.mk 0 ByteArray.empty [])).flatMap Ex.cells) S ∧ Below w.heap.size w wr) (fun i _ => xs.length - (intOf i).toNat)
    case atStart => exact ⟨0, _, Nat.zero_le _, rfl, by simpa using O0, B0⟩
    case round =>
      obtain ⟨k, S, hk, rfl, hown, hbel⟩ := hrel
      by_cases hlt : k < xs.length
      · obtain ⟨b1, o1, rfl, hb1, q0, q1, a1, c1, q2, r1⟩ := (h.later hbel).ex hlt
        have hkid := Ex.kids_lt hlt
        have X : Hid (Calls Try.prog 19 #[.agg #[.int .i64 xs[k].kind, .string xs[k].text, .slice a1 xs[k].kids.length c1]] wr fun e w' => ∃ v S, e = .returned (.agg #[.int .i64 xs[k].kind, .string xs[k].text, v]) ∧ OD w' wr.heap.size v (exD xs[k].kids) S ∧ Below wr.heap.size wr w') :=
          toExpr_step xs[k].kind xs[k].text xs[k].kids.length a1 c1 xs[k].kids wr (fun W hW => HIH.out xs[k].kids (by omega) a1 c1 W (r1.later hW) (by omega))
        have HP : Hid ((xs.take k ++ List.replicate (xs.length - k) (Ex.mk 0 ByteArray.empty [])).set k (.mk xs[k].kind xs[k].text xs[k].kids) = xs.take (k + 1) ++ List.replicate (xs.length - (k + 1)) (Ex.mk 0 ByteArray.empty [])) := by
          have e : Ex.mk xs[k].kind xs[k].text xs[k].kids = xs[k] := by cases xs[k]; rfl
          show _ = _
          rw [e]; exact putX_step hlt
        have hkL : k < (xs.take k ++ List.replicate (xs.length - k) (Ex.mk 0 ByteArray.empty [])).length := by simp; omega
        generalize xs.take k ++ List.replicate (xs.length - k) (Ex.mk 0 ByteArray.empty []) = L at *
        generalize xs[k].kids = ks at *
        generalize xs[k].kind = kd at *
        generalize xs[k].text = tx at *
        clear HIH h r1 hmk O0 B0
        go_wp2_with fail
        refine X.out.mono ?_
        rintro e w1 ⟨v, T, rfl, O1, hb2⟩
        obtain ⟨av, cv, rfl, _⟩ := OD.exShape O1
        have B1 := hbel.trans (hb2.mono hbel.size)
        have own1 := hown.later hb2
        have hsz := hbel.size
        obtain ⟨S', O2, hS', hSg, G2, ⟨⟨z0, c0⟩, f0⟩, ⟨⟨z1, d1⟩, f1⟩, ⟨⟨z2, d2⟩, f2⟩⟩ := own1.putEx hkL kd tx (.slice av ks.length cv) ks T (O1.base hsz) (fun k hk hk2 => by have h1 := (O1.lt k hk).1; have h2 := (hown.lt k hk2).2; omega)
        rw [HP.out] at O2
        have B2 := B1.grown G2 B1.size (fun k hk => by cases hk; exact Nat.le_refl _)
        have hz1 : w.heap.size < w1.heap.size := Nat.lt_of_lt_of_le (hown.lt _ hSg).2 hb2.size
        clear X hown own1 O1 hbel hb2 HP G2 q0 q1 q2 hb1 hkL B1
        go_wp2
        go_roundw
        case rel => exact ⟨k + 1, S', by omega, by go_num, O2, B2⟩
        case measure => simp [intOf]; omega
      · have e : k = xs.length := by omega
        subst e
        go_wp2
        go_ret
        exact ⟨_, _, rfl, by simpa [exD] using hown.od, hbel⟩
end Go.Proofs.Ytkbnafmkgiknbac
