/-
  Contracts and plain mathematics, joined: OwnL, HelpLib, L7Tab, Info, L7At, SpecIn, LawLib, L7Go. No statement is proved here.
-/
import Derived.Test.YthnppodnjokaoaaGreatDoorG2
import Derived.Test.YthnppodnjokaoaaGreatDoorG1
import Derived.Test.YthnppodnjokaoaaGreatDoorChecked
import Derived.Deep.RegionHeld
namespace Go.Proofs.YthnppodnjokaoaaGreatDoor
open Go.RowKit

/-- The slice value v, made by the call, elements of type e in sz cells each, holds n elements with the cells cs; it lies in the blocks S. -/
def OL (w : World) (base : Nat) (e : TypeId) (sz : Nat) (v : Value) (n : Nat) (cs : List Dat) (S : Nat → Prop) : Prop :=
  ∃ (vs : List Value) (F : Nat → Nat → Prop), w.ownsRow base e sz v n vs ∧ vs.length = cs.length ∧ (∀ i (h : i < vs.length) (h' : i < cs.length), OD w base vs[i] cs[i] (F i)) ∧
    (∀ i j k, i < vs.length → j < vs.length → i ≠ j → F i k → ¬ F j k) ∧ (∀ i g, i < vs.length → v.ownBlock = some g → ¬ F i g) ∧ ∀ k, S k ↔ v.ownBlock = some k ∨ ∃ i, i < vs.length ∧ F i k

theorem OL.od {w : World} {base : Nat} {e : TypeId} {sz : Nat} {v : Value} {n : Nat} {cs : List Dat} {S : Nat → Prop} (h : OL w base e sz v n cs S) : OD w base v (.sl n cs) S := by
  obtain ⟨vs, F, ho, hl, hr, hd, hg, hS⟩ := h
  rcases ho.2 with ⟨rfl, hn⟩ | ⟨g, cap, cur, rfl, h3⟩
  · subst hn
    have hv : vs = [] := List.eq_nil_of_length_eq_zero (by have := ho.1; omega)
    subst hv
    have hc : cs = [] := List.eq_nil_of_length_eq_zero (by simpa using hl.symm)
    subst hc
    have : S = fun _ => False := by
      funext k
      apply propext
      rw [hS k]
      simp [Value.ownBlock]
    rw [this]
    exact .nil 0 rfl
  · exact .row e sz g n cap cs vs F S ho hl hr hd (fun i hi => hg i g hi rfl) (fun k => by rw [hS k]; simp [Value.ownBlock, eq_comm])

theorem OL.nil (w : World) (base : Nat) (e : TypeId) (sz : Nat) : OL w base e sz (.slice none 0 0) 0 [] (fun _ => False) :=
  ⟨[], fun _ _ => False, World.ownsRow_nil w base e sz, rfl, fun i h => by simp at h, fun i j k h => by simp at h, fun i g h => by simp at h, fun k => by simp [Value.ownBlock]⟩

theorem OL.empty {w : World} {base : Nat} {e : TypeId} {sz : Nat} (h : base ≤ w.heap.size) : OL (w.alloc (.cells #[] e)) base e sz (.slice (some ⟨w.heap.size, 0, none⟩) 0 0) 0 [] (fun k => k = w.heap.size) :=
  ⟨[], fun _ _ => False, World.ownsRow_made w #[] 0 h (by simp [maxLen]) (by simp), rfl, fun i h => by simp at h, fun i j k h => by simp at h, fun i g h => by simp at h, fun k => by simp [Value.ownBlock, eq_comm]⟩

theorem OL.lt {w : World} {base : Nat} {e : TypeId} {sz : Nat} {v : Value} {n : Nat} {cs : List Dat} {S : Nat → Prop} (h : OL w base e sz v n cs S) : ∀ k, S k → base ≤ k ∧ k < w.heap.size := by
  obtain ⟨vs, F, ho, hl, hr, hd, hg, hS⟩ := h
  intro k hk
  rcases (hS k).1 hk with hk | ⟨i, hi, hik⟩
  · exact ho.lt k hk
  · exact (hr i hi (by omega)).lt k hik

theorem OL.kept {w w' : World} {base : Nat} {e : TypeId} {sz : Nat} {v : Value} {n : Nat} {cs : List Dat} {S T : Nat → Prop} (h : OL w base e sz v n cs S) (hw : Within w w' T) (hn : ∀ k, S k → ¬ T k) : OL w' base e sz v n cs S := by
  obtain ⟨vs, F, ho, hl, hr, hd, hg, hS⟩ := h
  exact ⟨vs, F, ownsRow_within ho hw (fun k hk => hn k ((hS k).2 (.inl hk))), hl, fun i hi hi' => (hr i hi hi').kept hw (fun k hk => hn k ((hS k).2 (.inr ⟨i, hi, hk⟩))), hd, hg, hS⟩

theorem OL.later {w w' : World} {base : Nat} {e : TypeId} {sz : Nat} {v : Value} {n : Nat} {cs : List Dat} {S : Nat → Prop} (h : OL w base e sz v n cs S) (hb : Below w.heap.size w w') : OL w' base e sz v n cs S :=
  h.kept (Within.of_below hb (fun _ => False)) (fun _ _ h => h)

theorem OL.alloc {w : World} {base : Nat} {e : TypeId} {sz : Nat} {v : Value} {n : Nat} {cs : List Dat} {S : Nat → Prop} (h : OL w base e sz v n cs S) (o : Obj) : OL (w.alloc o) base e sz v n cs S :=
  h.later ((Below.refl _ _).alloc (Nat.le_refl _) o)
theorem OD.alloc {w : World} {base : Nat} {v : Value} {d : Dat} {S : Nat → Prop} (h : OD w base v d S) (o : Obj) : OD (w.alloc o) base v d S :=
  h.later ((Below.refl _ _).alloc (Nat.le_refl _) o)

theorem OL.base {w : World} {b b' : Nat} {e : TypeId} {sz : Nat} {v : Value} {n : Nat} {cs : List Dat} {S : Nat → Prop} (h : OL w b e sz v n cs S) (hb : b' ≤ b) : OL w b' e sz v n cs S := by
  obtain ⟨vs, F, ho, hl, hr, hd, hg, hS⟩ := h
  refine ⟨vs, F, ⟨ho.1, ?_⟩, hl, fun i hi hi' => (hr i hi hi').base hb, hd, hg, hS⟩
  rcases ho.2 with hx | ⟨g, cap, cur, hv, h3, r⟩
  · exact .inl hx
  · exact .inr ⟨g, cap, cur, hv, Nat.le_trans hb h3, r⟩

/-- The cells of one element, each with the blocks that it lies in, no block twice. -/
def Cells (w : World) (base : Nat) (us : List Value) (ds : List Dat) (T : Nat → Prop) : Prop :=
  ∃ G : Nat → Nat → Prop, us.length = ds.length ∧ (∀ i (h : i < us.length) (h' : i < ds.length), OD w base us[i] ds[i] (G i)) ∧ (∀ i j k, i < us.length → j < us.length → i ≠ j → G i k → ¬ G j k) ∧ ∀ k, T k ↔ ∃ i, i < us.length ∧ G i k

theorem Cells.kept {w w' : World} {base : Nat} {us : List Value} {ds : List Dat} {T U : Nat → Prop} (h : Cells w base us ds T) (hw : Within w w' U) (hn : ∀ k, T k → ¬ U k) : Cells w' base us ds T := by
  obtain ⟨G, hl, hr, hd, hT⟩ := h
  exact ⟨G, hl, fun i hi hi' => (hr i hi hi').kept hw (fun k hk => hn k ((hT k).2 ⟨i, hi, hk⟩)), hd, hT⟩
theorem Cells.later {w w' : World} {base : Nat} {us : List Value} {ds : List Dat} {T : Nat → Prop} (h : Cells w base us ds T) (hb : Below w.heap.size w w') : Cells w' base us ds T :=
  h.kept (Within.of_below hb (fun _ => False)) (fun _ _ h => h)
theorem Cells.alloc {w : World} {base : Nat} {us : List Value} {ds : List Dat} {T : Nat → Prop} (h : Cells w base us ds T) (o : Obj) : Cells (w.alloc o) base us ds T :=
  h.later ((Below.refl _ _).alloc (Nat.le_refl _) o)
theorem Cells.lt {w : World} {base : Nat} {us : List Value} {ds : List Dat} {T : Nat → Prop} (h : Cells w base us ds T) : ∀ k, T k → base ≤ k ∧ k < w.heap.size := by
  obtain ⟨G, hl, hr, hd, hT⟩ := h
  intro k hk
  obtain ⟨i, hi, hik⟩ := (hT k).1 hk
  exact (hr i hi (by omega)).lt k hik
theorem Cells.base {w : World} {b b' : Nat} {us : List Value} {ds : List Dat} {T : Nat → Prop} (h : Cells w b us ds T) (hb : b' ≤ b) : Cells w b' us ds T := by
  obtain ⟨G, hl, hr, hd, hT⟩ := h
  exact ⟨G, hl, fun i hi hi' => (hr i hi hi').base hb, hd, hT⟩
/-- Plain cells ahead, and one with depth behind them. -/
theorem Cells.last {w : World} {base : Nat} (ps : List Value) {u : Value} {d : Dat} {T : Nat → Prop} (h : OD w base u d T) : Cells w base (ps ++ [u]) (ps.map Dat.val ++ [d]) T := by
  refine ⟨fun i k => i = ps.length ∧ T k, by simp, ?_, ?_, ?_⟩
  · intro i hi hi'
    by_cases e : i < ps.length
    · rw [List.getElem_append_left e, List.getElem_append_left (by simpa using e), List.getElem_map]
      have : (fun k => i = ps.length ∧ T k) = fun _ => False := by funext k; simp; omega
      show OD w base ps[i] _ (fun k => i = ps.length ∧ T k)
      rw [this]; exact .val _
    · have : i = ps.length := by simp at hi; omega
      subst this
      rw [List.getElem_append_right (by omega), List.getElem_append_right (by simp)]
      simpa using h
  · intro i j k _ _ hne h1 h2; exact hne (h1.1.trans h2.1.symm)
  · intro k; exact ⟨fun hk => ⟨ps.length, by simp, rfl, hk⟩, fun ⟨_, _, _, hk⟩ => hk⟩

section
variable {P : Program} (w : World)

/-- append, and where the row lies behind it: where it lay, or in a new block. -/
theorem run_append_where (base : Nat) (t ty e : TypeId) (i : TypeInfo) (z : Value) (size bytes : Nat) (ht : P.underlying t = some (.slice e)) (hi : P.info? e = some i) (hz : i.zero = some z)
    (hsize : i.size = size) (hby : i.bytes = bytes) (hzs : z.cells.size = size) (hsz : 0 < size) (v : Value) (n : Nat) (xs : List Value) (hown : w.ownsRow base e size v n xs)
    (a : Addr) (m c : Nat) (news : List Value) (hm : 0 < m) (hl : news.length = m * size) (hnews : ∀ j u, news[j]? = some u → w.cell? (a.add j) = some u) (h1 : ∀ u ∈ news, u.oneCell' = true)
    (h63 : n + m ≤ maxLen) (hbytes : (n + m) * bytes ≤ 140737488355328) (hbase : base ≤ w.heap.size) :
    ∃ v' w', (Builtin.append_ #[t, t] ty #[v, .slice (some a) m c]).run P w = .ok v' w' ∧ w'.ownsRow base e size v' (n + m) (xs ++ news) ∧ w.grownBy w' v.ownBlock ∧ ∀ k, v'.ownBlock = some k → v.ownBlock = some k ∨ k = w.heap.size := by
  obtain ⟨v', w', hrun, ho', hgr, _⟩ := run_append_own (P := P) w base t ty e i z size bytes ht hi hz hsize hby hzs hsz v n xs hown a m c news hl hnews h1 h63 hbytes hbase
  refine ⟨v', w', hrun, ho', hgr, ?_⟩
  have hsmall : n + m ≤ 9223372036854775807 := by simp only [maxLen] at h63; omega
  subst hsize
  subst hby
  rcases hown.2 with ⟨rfl, rfl⟩ | ⟨g, cap, cur, rfl, hbg, hg, hnc, hcm, hcs, htake⟩
  · have hr := run_append_nil (P := P) w t ty e i z ht hi hz a m c news hl hnews (by omega) (by omega) (by have hb := hbytes; simp only [Nat.zero_add] at hb; omega)
    rw [hr] at hrun
    injection hrun with e1 _
    subst e1
    intro k hk
    right
    simpa [Value.ownBlock] using hk.symm
  · by_cases hroom : n + m ≤ cap
    · have hfit : n * i.size + news.length ≤ cur.size := by rw [hl, hcs, ← Nat.add_mul]; exact Nat.mul_le_mul_right _ hroom
      have hr := run_append_room (P := P) w t ty e i ht hi g n cap cur hg a m c news hl hnews h1 hroom hfit
      rw [hr] at hrun
      injection hrun with e1 _
      subst e1
      exact fun k hk => .inl hk
    · have holds : ∀ j u, xs[j]? = some u → w.cell? ((⟨g, 0, none⟩ : Addr).add j) = some u := hown.cells (g := g) rfl
      have hr := run_append_grow (P := P) w t ty e i z ht hi hz ⟨g, 0, none⟩ n cap xs hown.1 holds a m c news hl hnews (by omega) (by omega) (growslice_fits (by omega) hbytes)
      rw [hr] at hrun
      injection hrun with e1 _
      subst e1
      intro k hk
      right
      simpa [Value.ownBlock] using hk.symm

/-- append of one element, whose cells lie at ⟨b, 0⟩, onto a list under construction. -/
theorem run_appendL (base : Nat) (t ty e : TypeId) (z : Value) (sz bytes : Nat) (ht : P.underlying t = some (.slice e)) (hinfo : (P.info? e).map (fun i => (i.zero, i.size, i.bytes)) = some (some z, sz, bytes)) (hz : z.cells.size = sz) (hsz : 0 < sz) (hby : bytes ≤ 128)
    (v : Value) (n : Nat) (cs : List Dat) (S : Nat → Prop) (hown : OL w base e sz v n cs S) (b c : Nat) (us : List Value) (ds : List Dat) (T : Nat → Prop) (hcells : Cells w base us ds T) (hus : us.length = sz) (h1 : ∀ u ∈ us, u.oneCell' = true)
    (hc : ∀ j, j < us.length → w.cell? ⟨b, j, none⟩ = us[j]?) (hdis : ∀ k, T k → ¬ S k) (hlen : n + 1 ≤ 1099511627776) (hbase : base ≤ w.heap.size) :
    ∃ v' w' S', (Builtin.append_ #[t, t] ty #[v, .slice (some ⟨b, 0, none⟩) 1 c]).run P w = .ok v' w' ∧ OL w' base e sz v' (n + 1) (cs ++ ds) S' ∧ (∀ k, S' k → S k ∨ T k ∨ w.heap.size ≤ k) ∧ Within w w' S := by
  have hSl := hown.lt
  have hTl := hcells.lt
  obtain ⟨vs, F, ho, hl, hr, hd, hg, hS⟩ := hown
  obtain ⟨G, gl, gr, gd, gT⟩ := hcells
  obtain ⟨i, hi, hz0, hz1, hz2⟩ := info_parts hinfo
  have hb : (n + 1) * bytes ≤ 140737488355328 := Nat.le_trans (Nat.mul_le_mul hlen hby) (by decide)
  obtain ⟨v', w', hrun, ho', hgr, hnew⟩ := run_append_where (P := P) w base t ty e i z sz bytes ht hi hz0 hz1 hz2 hz hsz v n vs ho ⟨b, 0, none⟩ 1 c us (by decide) (by omega)
    (by
      intro j u hu
      have hj : j < us.length := (List.getElem?_eq_some_iff.1 hu).1
      rw [Addr.add_lit, Nat.zero_add, hc j hj, hu])
    h1 (by unfold maxLen; omega) hb hbase
  have hW : Within w w' (fun k => v.ownBlock = some k) := Within.of_grown hgr (fun k hk => hk)
  have hvS : ∀ k, v.ownBlock = some k → S k := fun k hk => (hS k).2 (.inl hk)
  have hFS : ∀ i k, i < vs.length → F i k → S k := fun i k hi hk => (hS k).2 (.inr ⟨i, hi, hk⟩)
  have hGT : ∀ i k, i < us.length → G i k → T k := fun i k hi hk => (gT k).2 ⟨i, hi, hk⟩
  refine ⟨v', w', fun k => v'.ownBlock = some k ∨ ∃ i, i < (vs ++ us).length ∧ (if i < vs.length then F i k else G (i - vs.length) k), hrun, ⟨vs ++ us, fun i k => if i < vs.length then F i k else G (i - vs.length) k, ho', by simp [hl, gl], ?_, ?_, ?_, fun k => Iff.rfl⟩, ?_, hW.mono hvS⟩
  · intro j hj hj'
    by_cases e1 : j < vs.length
    · rw [List.getElem_append_left e1, List.getElem_append_left (by omega)]
      simp only [if_pos e1]
      exact (hr j e1 (by omega)).kept hW (fun k hk hk2 => hg j k e1 hk2 hk)
    · have hju : j - vs.length < us.length := by simp at hj; omega
      rw [List.getElem_append_right (by omega), List.getElem_append_right (by omega)]
      simp only [if_neg e1]
      have e2 : j - cs.length = j - vs.length := by omega
      simp only [e2]
      exact (gr (j - vs.length) hju (by omega)).kept hW (fun k hk hk2 => hdis k (hGT _ k hju hk) (hvS k hk2))
  · intro j l k hj hl2 hne hk1 hk2
    by_cases e1 : j < vs.length
    · simp only [if_pos e1] at hk1
      by_cases e2 : l < vs.length
      · simp only [if_pos e2] at hk2
        exact hd j l k e1 e2 hne hk1 hk2
      · simp only [if_neg e2] at hk2
        have hlu : l - vs.length < us.length := by simp at hl2; omega
        exact hdis k (hGT _ k hlu hk2) (hFS j k e1 hk1)
    · simp only [if_neg e1] at hk1
      have hju : j - vs.length < us.length := by simp at hj; omega
      by_cases e2 : l < vs.length
      · simp only [if_pos e2] at hk2
        exact hdis k (hGT _ k hju hk1) (hFS l k e2 hk2)
      · simp only [if_neg e2] at hk2
        have hlu : l - vs.length < us.length := by simp at hl2; omega
        exact gd _ _ k hju hlu (by omega) hk1 hk2
  · intro j g' hj hg' hk
    by_cases e1 : j < vs.length
    · simp only [if_pos e1] at hk
      rcases hnew g' hg' with h2 | h2
      · exact hg j g' e1 h2 hk
      · have := (hSl g' (hFS j g' e1 hk)).2; omega
    · simp only [if_neg e1] at hk
      have hju : j - vs.length < us.length := by simp at hj; omega
      rcases hnew g' hg' with h2 | h2
      · exact hdis g' (hGT _ g' hju hk) (hvS g' h2)
      · have := (hTl g' (hGT _ g' hju hk)).2; omega
  · intro k hk
    rcases hk with hk | ⟨j, hj, hk⟩
    · rcases hnew k hk with h2 | h2
      · exact .inl (hvS k h2)
      · exact .inr (.inr (by omega))
    · by_cases e1 : j < vs.length
      · simp only [if_pos e1] at hk
        exact .inl (hFS j k e1 hk)
      · simp only [if_neg e1] at hk
        have hju : j - vs.length < us.length := by simp at hj; omega
        exact .inr (.inl (hGT _ k hju hk))

theorem wpList_appendL {ops : Array Oper} {rest : List Oper} {o : Oper} {a : Act} {Q : Exit → Act → World → Prop} (hgd : o.guard = none) (s x : Operand) (t : TypeId)
    (ho : o.op = .call { callee := .builtin .append, args := #[s, x], argTypes := #[t, t] })
    (base : Nat) (e : TypeId) (z : Value) (sz bytes : Nat) (ht : P.underlying t = some (.slice e)) (hinfo : (P.info? e).map (fun i => (i.zero, i.size, i.bytes)) = some (some z, sz, bytes)) (hz : z.cells.size = sz) (hsz : 0 < sz) (hby : bytes ≤ 128)
    (v : Value) (n : Nat) (cs : List Dat) (S : Nat → Prop) (hs : a.eval s = v) (hown : OL w base e sz v n cs S) (b c : Nat) (us : List Value) (ds : List Dat) (T : Nat → Prop) (hx : a.eval x = .slice (some ⟨b, 0, none⟩) 1 c) (hcells : Cells w base us ds T) (hus : us.length = sz) (h1 : ∀ u ∈ us, u.oneCell' = true)
    (hc : ∀ j, j < us.length → w.cell? ⟨b, j, none⟩ = us[j]?) (hdis : ∀ k, T k → ¬ S k) (hlen : n + 1 ≤ 1099511627776) (hbase : base ≤ w.heap.size)
    (h : ∀ v' w' S', OL w' base e sz v' (n + 1) (cs ++ ds) S' → (∀ k, S' k → S k ∨ T k ∨ w.heap.size ≤ k) → Within w w' S → wpList P ops Q rest (a.put o.dst v') w') : wpList P ops Q (o :: rest) a w := by
  refine wpList_plain hgd fun K hK => ?_
  obtain ⟨v', w', S', hr, h2, h3, h4⟩ := run_appendL (P := P) w base t o.type e z sz bytes ht hinfo hz hsz hby v n cs S hown b c us ds T hcells hus h1 hc hdis hlen hbase
  unfold Oper.wp execOp
  simp only [ho, resolve, invoke, builtin, Sem.run_bind, Sem.run_pure, Result.andThen_ok, List.map_toArray, List.map_cons, List.map_nil, hs, hx, hr]
  exact hK _ _ (h v' w' S' h2 h3 h4)
end

/-- A value, plain or with depth, stored into a cell of a list under construction. -/
theorem OL.put {w : World} {base g n c : Nat} {e : TypeId} {sz : Nat} {cs : List Dat} {S : Nat → Prop} (h : OL w base e sz (.slice (some ⟨g, 0, none⟩) n c) n cs S) {i : Nat} (hi : i < cs.length) (u : Value) (d : Dat) (T : Nat → Prop) (hu : OD w base u d T) (hdis : ∀ k, T k → ¬ S k) :
    ∃ S', OL (w.setCell ⟨g, i, none⟩ u) base e sz (.slice (some ⟨g, 0, none⟩) n c) n (cs.set i d) S' ∧ (∀ k, S' k → S k ∨ T k) ∧ w.grownBy (w.setCell ⟨g, i, none⟩ u) (some g) ∧ S g ∧ (∃ z, w.cell? ⟨g, i, none⟩ = some z) ∧ w.frozen? ⟨g, i, none⟩ = false := by
  obtain ⟨vs, F, ho, hl, hr, hd, hg, hS⟩ := h
  have hv : i < vs.length := by omega
  obtain ⟨s1, s2⟩ := World.ownsRow.stored (g := g) (cap := c) ho i u
  have hW : Within w (w.setCell ⟨g, i, none⟩ u) (fun k => k = g) := Within.of_grown s2 (fun k hk => by simpa using hk.symm)
  have hgS : S g := (hS g).2 (.inl rfl)
  refine ⟨fun k => k = g ∨ ∃ j, j < vs.length ∧ (if j = i then T k else F j k), ⟨vs.set i u, fun j k => if j = i then T k else F j k, s1, by simpa using hl, ?_, ?_, ?_, ?_⟩, ?_, s2, hgS, ⟨vs[i], ?_⟩, World.ownsRow.frozenAt (g := g) (cap := c) ho i⟩
  · intro j hj hj'
    have hjv : j < vs.length := by simpa using hj
    have hjc : j < cs.length := by simpa using hj'
    by_cases e1 : j = i
    · subst e1
      simp only [if_true, List.getElem_set_self]
      exact hu.kept hW (fun k hk e2 => hdis k hk (e2 ▸ hgS))
    · simp only [if_neg e1]
      rw [List.getElem_set_ne (by omega), List.getElem_set_ne (by omega)]
      exact (hr j hjv hjc).kept hW (fun k hk e2 => hg j g hjv rfl (e2 ▸ hk))
  · intro j l k hj hl2 hne h1 h2
    have hj' : j < vs.length := by simpa using hj
    have hl' : l < vs.length := by simpa using hl2
    by_cases e1 : j = i
    · by_cases e2 : l = i
      · exact hne (e1.trans e2.symm)
      · simp only [if_pos e1] at h1
        simp only [if_neg e2] at h2
        exact hdis k h1 ((hS k).2 (.inr ⟨l, hl', h2⟩))
    · simp only [if_neg e1] at h1
      by_cases e2 : l = i
      · simp only [if_pos e2] at h2
        exact hdis k h2 ((hS k).2 (.inr ⟨j, hj', h1⟩))
      · simp only [if_neg e2] at h2
        exact hd j l k hj' hl' hne h1 h2
  · intro j g' hj hg' h1
    have hj' : j < vs.length := by simpa using hj
    have eg : g' = g := by simpa [Value.ownBlock] using hg'.symm
    subst eg
    by_cases e1 : j = i
    · simp only [if_pos e1] at h1
      exact hdis g' h1 hgS
    · simp only [if_neg e1] at h1
      exact hg j g' hj' rfl h1
  · intro k
    simp [Value.ownBlock, eq_comm]
  · intro k hk
    rcases hk with rfl | ⟨j, hj, hk⟩
    · exact .inl hgS
    · by_cases e1 : j = i
      · simp only [if_pos e1] at hk; exact .inr hk
      · simp only [if_neg e1] at hk; exact .inl ((hS k).2 (.inr ⟨j, hj, hk⟩))
  · rw [World.ownsRow.cellAt (g := g) (cap := c) ho i (by rw [← ho.1]; exact hv), List.getElem?_eq_getElem hv]

section
variable {P : Program} (w : World)
/-- make of a list whose elements have depth: all zero. -/
theorem make_ownL (t e : TypeId) (z : Value) (bytes : Nat) (zv : List Value) (zd : List Dat) (n : Nat) (ht : P.underlying t = some (.slice e)) (hinfo : (P.info? e).map (fun i => (i.zero, i.size, i.bytes)) = some (some z, zv.length, bytes)) (hz : z.cells = zv.toArray) (hby : bytes ≤ 128) (hn : n ≤ 1099511627776)
    (hp : 0 < zv.length) (h1 : ∀ u ∈ zv, u.oneCell' = true) (hl : zv.length = zd.length) (hzd : ∀ (W : World) (base i : Nat) (h : i < zv.length) (h' : i < zd.length), OD W base zv[i] zd[i] (fun _ => False)) :
    ∃ W : World, (Instr.makeSlice t (.int .i64 (n : Int)) (.int .i64 (n : Int))).run P w = .ok (.slice (some ⟨w.heap.size, 0, none⟩) n n) W ∧ OL W w.heap.size e zv.length (.slice (some ⟨w.heap.size, 0, none⟩) n n) n ((List.replicate n ()).flatMap (fun _ => zd)) (fun k => k = w.heap.size) ∧ Below w.heap.size w W := by
  let E : Enc Unit := { size := zv.length, cells := fun _ => zv, len := fun _ => rfl, one := fun _ => h1, pos := hp }
  obtain ⟨W, hrun, ho, hb⟩ := make_ownT (P := P) (E := E) w t e z bytes () n ht hinfo hz hby hn
  refine ⟨W, hrun, ⟨(List.replicate n ()).flatMap (fun _ => zv), fun _ _ => False, ?_, ?_, ?_, fun i j k _ _ _ h => h.elim, fun i g _ _ h => h, fun k => by simp [Value.ownBlock, eq_comm]⟩, hb⟩
  · have : (List.replicate n ()).length = n := List.length_replicate
    have h2 : W.ownsRow w.heap.size e zv.length (.slice (some ⟨w.heap.size, 0, none⟩) n n) (List.replicate n ()).length ((List.replicate n ()).flatMap (fun _ => zv)) := ho
    rwa [this] at h2
  · rw [flat_length (sz := zv.length) (fun _ => rfl), flat_length (sz := zv.length) (fun _ => hl.symm)]
  · intro i hi hi'
    have hi2 := hi
    rw [flat_length (sz := zv.length) (fun _ => rfl)] at hi2
    have hq : i / zv.length < (List.replicate n ()).length := Nat.div_lt_of_lt_mul (by rw [Nat.mul_comm]; exact hi2)
    have hr : i % zv.length < zv.length := Nat.mod_lt _ hp
    have e0 : i / zv.length * zv.length + i % zv.length = i := by rw [Nat.mul_comm]; exact Nat.div_add_mod i zv.length
    have v1 := flat_get (f := fun _ : Unit => zv) (sz := zv.length) (fun _ => rfl) hq hr
    have d1 := flat_get (f := fun _ : Unit => zd) (sz := zv.length) (fun _ => hl.symm) hq hr
    rw [e0, List.getElem?_eq_getElem hi, List.getElem?_eq_getElem hr] at v1
    rw [e0, List.getElem?_eq_getElem hi', List.getElem?_eq_getElem (by omega)] at d1
    rw [Option.some.inj v1, Option.some.inj d1]
    exact hzd W _ (i % zv.length) hr (by omega)
end
end Go.Proofs.YthnppodnjokaoaaGreatDoor
namespace Go.Proofs.YthnppodnjokaoaaGreatDoor
open Go.RowKit

/-- How a type's values lie in cells. -/
structure Lay (α : Type) where
  cells : α → List Dat
  sz : Nat
  len : ∀ x, (cells x).length = sz
  pos : 0 < sz
  wt : α → Nat
  fit : α → Prop

section
variable {α : Type} (L : Lay α)
/-- A list, read through. -/
def slD (xs : List α) : Dat := .sl xs.length (xs.flatMap L.cells)
def Lay.sumL : List α → Nat
  | [] => 0
  | x :: xs => L.wt x + Lay.sumL xs
theorem Lay.sumL_append (xs ys : List α) : L.sumL (xs ++ ys) = L.sumL xs + L.sumL ys := by
  induction xs with
  | nil => simp [Lay.sumL]
  | cons x xs ih => simp [Lay.sumL, ih]; omega
theorem Lay.sumL_take {xs : List α} {k : Nat} (h : k < xs.length) : L.sumL (xs.take (k + 1)) = L.sumL (xs.take k) + L.wt xs[k] := by
  rw [List.take_succ_eq_append_getElem h, Lay.sumL_append]; simp [Lay.sumL]
theorem Lay.sumL_take_le (xs : List α) (k : Nat) : L.sumL (xs.take k) ≤ L.sumL xs := by
  have h : L.sumL xs = L.sumL (xs.take k) + L.sumL (xs.drop k) := by rw [← Lay.sumL_append, List.take_append_drop]
  omega
theorem Lay.sumL_at {xs : List α} {k : Nat} (h : k < xs.length) : L.wt xs[k] ≤ L.sumL xs := by
  have := L.sumL_take h
  have := L.sumL_take_le xs (k + 1)
  omega
def Lay.list : Lay (List α) := { cells := fun xs => [slD L xs], sz := 1, len := fun _ => rfl, pos := by decide, wt := fun xs => xs.length + L.sumL xs, fit := fun xs => xs.length ≤ maxLen ∧ ∀ x ∈ xs, L.fit x }
theorem Lay.wt_list (xs : List α) : L.list.wt xs = xs.length + L.sumL xs := rfl
theorem Lay.cells_list (xs : List α) : L.list.cells xs = [slD L xs] := rfl
end
def Lay.int : Lay Int := { cells := fun k => [.val (.int .i64 k)], sz := 1, len := fun _ => rfl, pos := by decide, wt := fun _ => 0, fit := fun k => (Lit.int .i64 k).wf = true }
def Lay.str : Lay ByteArray := { cells := fun s => [.val (.string s)], sz := 1, len := fun _ => rfl, pos := by decide, wt := fun s => s.size, fit := fun s => s.size ≤ maxLen }
def Lay.bool : Lay Bool := { cells := fun b => [.val (.bool b)], sz := 1, len := fun _ => rfl, pos := by decide, wt := fun _ => 0, fit := fun _ => True }
theorem Lay.sumL_int (zs : List Int) : Lay.int.sumL zs = 0 := by
  induction zs with
  | nil => rfl
  | cons x xs ih => rw [Lay.sumL, ih]; rfl
theorem Lay.wt_ints (zs : List Int) : (Lay.list Lay.int).wt zs = zs.length := by rw [Lay.wt_list, Lay.sumL_int]; rfl

/-- What the measuring tells. -/
def SzE (wt : Nat) (l r : Int) : Prop := r = -1 ∨ (0 ≤ r ∧ r = l - wt)

section
variable {α : Type} {L : Lay α}
/-- Cell j of element i. -/
theorem RD.cellAt {w : World} {a : Option Addr} {n c : Nat} {xs : List α} (h : RD w (.slice a n c) (slD L xs)) {i : Nat} (hi : i < xs.length) {j : Nat} (hj : j < L.sz) (h'' : j < (L.cells xs[i]).length) :
    ∃ b off, a = some ⟨b, off, none⟩ ∧ b < w.heap.size ∧ ∃ u, w.cell? ⟨b, off + (i * L.sz + j), none⟩ = some u ∧ RD w u ((L.cells xs[i])[j]'h'') := RD.elem L.len h hi hj h''
theorem RD.capL {w : World} {a : Option Addr} {n c : Nat} {xs : List α} (h : RD w (.slice a n c) (slD L xs)) : n ≤ c := RD.cap h
theorem RD.lenL {w : World} {a : Option Addr} {n c : Nat} {xs : List α} (h : RD w (.slice a n c) (slD L xs)) : n = xs.length := RD.len h
theorem OD.shapeL {w : World} {base : Nat} {v : Value} {xs : List α} {S : Nat → Prop} (h : OD w base v (slD L xs) S) : ∃ a c, v = .slice a xs.length c ∧ (xs ≠ [] → ∃ g, a = some ⟨g, 0, none⟩) := OD.elemShape L.len L.pos h
theorem RD.shapeL {w : World} {v : Value} {xs : List α} (h : RD w v (slD L xs)) : ∃ a c, v = .slice a xs.length c := RD.slice (m := xs.length) h
/-- The one cell of element i of a list of lists. -/
theorem RD.listAt {w : World} {a : Option Addr} {n c : Nat} {xss : List (List α)} (h : RD w (.slice a n c) (slD (Lay.list L) xss)) {i : Nat} (hi : i < xss.length) :
    ∃ b off, a = some ⟨b, off, none⟩ ∧ b < w.heap.size ∧ ∃ a' c', w.cell? ⟨b, off + i, none⟩ = some (.slice a' xss[i].length c') ∧ RD w (.slice a' xss[i].length c') (slD L xss[i]) := by
  obtain ⟨b, off, rfl, hb, u, hc, r⟩ := RD.cellAt h hi (j := 0) (by show 0 < 1; decide) (by show 0 < 1; decide)
  have r' : RD w u (slD L xss[i]) := r
  obtain ⟨a', c', rfl⟩ := RD.shapeL r'
  have e : off + (i * (Lay.list L).sz + 0) = off + i := by show off + (i * 1 + 0) = _; omega
  rw [e] at hc
  exact ⟨b, off, rfl, hb, a', c', hc, r'⟩
theorem zero_cells {z : α} {zd : List Dat} (hz : L.cells z = zd) (n : Nat) : (List.replicate n ()).flatMap (fun _ => zd) = (List.replicate n z).flatMap L.cells := by
  induction n with
  | zero => rfl
  | succ n ih => rw [List.replicate_succ, List.replicate_succ, List.flatMap_cons, List.flatMap_cons, ih, hz]
theorem put_step {ws : List α} {x : α} {k : Nat} (h : k < ws.length) : (ws.take k ++ List.replicate (ws.length - k) x).set k ws[k] = ws.take (k + 1) ++ List.replicate (ws.length - (k + 1)) x := by
  have hl : (ws.take k).length = k := by simp; omega
  have e : ws.length - k = (ws.length - (k + 1)) + 1 := by omega
  rw [List.set_append_right _ _ (by omega), hl, Nat.sub_self, e, List.replicate_succ, List.set_cons_zero, List.take_succ_eq_append_getElem h, List.append_assoc]
  rfl
/-- A list stored into a list of lists under construction. -/
theorem OL.putList {w : World} {base g n c : Nat} {e : TypeId} {M : List (List α)} {S : Nat → Prop} (h : OL w base e 1 (.slice (some ⟨g, 0, none⟩) n c) n (M.flatMap (Lay.list L).cells) S) {i : Nat} (hi : i < M.length) (u : Value) (x : List α) (T : Nat → Prop) (hu : OD w base u (slD L x) T) (hdis : ∀ k, T k → ¬ S k) :
    ∃ S', OL (w.setCell ⟨g, i, none⟩ u) base e 1 (.slice (some ⟨g, 0, none⟩) n c) n ((M.set i x).flatMap (Lay.list L).cells) S' ∧ (∀ k, S' k → S k ∨ T k) ∧ w.grownBy (w.setCell ⟨g, i, none⟩ u) (some g) ∧ S g ∧ (∃ z, w.cell? ⟨g, i, none⟩ = some z) ∧ w.frozen? ⟨g, i, none⟩ = false := by
  have hl : i < (M.flatMap (Lay.list L).cells).length := by rw [flat_length (Lay.list L).len]; show i < M.length * 1; omega
  obtain ⟨S', O1, r⟩ := h.put hl u (slD L x) T hu hdis
  have e1 := flat_set (Lay.list L).len hi (show 0 < (Lay.list L).sz from Nat.zero_lt_one) (slD L x) x rfl
  rw [show i * (Lay.list L).sz + 0 = i from (by show i * 1 + 0 = i; omega)] at e1
  rw [e1] at O1
  exact ⟨S', O1, r⟩
end

theorem bcellH {W w1 : World} (hb : Below W.heap.size W w1) : (∀ b o, b < W.heap.size → w1.cell? ⟨b, o, none⟩ = W.cell? ⟨b, o, none⟩) ∧ (∀ b o, b < W.heap.size → w1.frozen? ⟨b, o, none⟩ = W.frozen? ⟨b, o, none⟩) :=
  ⟨fun b o h => hb.cell (p := ⟨b, o, none⟩) h, fun b o h => hb.frozen (p := ⟨b, o, none⟩) h⟩

/-- Values stored into cells one behind the other. -/
def putCells (w : World) (g : Nat) : Nat → List Value → World
  | _, [] => w
  | o, u :: us => putCells (w.setCell ⟨g, o, none⟩ u) g (o + 1) us
/-- Data set one behind the other. -/
def setMany (cs : List Dat) : Nat → List Dat → List Dat
  | _, [] => cs
  | o, d :: ds => setMany (cs.set o d) (o + 1) ds
theorem setMany_length (cs : List Dat) (o : Nat) (ds : List Dat) : (setMany cs o ds).length = cs.length := by
  induction ds generalizing cs o with
  | nil => rfl
  | cons d ds ih => simp [setMany, ih]
theorem setMany_eq (ds : List Dat) : ∀ (pre mid post : List Dat), mid.length = ds.length → setMany (pre ++ (mid ++ post)) pre.length ds = pre ++ (ds ++ post) := by
  induction ds with
  | nil => intro pre mid post h; have : mid = [] := List.eq_nil_of_length_eq_zero (by simpa using h); subst this; rfl
  | cons d ds ih =>
    intro pre mid post h
    match mid, h with
    | m :: mid, h =>
      have e : (pre ++ (m :: mid ++ post)).set pre.length d = (pre ++ [d]) ++ (mid ++ post) := by
        rw [List.set_append_right _ _ (Nat.le_refl _), Nat.sub_self]; simp
      have := ih (pre ++ [d]) mid post (by simpa using h)
      rw [List.length_append] at this
      simp only [setMany, e]
      rw [show pre.length + 1 = pre.length + [d].length from rfl, this]
      simp
theorem setMany_flat {α : Type} {f : α → List Dat} {sz : Nat} (hf : ∀ x, (f x).length = sz) {M : List α} {i : Nat} (hi : i < M.length) (x : α) : setMany (M.flatMap f) (i * sz) (f x) = (M.set i x).flatMap f := by
  have hl : ((M.take i).flatMap f).length = i * sz := by rw [flat_length hf, List.length_take, Nat.min_eq_left (by omega)]
  have hs : (M.set i x) = M.take i ++ x :: M.drop (i + 1) := by rw [List.set_eq_take_append_cons_drop, if_pos hi]
  rw [flat_split hi, ← hl, setMany_eq _ _ _ _ (by rw [hf, hf]), hs, List.flatMap_append]
  rfl

theorem Cells.tail {w : World} {base : Nat} {u : Value} {us : List Value} {d : Dat} {ds : List Dat} {T : Nat → Prop} (h : Cells w base (u :: us) (d :: ds) T) :
    ∃ T0 T1, OD w base u d T0 ∧ Cells w base us ds T1 ∧ (∀ k, T0 k → ¬ T1 k) ∧ ∀ k, T k ↔ T0 k ∨ T1 k := by
  obtain ⟨G, hl, hr, hd, hT⟩ := h
  refine ⟨G 0, fun k => ∃ i, i < us.length ∧ G (i + 1) k, hr 0 (by simp) (by simp), ⟨fun i => G (i + 1), by simpa using hl, fun i hi hi' => hr (i + 1) (by simpa using hi) (by simpa using hi'), fun i j k hi hj hne => hd (i + 1) (j + 1) k (by simpa using hi) (by simpa using hj) (by omega), fun k => Iff.rfl⟩, ?_, ?_⟩
  · rintro k h0 ⟨i, hi, h1⟩
    exact hd 0 (i + 1) k (by simp) (by simpa using hi) (by omega) h0 h1
  · intro k
    rw [hT k]
    constructor
    · rintro ⟨i, hi, h⟩
      cases i with
      | zero => exact .inl h
      | succ i => exact .inr ⟨i, by simpa using hi, h⟩
    · rintro (h | ⟨i, hi, h⟩)
      · exact ⟨0, by simp, h⟩
      · exact ⟨i + 1, by simpa using hi, h⟩

/-- Values with depth stored one behind the other into a list under construction. -/
theorem OL.putMany {base g n c : Nat} {e : TypeId} {sz : Nat} : ∀ (us : List Value) (ds : List Dat) (w : World) (cs : List Dat) (S T : Nat → Prop) (o : Nat), OL w base e sz (.slice (some ⟨g, 0, none⟩) n c) n cs S → Cells w base us ds T → o + us.length ≤ cs.length → (∀ k, T k → ¬ S k) →
    ∃ S', OL (putCells w g o us) base e sz (.slice (some ⟨g, 0, none⟩) n c) n (setMany cs o ds) S' ∧ (∀ k, S' k → S k ∨ T k) ∧ w.grownBy (putCells w g o us) (some g) ∧
      ∀ j, j < us.length → (∃ z, (putCells w g o (us.take j)).cell? ⟨g, o + j, none⟩ = some z) ∧ (putCells w g o (us.take j)).frozen? ⟨g, o + j, none⟩ = false := by
  intro us
  induction us with
  | nil =>
    intro ds w cs S T o h hc ho hd
    have : ds = [] := List.eq_nil_of_length_eq_zero (by obtain ⟨G, hl, _⟩ := hc; simpa using hl.symm)
    subst this
    exact ⟨S, h, fun k hk => .inl hk, World.grownBy.refl _ _, fun j hj => by simp at hj⟩
  | cons u us ih =>
    intro ds w cs S T o h hc ho hd
    match ds, hc with
    | [], hc => obtain ⟨G, hl, _⟩ := hc; simp at hl
    | d :: ds, hc =>
      obtain ⟨T0, T1, h0, h1, hdis, hT⟩ := hc.tail
      simp only [List.length_cons] at ho
      obtain ⟨S1, O1, hS1, G1, hSg, c0, f0⟩ := h.put (i := o) (by omega) u d T0 h0 (fun k hk => hd k ((hT k).2 (.inl hk)))
      have W1 : Within w (w.setCell ⟨g, o, none⟩ u) (fun k => k = g) := Within.of_grown G1 (fun k hk => by simpa using hk.symm)
      have h1' := h1.kept W1 (fun k hk e => hd k ((hT k).2 (.inr hk)) (e ▸ hSg))
      obtain ⟨S2, O2, hS2, G2, hall⟩ := ih ds _ (cs.set o d) S1 T1 (o + 1) O1 h1' (by rw [List.length_set]; omega) (fun k hk hk2 => by
        rcases hS1 k hk2 with hk2 | hk2
        · exact hd k ((hT k).2 (.inr hk)) hk2
        · exact hdis k hk2 hk)
      refine ⟨S2, O2, ?_, grownBy_trans G1 G2, ?_⟩
      · intro k hk
        rcases hS2 k hk with hk | hk
        · rcases hS1 k hk with hk | hk
          · exact .inl hk
          · exact .inr ((hT k).2 (.inl hk))
        · exact .inr ((hT k).2 (.inr hk))
      · intro j hj
        cases j with
        | zero => exact ⟨c0, f0⟩
        | succ j =>
          have := hall j (by simpa using hj)
          simp only [List.take_succ_cons, putCells]
          rw [show o + (j + 1) = o + 1 + j by omega]
          exact this

/-- An element with depth stored, cell by cell, into a list under construction. -/
theorem OL.putElem {α : Type} {L : Lay α} {w : World} {base g n c : Nat} {e : TypeId} {M : List α} {S : Nat → Prop} (h : OL w base e L.sz (.slice (some ⟨g, 0, none⟩) n c) n (M.flatMap L.cells) S) {i : Nat} (hi : i < M.length) (us : List Value) (x : α) (T : Nat → Prop) (hu : Cells w base us (L.cells x) T) (hdis : ∀ k, T k → ¬ S k) :
    ∃ S', OL (putCells w g (i * L.sz) us) base e L.sz (.slice (some ⟨g, 0, none⟩) n c) n ((M.set i x).flatMap L.cells) S' ∧ (∀ k, S' k → S k ∨ T k) ∧ S g ∧ w.grownBy (putCells w g (i * L.sz) us) (some g) ∧
      ∀ j, j < us.length → (∃ z, (putCells w g (i * L.sz) (us.take j)).cell? ⟨g, i * L.sz + j, none⟩ = some z) ∧ (putCells w g (i * L.sz) (us.take j)).frozen? ⟨g, i * L.sz + j, none⟩ = false := by
  have hlu : us.length = L.sz := by obtain ⟨G, hl, _⟩ := hu; rw [hl, L.len]
  have hle : i * L.sz + us.length ≤ (M.flatMap L.cells).length := by
    rw [flat_length L.len, hlu]
    have : (i + 1) * L.sz ≤ M.length * L.sz := Nat.mul_le_mul_right _ hi
    rw [Nat.add_mul] at this; omega
  obtain ⟨S', O', hS', G', hall⟩ := OL.putMany us (L.cells x) w _ S T (i * L.sz) h hu hle hdis
  rw [setMany_flat L.len hi] at O'
  have hSg : S g := by
    obtain ⟨vs, F, ho, hl, hr, hd, hg, hS⟩ := h
    exact (hS g).2 (.inl rfl)
  exact ⟨S', O', hS', hSg, G', hall⟩

/-- Lists of integers, in the words of earlier texts. -/
theorem RD.reads {w : World} {a : Option Addr} {n c : Nat} {zs : List Int} (h : RD w (.slice a n c) (slD Lay.int zs)) : Reads w a zs := by
  by_cases h0 : zs = []
  · exact .inl h0
  · have hpos : 0 < zs.length := List.length_pos_iff.2 h0
    obtain ⟨b, off, rfl, hb, _⟩ := RD.cellAt h hpos (j := 0) (by decide) (by simp [Lay.int])
    refine .inr ⟨b, off, rfl, hb, fun i hi => ?_⟩
    obtain ⟨b', off', e, _, u, hc, r⟩ := RD.cellAt h hi (j := 0) (by decide) (by simp [Lay.int])
    cases e
    have hu : u = .int .i64 zs[i] := RD.val_eq r
    have e1 : off + (i * Lay.int.sz + 0) = off + i := by show off + (i * 1 + 0) = _; omega
    rw [e1, hu] at hc
    rw [hc]
    simp [List.getD, hi]
theorem ints_cells (zs : List Int) : zs.flatMap Lay.int.cells = zs.map (fun k => Dat.val (.int .i64 k)) := by
  induction zs with
  | nil => rfl
  | cons x xs ih => rw [List.flatMap_cons, ih]; rfl
theorem Reads.rd {w : World} {a : Option Addr} {zs : List Int} (h : Reads w a zs) (c : Nat) (hc0 : zs.length ≤ c) : RD w (.slice a zs.length c) (slD Lay.int zs) := by
  unfold slD
  rw [ints_cells]
  rcases h with rfl | ⟨b, off, rfl, hb, hc⟩
  · exact .empty a c
  · refine .row b off _ c _ (zs.map (Value.int .i64)) hc0 hb (by simp) (fun i hi => ?_) (fun i hi hi' => ?_)
    · have hi' : i < zs.length := by simpa using hi
      rw [hc i hi']; simp [List.getD, hi']
    · simp only [List.getElem_map]; exact .val _
theorem OwnInts.ol {w : World} {base : Nat} {e : TypeId} {v : Value} {zs : List Int} (h : OwnInts w base e v zs) : OL w base e 1 v zs.length (zs.flatMap Lay.int.cells) (fun k => v.ownBlock = some k) := by
  rw [ints_cells]
  refine ⟨zs.map (Value.int .i64), fun _ _ => False, h, by simp, fun i hi hi' => ?_, fun _ _ _ _ _ _ h => h.elim, fun _ _ _ _ h => h, fun k => by simp⟩
  simp only [List.getElem_map]; exact .val _
theorem OwnInts.od {w : World} {base : Nat} {e : TypeId} {v : Value} {zs : List Int} (h : OwnInts w base e v zs) : OD w base v (slD Lay.int zs) (fun k => v.ownBlock = some k) := h.ol.od
end Go.Proofs.YthnppodnjokaoaaGreatDoor
namespace Go.Proofs.YthnppodnjokaoaaGreatDoor
open Go.RowKit

/-- The ways to the places 0 to n, as a list. -/
def vecL (v : Nat → Nat) (n : Nat) : List Int := (List.range (n + 1)).map fun j => (v j : Int)
theorem vecL_length (v : Nat → Nat) (n : Nat) : (vecL v n).length = n + 1 := by simp [vecL]
theorem vecL_get (v : Nat → Nat) (n : Nat) {j : Nat} (h : j ≤ n) : (vecL v n).getD j 0 = (v j : Int) := by
  simp [vecL, List.getD, show j < n + 1 by omega]
theorem vecL_congr {u v : Nat → Nat} {n : Nat} (h : ∀ j, j ≤ n → u j = v j) : vecL u n = vecL v n := by
  unfold vecL
  refine List.map_congr_left (fun j hj => ?_)
  rw [List.mem_range] at hj
  rw [h j (by omega)]

theorem blk_cell {w w' : World} {b o : Nat} (h : w'.heap[b]? = w.heap[b]?) : w'.cell? ⟨b, o, none⟩ = w.cell? ⟨b, o, none⟩ := World.cell?_of_block (w := w) (w' := w') (a := ⟨b, o, none⟩) h
theorem blk_frozen {w w' : World} {b o : Nat} (h : w'.heap[b]? = w.heap[b]?) : w'.frozen? ⟨b, o, none⟩ = w.frozen? ⟨b, o, none⟩ := by unfold World.frozen?; rw [h]
theorem cell_set {w : World} {b o : Nat} {u x : Value} (h : w.cell? ⟨b, o, none⟩ = some u) : (w.setCell ⟨b, o, none⟩ x).cell? ⟨b, o, none⟩ = some x := by
  have := World.cell?_setCell_same w ⟨b, o, none⟩ x h
  exact this
theorem cell_set_off {w : World} {b o b' i : Nat} {x : Value} (h : b ≠ b' ∨ o ≠ i) : (w.setCell ⟨b, o, none⟩ x).cell? ⟨b', i, none⟩ = w.cell? ⟨b', i, none⟩ := by
  refine World.cell?_setCell_other w ⟨b, o, none⟩ ⟨b', i, none⟩ x (fun e => ?_)
  have := Addr.mk.inj e
  rcases h with h | h
  · exact h this.1
  · exact h this.2.1
theorem reads_within {w w' : World} {b : Nat} {zs : List Int} {M : Nat → Prop} (h : Reads w (some ⟨b, 0, none⟩) zs) (hw : Within w w' M) (hb : ¬ M b) : Reads w' (some ⟨b, 0, none⟩) zs := by
  rcases h with h | ⟨b', off, e, hlt, hc⟩
  · exact .inl h
  · obtain ⟨rfl, rfl, _⟩ := Addr.mk.inj (Option.some.inj e)
    exact .inr ⟨b, 0, rfl, Nat.lt_of_lt_of_le hlt hw.size, fun i hi => by rw [blk_cell (hw.block b hlt hb)]; exact hc i hi⟩

/-- Where the table lies. -/
structure TP where
  bT : Nat
  oW : Nat
  oD : Nat
  cW : Nat
  cD : Nat
  bW : Nat → Nat
  bD : Nat → Nat
/-- Its rows' blocks: they alone turn. -/
def TP.M (t : TP) (K : Nat) (b : Nat) : Prop := ∃ k, k < K ∧ (b = t.bW k ∨ b = t.bD k)
structure TPOk (t : TP) (K base : Nat) : Prop where
  wW : ∀ i j, i < K → j < K → t.bW i = t.bW j → i = j
  dD : ∀ i j, i < K → j < K → t.bD i = t.bD j → i = j
  wD : ∀ i j, i < K → j < K → t.bW i ≠ t.bD j
  T : ¬ t.M K t.bT
  oW : ¬ t.M K t.oW
  oD : ¬ t.M K t.oD
  base : ∀ b, t.M K b → base ≤ b
/-- A value that is a list of ways. -/
def RowV (w : World) (M N : Nat → Prop) (zs : List Int) (u : Value) : Prop := ∃ b c, u = .slice (some ⟨b, 0, none⟩) zs.length c ∧ ¬ M b ∧ ¬ N b ∧ b < w.heap.size ∧ Reads w (some ⟨b, 0, none⟩) zs
theorem RowV.kept {w w' : World} {M N T : Nat → Prop} {zs : List Int} {u : Value} (h : RowV w M N zs u) (hw : Within w w' T) (hT : ∀ b, T b → M b ∨ N b) : RowV w' M N zs u := by
  obtain ⟨b, c, rfl, hM, hN, hl, hr⟩ := h
  exact ⟨b, c, rfl, hM, hN, Nat.lt_of_lt_of_le hl hw.size, reads_within hr hw (fun e => (hT b e).elim hM hN)⟩
theorem RowV.turn {w : World} {M N N' : Nat → Prop} {zs : List Int} {u : Value} (h : RowV w M N zs u) (hN' : ∀ b, N' b → N b ∨ w.heap.size ≤ b) : RowV w M N' zs u := by
  obtain ⟨b, c, rfl, hM, hN, hl, hr⟩ := h
  exact ⟨b, c, rfl, hM, fun e => (hN' b e).elim hN (fun g => by omega), hl, hr⟩

section
variable (P : List (List (List Int))) (ws : List Int) (w0 : World) (t : TP) (aP : Option Addr) (cP : Nat) (aw : Option Addr) (cw : Nat)
structure Tab (N : Nat → Prop) (w : World) : Prop where
  ok : TPOk t P.length w0.heap.size
  low : Below w0.heap.size w0 w
  lt : t.bT < w.heap.size ∧ t.oW < w.heap.size ∧ t.oD < w.heap.size ∧ ∀ b, t.M P.length b → b < w.heap.size
  c0 : w.cell? ⟨t.bT, 0, none⟩ = some (.slice aP P.length cP)
  c1 : w.cell? ⟨t.bT, 1, none⟩ = some (.slice aw ws.length cw)
  c2 : w.cell? ⟨t.bT, 2, none⟩ = some (.slice (some ⟨t.oW, 0, none⟩) P.length t.cW)
  c3 : w.cell? ⟨t.bT, 3, none⟩ = some (.slice (some ⟨t.oD, 0, none⟩) P.length t.cD)
  rW : ∀ k, k < P.length → w.cell? ⟨t.oW, k, none⟩ = some (.slice (some ⟨t.bW k, 0, none⟩) (ws.length + 1) (ws.length + 1))
  rD : ∀ k, k < P.length → w.cell? ⟨t.oD, k, none⟩ = some (.slice (some ⟨t.bD k, 0, none⟩) (ws.length + 1) (ws.length + 1))
  fr : ∀ b, t.M P.length b → ∀ i, w.frozen? ⟨b, i, none⟩ = false
  known : ∃ d : Nat → Nat → Bool, ∀ k i, k < P.length → i ≤ ws.length → w.cell? ⟨t.bD k, i, none⟩ = some (.bool (d k i)) ∧ ∃ u, w.cell? ⟨t.bW k, i, none⟩ = some u ∧ (d k i = true → RowV w (t.M P.length) N (vecL (way P ws k i) ws.length) u)
end
section
variable {P : List (List (List Int))} {ws : List Int} {w0 : World} {t : TP} {aP : Option Addr} {cP : Nat} {aw : Option Addr} {cw : Nat} {N : Nat → Prop} {w w' : World}
/-- What is elsewhere turns nothing here. -/
theorem Tab.kept {T : Nat → Prop} (h : Tab P ws w0 t aP cP aw cw N w) (hw : Within w w' T) (hT : ∀ b, T b → N b ∧ w0.heap.size ≤ b ∧ b ≠ t.bT ∧ b ≠ t.oW ∧ b ≠ t.oD ∧ ¬ t.M P.length b) : Tab P ws w0 t aP cP aw cw N w' := by
  obtain ⟨l1, l2, l3, l4⟩ := h.lt
  have k1 := hw.block t.bT l1 (fun e => (hT _ e).2.2.1 rfl)
  have k2 := hw.block t.oW l2 (fun e => (hT _ e).2.2.2.1 rfl)
  have k3 := hw.block t.oD l3 (fun e => (hT _ e).2.2.2.2.1 rfl)
  have k4 : ∀ b, t.M P.length b → w'.heap[b]? = w.heap[b]? := fun b hm => hw.block b (l4 b hm) (fun e => (hT _ e).2.2.2.2.2 hm)
  obtain ⟨d, hd⟩ := h.known
  have mW : ∀ k, k < P.length → t.M P.length (t.bW k) := fun k hk => ⟨k, hk, .inl rfl⟩
  have mD : ∀ k, k < P.length → t.M P.length (t.bD k) := fun k hk => ⟨k, hk, .inr rfl⟩
  refine ⟨h.ok, hw.below h.low (fun b e => (hT b e).2.1), ⟨Nat.lt_of_lt_of_le l1 hw.size, Nat.lt_of_lt_of_le l2 hw.size, Nat.lt_of_lt_of_le l3 hw.size, fun b hm => Nat.lt_of_lt_of_le (l4 b hm) hw.size⟩, ?_, ?_, ?_, ?_, fun k hk => ?_, fun k hk => ?_, fun b hm i => ?_, d, fun k i hk hi => ⟨?_, ?_⟩⟩
  · rw [blk_cell k1]; exact h.c0
  · rw [blk_cell k1]; exact h.c1
  · rw [blk_cell k1]; exact h.c2
  · rw [blk_cell k1]; exact h.c3
  · rw [blk_cell k2]; exact h.rW k hk
  · rw [blk_cell k3]; exact h.rD k hk
  · rw [blk_frozen (k4 b hm)]; exact h.fr b hm i
  · rw [blk_cell (k4 _ (mD k hk))]; exact (hd k i hk hi).1
  · obtain ⟨u, hu, hr⟩ := (hd k i hk hi).2
    refine ⟨u, by rw [blk_cell (k4 _ (mW k hk))]; exact hu, fun e => (hr e).kept hw (fun b e => .inr (hT b e).1)⟩
theorem Tab.later (h : Tab P ws w0 t aP cP aw cw N w) (hb : Below w.heap.size w w') : Tab P ws w0 t aP cP aw cw N w' := h.kept (T := fun _ => False) (Within.of_below hb _) (fun _ e => e.elim)
theorem Tab.turn {N' : Nat → Prop} (h : Tab P ws w0 t aP cP aw cw N w) (hN : ∀ b, N' b → N b ∨ w.heap.size ≤ b) : Tab P ws w0 t aP cP aw cw N' w := by
  obtain ⟨d, hd⟩ := h.known
  exact ⟨h.ok, h.low, h.lt, h.c0, h.c1, h.c2, h.c3, h.rW, h.rD, h.fr, d, fun k i hk hi => ⟨(hd k i hk hi).1, by
    obtain ⟨u, hu, hr⟩ := (hd k i hk hi).2
    exact ⟨u, hu, fun e => (hr e).turn hN⟩⟩⟩
theorem set_within (w : World) (b o : Nat) (u : Value) {M : Nat → Prop} (h : M b) : Within w (w.setCell ⟨b, o, none⟩ u) M := Within.setCell (Within.refl _ _) _ _ h
/-- A row is put in. -/
theorem Tab.storeW (h : Tab P ws w0 t aP cP aw cw N w) {k i : Nat} (hk : k < P.length) {u : Value} (hu : RowV w (t.M P.length) N (vecL (way P ws k i) ws.length) u) : Tab P ws w0 t aP cP aw cw N (w.setCell ⟨t.bW k, i, none⟩ u) := by
  obtain ⟨l1, l2, l3, l4⟩ := h.lt
  obtain ⟨d, hd⟩ := h.known
  have mW : ∀ k, k < P.length → t.M P.length (t.bW k) := fun k hk => ⟨k, hk, .inl rfl⟩
  have mD : ∀ k, k < P.length → t.M P.length (t.bD k) := fun k hk => ⟨k, hk, .inr rfl⟩
  have hw : Within w (w.setCell ⟨t.bW k, i, none⟩ u) (t.M P.length) := set_within _ _ _ _ (mW k hk)
  have nT : t.bW k ≠ t.bT := fun e => h.ok.T (e ▸ mW k hk)
  have nW : t.bW k ≠ t.oW := fun e => h.ok.oW (e ▸ mW k hk)
  have nD : t.bW k ≠ t.oD := fun e => h.ok.oD (e ▸ mW k hk)
  refine ⟨h.ok, hw.below h.low (fun b hm => h.ok.base b hm), ⟨by simpa using l1, by simpa using l2, by simpa using l3, fun b hm => by simpa using l4 b hm⟩, ?_, ?_, ?_, ?_, fun k' hk' => ?_, fun k' hk' => ?_, fun b hm j => ?_, d, fun k' i' hk' hi' => ⟨?_, ?_⟩⟩
  · rw [cell_set_off (.inl nT)]; exact h.c0
  · rw [cell_set_off (.inl nT)]; exact h.c1
  · rw [cell_set_off (.inl nT)]; exact h.c2
  · rw [cell_set_off (.inl nT)]; exact h.c3
  · rw [cell_set_off (.inl nW)]; exact h.rW k' hk'
  · rw [cell_set_off (.inl nD)]; exact h.rD k' hk'
  · rw [World.frozen?_setCell]; exact h.fr b hm j
  · rw [cell_set_off (.inl (h.ok.wD k k' hk hk'))]; exact (hd k' i' hk' hi').1
  · obtain ⟨u', hu', hr'⟩ := (hd k' i' hk' hi').2
    by_cases e : k = k' ∧ i = i'
    · obtain ⟨rfl, rfl⟩ := e
      exact ⟨u, cell_set hu', fun _ => hu.kept hw (fun _ e => .inl e)⟩
    · refine ⟨u', ?_, fun e2 => (hr' e2).kept hw (fun _ e => .inl e)⟩
      rw [cell_set_off (by
        by_cases e2 : k = k'
        · exact .inr (fun e3 => e ⟨e2, e3⟩)
        · exact .inl (fun e3 => e2 (h.ok.wW k k' hk hk' e3)))]
      exact hu'
/-- It is told that it is there. -/
theorem Tab.storeD (h : Tab P ws w0 t aP cP aw cw N w) {k i : Nat} (hk : k < P.length) {u : Value} (hc : w.cell? ⟨t.bW k, i, none⟩ = some u) (hu : RowV w (t.M P.length) N (vecL (way P ws k i) ws.length) u) : Tab P ws w0 t aP cP aw cw N (w.setCell ⟨t.bD k, i, none⟩ (.bool true)) := by
  obtain ⟨l1, l2, l3, l4⟩ := h.lt
  obtain ⟨d, hd⟩ := h.known
  have mW : ∀ k, k < P.length → t.M P.length (t.bW k) := fun k hk => ⟨k, hk, .inl rfl⟩
  have mD : ∀ k, k < P.length → t.M P.length (t.bD k) := fun k hk => ⟨k, hk, .inr rfl⟩
  have hw : Within w (w.setCell ⟨t.bD k, i, none⟩ (.bool true)) (t.M P.length) := set_within _ _ _ _ (mD k hk)
  have nT : t.bD k ≠ t.bT := fun e => h.ok.T (e ▸ mD k hk)
  have nW : t.bD k ≠ t.oW := fun e => h.ok.oW (e ▸ mD k hk)
  have nD : t.bD k ≠ t.oD := fun e => h.ok.oD (e ▸ mD k hk)
  refine ⟨h.ok, hw.below h.low (fun b hm => h.ok.base b hm), ⟨by simpa using l1, by simpa using l2, by simpa using l3, fun b hm => by simpa using l4 b hm⟩, ?_, ?_, ?_, ?_, fun k' hk' => ?_, fun k' hk' => ?_, fun b hm j => ?_, (fun k' i' => if k' = k ∧ i' = i then true else d k' i'), fun k' i' hk' hi' => ?_⟩
  · rw [cell_set_off (.inl nT)]; exact h.c0
  · rw [cell_set_off (.inl nT)]; exact h.c1
  · rw [cell_set_off (.inl nT)]; exact h.c2
  · rw [cell_set_off (.inl nT)]; exact h.c3
  · rw [cell_set_off (.inl nW)]; exact h.rW k' hk'
  · rw [cell_set_off (.inl nD)]; exact h.rD k' hk'
  · rw [World.frozen?_setCell]; exact h.fr b hm j
  · have hd' := hd k' i' hk' hi'
    by_cases e : k' = k ∧ i' = i
    · obtain ⟨rfl, rfl⟩ := e
      refine ⟨?_, u, ?_, fun _ => hu.kept hw (fun _ e => .inl e)⟩
      · simp only [and_self, if_true]; exact cell_set hd'.1
      · rw [cell_set_off (.inl (fun e2 => h.ok.wD k' k' hk hk e2.symm))]; exact hc
    · obtain ⟨u', hu', hr'⟩ := hd'.2
      simp only [if_neg e]
      refine ⟨?_, u', ?_, fun e2 => (hr' e2).kept hw (fun _ e => .inl e)⟩
      · rw [cell_set_off (by
          by_cases e2 : k = k'
          · exact .inr (fun e3 => e ⟨e2.symm, e3.symm⟩)
          · exact .inl (fun e3 => e2 (h.ok.dD k k' hk hk' e3)))]
        exact hd'.1
      · rw [cell_set_off (.inl (fun e2 => h.ok.wD k' k hk' hk e2.symm))]; exact hu'
end
/-- What a step over the table comes to. -/
def GoPost (P : List (List (List Int))) (ws : List Int) (w0 : World) (t : TP) (aP : Option Addr) (cP : Nat) (aw : Option Addr) (cw : Nat) (N : Nat → Prop) (w : World) (v : Nat → Nat) (e : Ending) (w' : World) : Prop :=
  ∃ b c, e = .returned (.slice (some ⟨b, 0, none⟩) (ws.length + 1) c) ∧ ¬ t.M P.length b ∧ ¬ N b ∧ b < w'.heap.size ∧ Reads w' (some ⟨b, 0, none⟩) (vecL v ws.length) ∧ Tab P ws w0 t aP cP aw cw N w' ∧ Within w w' (t.M P.length)
end Go.Proofs.YthnppodnjokaoaaGreatDoor
namespace Go.Proofs.YthnppodnjokaoaaGreatDoor
theorem Tryz.infoInt : (Tryz.prog.info? 3).map (fun i => (i.zero, i.size, i.bytes)) = some (some (.int .i64 0), 1, 8) := by kernel_rfl
end Go.Proofs.YthnppodnjokaoaaGreatDoor
namespace Go.Proofs.YthnppodnjokaoaaGreatDoor
open Go.RowKit

theorem made_get (n i : Nat) (h : i < n) : (madeCells #[Value.int .i64 0] n)[i]? = some (.int .i64 0) := by
  have e := toList_madeCells_one (.int .i64 0) n
  have : (madeCells #[Value.int .i64 0] n).toList[i]? = some (.int .i64 0) := by rw [e]; simp [h]
  simpa using this

set_option maxHeartbeats 1000000 in
set_option maxRecDepth 100000 in
theorem l7At_any (bT : Nat) (aw : Option Addr) (cw : Nat) (n i : Nat) (w : World) (hn : n ≤ 10) (hi : i ≤ n) (c1 : w.cell? ⟨bT, 1, none⟩ = some (.slice aw n cw)) :
    Calls Tryz.prog 38 #[.pointer (some ⟨bT, 0, none⟩), .int .i64 (i : Int)] w fun e w' => e = .returned (.slice (some ⟨w.heap.size, 0, none⟩) (n + 1) (n + 1)) ∧ w.heap.size < w'.heap.size ∧ Reads w' (some ⟨w.heap.size, 0, none⟩) (vecL (deltaV i) n) ∧ Below w.heap.size w w' := by
  have hmk := fun wx => run_make_row' (P := Tryz.prog) 25 3 (.int .i64 0) 8 Tryz.underlying25 Tryz.infoInt rfl .i64 .i64 (n + 1) (by omega) (by omega) wx
  rw [show ((n + 1 : Nat) : Int) = (n : Int) + 1 from rfl] at hmk
  have hmc := made_get (n + 1) i (by omega)
  have hi2 : (i : Int) < (n : Int) + 1 := by omega
  go_enter Tryz.func38, Tryz.ntmps38
  go_wp2
  go_ret
  refine ⟨rfl, by simp, ?_, (Below.refl _ _).alloc (Nat.le_refl _) _⟩
  refine .inr ⟨w.heap.size, 0, rfl, by simp, fun j hj => ?_⟩
  rw [vecL_length] at hj
  have h0 := made_get (n + 1) j hj
  have hk : (w.alloc (.cells ((madeCells #[Value.int .i64 0] (n + 1)).setIfInBounds i (.int .i64 1)) 3)).cell? ⟨w.heap.size, j, none⟩ = ((madeCells #[Value.int .i64 0] (n + 1)).setIfInBounds i (.int .i64 1))[j]? := by simp
  rw [vecL_get _ _ (by omega), Nat.zero_add, hk, Array.getElem?_setIfInBounds]
  unfold deltaV
  by_cases e : i = j
  · subst e
    rw [if_pos rfl, if_pos (by rw [size_madeCells]; exact hj), if_pos rfl]; rfl
  · rw [if_neg e, if_neg (fun h => e h.symm), h0]; rfl
end Go.Proofs.YthnppodnjokaoaaGreatDoor
namespace Go.Proofs.YthnppodnjokaoaaGreatDoor
open Go.RowKit

theorem l1In_any (x lo hi : Int) (w : World) : Calls Tryz.prog 21 #[.int .i64 x, .int .i64 lo, .int .i64 hi] w fun e w' => e = .returned (.bool (inB x lo hi)) ∧ w' = w := by
  by_cases h1 : lo ≤ x
  · by_cases h2 : x ≤ hi
    · go_enter Tryz.func21, Tryz.ntmps21
      go_wp2
      go_ret
      exact ⟨ret_bool (by simp [inB, h1, h2]), rfl⟩
    · go_enter Tryz.func21, Tryz.ntmps21
      go_wp2
      go_ret
      exact ⟨ret_bool (by simp [inB, h1, h2]), rfl⟩
  · go_enter Tryz.func21, Tryz.ntmps21
    go_wp2
    go_ret
    exact ⟨ret_bool (by simp [inB]; omega), rfl⟩

end Go.Proofs.YthnppodnjokaoaaGreatDoor
namespace Go.Proofs.YthnppodnjokaoaaGreatDoor
open Go.RowKit

/-- Each block that is told begins with the cells that are told. -/
def Keeps (w : World) (L : List (Nat × List Value)) : Prop := ∀ p ∈ L, ∀ j (hj : j < p.2.length), w.cell? ⟨p.1, j, none⟩ = some p.2[j]
theorem Keeps.nil (w : World) : Keeps w [] := fun p hp => by simp at hp
theorem Keeps.later {w w' : World} {L : List (Nat × List Value)} (h : Keeps w L) (hb : Below w.heap.size w w') : Keeps w' L := by
  intro p hp j hj
  have c := h p hp j hj
  exact (hb.cell (p := ⟨p.1, j, none⟩) (World.block_lt_of_cell? w _ c)).trans c
theorem Keeps.box {w : World} {L : List (Nat × List Value)} (h : Keeps w L) (vs : List Value) (t : TypeId) : Keeps (w.alloc (.cells vs.toArray t)) ((w.heap.size, vs) :: L) := by
  intro p hp j hj
  rcases List.mem_cons.1 hp with rfl | hp
  · have e := Lib.cell_of_heap (heap_alloc_new w (.cells vs.toArray t)) j
    rw [e]
    simp at hj
    simp [hj]
  · exact h.later ((Below.refl _ _).alloc (Nat.le_refl _) _) p hp j hj
theorem Keeps.drew {w : World} {L : List (Nat × List Value)} (h : Keeps w L) : Keeps w.drew L := h.later (Below.drew (Below.refl _ _))
theorem Keeps.drewN {w : World} {L : List (Nat × List Value)} (h : Keeps w L) (n : Nat) : Keeps (w.drewN n) L := h.later (below_drew n)

theorem Cells.rdAt {w : World} {base : Nat} {us : List Value} {ds : List Dat} {T : Nat → Prop} (h : Cells w base us ds T) (i : Nat) (hi : i < us.length) (hi' : i < ds.length) : RD w us[i] ds[i] := by
  obtain ⟨G, hl, hr, _⟩ := h
  exact (hr i hi hi').rd
theorem take_atL {P : Program} {ops : Array Oper} {Q : Exit → Act → World → Prop} {md : Region.Mode} {S : World → Prop} {i : Nat} {oi : Oper} {d : Option Tmp} {v : Value} {fuel : Nat} {listed : Array Bool} {a : Act} {w : World} (hi : ops[i]? = some oi) (hd : oi.dst = d)
    (hs : Region.noSelect ops = true) (hf : Region.free md ops listed i = true) (hr : (Region.ready md ops listed).contains i = true)
    (hQ : ∀ c a w, Q (.panic c) (a.put d v) w → Q (.panic c) a w) (hw : Region.wanted oi (yielded ops a.tmps) = true) (hv : ∀ w, S w → (execOp a.eval oi).run P w = .ok (.value v) w) (hS : S w)
    (h : wpAnyH P md ops Q S fuel (listed.setIfInBounds i true) (a.put d v) w) : wpAnyH P md ops Q S (fuel + 1) listed a w := by
  subst hd
  exact wpAnyH_take hi hs hf hr hQ (.inl ⟨hw, hv⟩) hS h
theorem Below.drewed {w w' : World} (h : Below w.heap.size w.drew w') : Below w.heap.size w w' := ⟨h.os, h.tape, h.output, h.size, h.block⟩
end Go.Proofs.YthnppodnjokaoaaGreatDoor
namespace Go.Proofs.YthnppodnjokaoaaGreatDoor
open Go.RowKit

theorem l1Min_any (x y : Int) (w : World) : Calls Tryz.prog 14 #[.int .i64 x, .int .i64 y] w fun e w' => e = .returned (.int .i64 (min x y)) ∧ w' = w := by
  by_cases h1 : x < y
  · go_enter Tryz.func14, Tryz.ntmps14
    go_wp2
    go_ret
    exact ⟨ret_int (by omega), rfl⟩
  · go_enter Tryz.func14, Tryz.ntmps14
    go_wp2
    go_ret
    exact ⟨ret_int (by omega), rfl⟩

theorem wrap_in {a : Int} (h1 : -9223372036854775808 ≤ a) (h2 : a ≤ 9223372036854775807) : IntKind.i64.wrap a = a := by rw [IntKind.wrap_i64]; omega
/-- Behind a letter, the first i places gone through. -/
def letTo (ws : List Int) (c : Int) (v : Nat → Nat) (i : Nat) : Nat → Nat := fun j => if j ≤ i then letNx ws c v j else 0
theorem letTo_skip {ws : List Int} {c : Int} {v : Nat → Nat} {i : Nat} (h : letNx ws c v (i + 1) = 0) : letTo ws c v (i + 1) = letTo ws c v i := by
  funext j
  unfold letTo
  by_cases e : j = i + 1
  · subst e; rw [if_pos (Nat.le_refl _), if_neg (by omega), h]
  · by_cases e2 : j ≤ i
    · rw [if_pos (by omega), if_pos e2]
    · rw [if_neg (by omega), if_neg e2]
theorem letTo_put (ws : List Int) (c : Int) (v : Nat → Nat) (i j : Nat) : letTo ws c v (i + 1) j = if j = i + 1 then letNx ws c v (i + 1) else letTo ws c v i j := by
  unfold letTo
  by_cases e : j = i + 1
  · subst e; rw [if_pos (Nat.le_refl _), if_pos rfl]
  · rw [if_neg e]
    by_cases e2 : j ≤ i
    · rw [if_pos (by omega), if_pos e2]
    · rw [if_neg (by omega), if_neg e2]
theorem letTo_end {ws : List Int} {c : Int} {v : Nat → Nat} {j : Nat} (h : j ≤ ws.length) : letTo ws c v (ws.length + 1) j = letNx ws c v j := by
  unfold letTo; rw [if_pos (by omega)]
/-- Behind a part, the first i places gone through. -/
def partTo (W : Nat → Nat → Nat) (v : Nat → Nat) (i : Nat) : Nat → Nat := fun j => capN (sumTo (fun i => v i * W i j) i)
/-- .. and of the next one the places below m. -/
def partTo2 (W : Nat → Nat → Nat) (v : Nat → Nat) (i m : Nat) : Nat → Nat := fun j => if j < m then partTo W v (i + 1) j else partTo W v i j
theorem partTo_skip {W : Nat → Nat → Nat} {v : Nat → Nat} {i : Nat} (h : v i = 0) : partTo W v (i + 1) = partTo W v i := by
  funext j; unfold partTo; rw [sumTo, h, Nat.zero_mul, Nat.add_zero]
theorem partTo_step {W : Nat → Nat → Nat} {v : Nat → Nat} {i j : Nat} : partTo W v (i + 1) j = capN (partTo W v i j + v i * W i j) := by
  unfold partTo; rw [sumTo, capN_add]
theorem partTo_le (W : Nat → Nat → Nat) (v : Nat → Nat) (i j : Nat) : partTo W v i j ≤ 1000 := capN_le _
theorem partTo2_start {W : Nat → Nat → Nat} {v : Nat → Nat} {i : Nat} (h : ∀ j, W i j ≠ 0 → i ≤ j) : partTo2 W v i i = partTo W v i := by
  funext j
  unfold partTo2
  split
  · have : W i j = 0 := by
      by_cases e : W i j = 0
      · exact e
      · have := h j e; omega
    rw [partTo_step, this, Nat.mul_zero, Nat.add_zero]
    exact capN_of_le (partTo_le _ _ _ _)
  · rfl
theorem partTo2_step {W : Nat → Nat → Nat} {v : Nat → Nat} {i j : Nat} (m : Nat) : partTo2 W v i (j + 1) m = if m = j then partTo W v (i + 1) j else partTo2 W v i j m := by
  unfold partTo2
  by_cases e : m = j
  · subst e; rw [if_pos (Nat.lt_succ_self _), if_pos rfl]
  · rw [if_neg e]
    by_cases e2 : m < j
    · rw [if_pos (by omega), if_pos e2]
    · rw [if_neg (by omega), if_neg e2]
theorem Within.comp {w W W' : World} {P T : Nat → Prop} (h : Within w W P) (g : Within W W' T) (hT : ∀ k, T k → P k ∨ w.heap.size ≤ k) : Within w W' P :=
  ⟨g.os.trans h.os, g.tape.trans h.tape, g.output.trans h.output, Nat.le_trans h.size g.size, fun k hk hn => by
    rw [g.block k (Nat.lt_of_lt_of_le hk h.size) (fun e => by
      rcases hT k e with e | e
      · exact hn e
      · omega)]
    exact h.block k hk hn⟩
theorem row_put {w : World} {g : Nat} {t : TypeId} {n : Nat} {u v : Nat → Nat} {p x : Nat} (h : w.rowIs g t n (fun j => .int .i64 (u j : Int))) (hv : ∀ j, j < n → v j = if j = p then x else u j) :
    (w.setCell ⟨g, p, none⟩ (.int .i64 (x : Int))).rowIs g t n (fun j => .int .i64 (v j : Int)) :=
  (h.set p (.int .i64 (x : Int))).congr (fun j hj => by
    rw [hv j hj]
    by_cases e : j = p <;> simp [e])
theorem row_reads {w : World} {g : Nat} {t : TypeId} {n : Nat} {u : Nat → Nat} (h : w.rowIs g t (n + 1) (fun j => .int .i64 (u j : Int))) : Reads w (some ⟨g, 0, none⟩) (vecL u n) := by
  refine Reads.of_row (b := g) (t := t) ?_
  rw [vecL_length]
  exact h.congr (fun j hj => by rw [vecL_get _ _ (by omega)])
theorem rowIs_within {w w' : World} {g : Nat} {t : TypeId} {n : Nat} {f : Nat → Value} {M : Nat → Prop} (h : w.rowIs g t n f) (hw : Within w w' M) (hg : ¬ M g) : w'.rowIs g t n f := h.of_block (hw.block g h.lt hg)

section
variable {P : List (List (List Int))} {ws : List Int} {w0 : World} {t : TP} {aP : Option Addr} {cP : Nat} {aw : Option Addr} {cw : Nat}
/-- spec.l7Part does what it should at a part and a place. -/
def PartOk (P : List (List (List Int))) (ws : List Int) (w0 : World) (t : TP) (aP : Option Addr) (cP : Nat) (aw : Option Addr) (cw k i : Nat) : Prop :=
  ∀ (N : Nat → Prop) (W : World), (∀ b, N b → b < W.heap.size) → Tab P ws w0 t aP cP aw cw N W → Calls Tryz.prog 53 #[.pointer (some ⟨t.bT, 0, none⟩), .int .i64 (k : Int), .int .i64 (i : Int)] W (GoPost P ws w0 t aP cP aw cw N W (way P ws k i))
theorem reads_vec {w : World} {g : Nat} {v : Nat → Nat} {n : Nat} (h : Reads w (some ⟨g, 0, none⟩) (vecL v n)) {j : Nat} (hj : j ≤ n) : w.cell? ⟨g, j, none⟩ = some (.int .i64 (v j : Int)) := by
  obtain ⟨b, off, e, _, hc⟩ := h.at (i := j) (by rw [vecL_length]; omega)
  obtain ⟨rfl, rfl, _⟩ := Addr.mk.inj (Option.some.inj e)
  have := hc j (by rw [vecL_length]; omega)
  rw [Nat.zero_add, vecL_get _ _ hj] at this
  exact this
theorem min_cap (x y : Nat) : min ((x : Int) + (y : Int)) 1000 = ((capN (x + y) : Nat) : Int) := by unfold capN; omega

set_option maxHeartbeats 8000000 in
set_option maxRecDepth 100000 in
theorem l7Go_any (row : List Int) (ar : Option Addr) (cr : Nat) (v : Nat → Nat) (b0 c0 : Nat) (N : Nat → Prop) (w : World) (hN : ∀ b, N b → b < w.heap.size) (hT : Tab P ws w0 t aP cP aw cw N w) (hws : Reads w0 aw ws) (hn : ws.length ≤ 10) (hr : Reads w0 ar row) (hrl : row.length ≤ 1048576)
    (hf2 : Reads w (some ⟨b0, 0, none⟩) (vecL v ws.length)) (hv : ∀ j, v j ≤ 1000) (hrow : ∀ x ∈ row, 0 ≤ x ∧ x < 120)
    (hcall : ∀ s (hs : s < row.length), 100 ≤ row[s] → ∀ i, i ≤ ws.length → rowNx ws (way P ws) v (row.take s) i ≠ 0 → PartOk P ws w0 t aP cP aw cw (row[s] - 100).toNat i) :
    Calls Tryz.prog 37 #[.pointer (some ⟨t.bT, 0, none⟩), .slice ar row.length cr, .slice (some ⟨b0, 0, none⟩) (ws.length + 1) c0] w (GoPost P ws w0 t aP cP aw cw N w (rowNx ws (way P ws) v row)) := by
  have HC : Hid (∀ s (hs : s < row.length), 100 ≤ row[s] → ∀ i, i ≤ ws.length → rowNx ws (way P ws) v (row.take s) i ≠ 0 → PartOk P ws w0 t aP cP aw cw (row[s] - 100).toNat i) := hcall
  have HV : Hid (∀ s i, rowNx ws (way P ws) v (row.take s) i ≤ 1000) := fun s i => rowNx_le hv i
  have HR : Hid (∀ x ∈ row, 0 ≤ x ∧ x < 120) := hrow
  have HWN : Hid (∀ k i, i ≤ ws.length → ∀ j, way P ws k i j ≠ 0 → i ≤ j) := fun k i hi j h => (way_ne k i hi j h).1
  have HWL : Hid (∀ k i j, way P ws k i j ≤ 1000) := way_le
  have HPOST : Hid (∀ W g c, ¬ t.M P.length g → ¬ N g → g < W.heap.size → Reads W (some ⟨g, 0, none⟩) (vecL (rowNx ws (way P ws) v row) ws.length) → Tab P ws w0 t aP cP aw cw N W → Within w W (t.M P.length) → GoPost P ws w0 t aP cP aw cw N w (rowNx ws (way P ws) v row) (.returned (.slice (some ⟨g, 0, none⟩) (ws.length + 1) c)) W) := fun W g c h0 h1 h2 h3 h4 h5 => ⟨g, c, rfl, h0, h1, h2, h3, h4, h5⟩
  have HWS : Hid (Reads w0 aw ws) := hws
  have HRD : Hid (Reads w0 ar row) := hr
  have HT : Hid (Tab P ws w0 t aP cP aw cw N w) := hT
  have HF2 : Hid (Reads w (some ⟨b0, 0, none⟩) (vecL v ws.length)) := hf2
  have HNN : Hid (∀ b, N b → b < w.heap.size) := hN
  obtain ⟨POST, HPO⟩ : ∃ Q, Hid (GoPost P ws w0 t aP cP aw cw N w (rowNx ws (way P ws) v row) = Q) := ⟨_, rfl⟩
  rw [HPO.out] at HPOST ⊢
  show Calls _ _ _ _ (fun e w' => POST e w')
  clear HPO hcall hv hrow hws hr hT hf2 hN
  go_enter Tryz.func37, Tryz.ntmps37
  go_wp2_with (at_builtin; refine wpList_append_ints _ rfl (.tmp 13) (.tmp 14) 25 rfl w.heap.size 3 Tryz.underlying25 Tryz.infoInt _ _ rfl (OwnInts.empty (Nat.le_refl _)) _ _ _ (vecL v ws.length) rfl (by rw [vecL_length]) (HF2.out.below ((Below.refl _ _).alloc (Nat.le_refl _) _)) (by simp [vecL_length]; omega) (by simp) ?_)
  intro v1 w1 hO1 hg1
  have hb1 : Below w.heap.size w w1 := ((Below.refl _ _).alloc (Nat.le_refl _) _).grown hg1 (by simp) (fun k hk => by simp [Value.ownBlock] at hk; omega)
  have hO2 : OwnInts w1 w.heap.size 3 v1 (vecL v ws.length) := hO1
  obtain ⟨a1, cg1, rfl, hr1, hne1⟩ := hO2.shape
  have hblk := hO2.block
  obtain ⟨g1, rfl⟩ := hne1 (by intro e; have := congrArg List.length e; rw [vecL_length] at this; simp at this)
  have hgb := hblk g1 rfl
  have HLT : Hid (∀ b, t.M P.length b → b < w.heap.size) := HT.out.lt.2.2.2
  have HL3 : Hid (t.bT < w.heap.size ∧ t.oW < w.heap.size ∧ t.oD < w.heap.size) := ⟨HT.out.lt.1, HT.out.lt.2.1, HT.out.lt.2.2.1⟩
  have HLOW : Hid (w0.heap.size ≤ w.heap.size) := HT.out.low.size
  have HG1 : Hid (w.heap.size ≤ g1) := hgb.1
  have HT1 : Hid (Tab P ws w0 t aP cP aw cw N w1) := HT.out.later hb1
  have HW1 : Hid (Within w w1 (t.M P.length)) := Within.of_below hb1 _
  have HR1 : Hid (Reads w1 (some ⟨g1, 0, none⟩) (vecL (rowNx ws (way P ws) v (row.take 0)) ws.length)) := hr1
  have hg1l : g1 < w1.heap.size := hgb.2
  clear hO1 hO2 hg1 hr1 hne1 hblk hgb HF2 HT hb1
  rw [vecL_length]
  go_wp2
  go_loopw [7, 8] (fun snow ss wr => ∃ s g cg : Nat, s ≤ row.length ∧ ss = .int .i64 (s : Int) ∧ snow = .slice (some ⟨g, 0, none⟩) (ws.length + 1) cg ∧ g < wr.heap.size ∧ Hid (w.heap.size ≤ g) ∧ Hid (Reads wr (some ⟨g, 0, none⟩) (vecL (rowNx ws (way P ws) v (row.take s)) ws.length)) ∧ Hid (Tab P ws w0 t aP cP aw cw N wr) ∧ Hid (Within w wr (t.M P.length))) (fun _ ss _ => row.length - (intOf ss).toNat)
  case atStart => exact ⟨0, g1, cg1, Nat.zero_le _, rfl, rfl, hg1l, HG1, HR1, HT1, HW1⟩
  case round =>
    obtain ⟨wA, hwA⟩ : ∃ y, y = wr := ⟨_, rfl⟩
    subst hwA
    obtain ⟨s, g, cg, hs, rfl, rfl, hgl, HG, HRV, HTr, HWr⟩ := hrel
    clear HG1 HR1 HT1 HW1 hg1l
    have HNG : Hid (¬ t.M P.length g ∧ ¬ N g) := ⟨fun h => by have := HLT.out g h; have := HG.out; omega, fun h => by have := HNN.out g h; have := HG.out; omega⟩
    by_cases hlt : s < row.length
    · obtain ⟨br, ofr, rfl, hbr, hcr⟩ := (HRD.out.below HTr.out.low).at hlt
      have qr := hcr s hlt
      rw [List.getD_eq_getElem?_getD, List.getElem?_eq_getElem hlt, Option.getD_some] at qr
      have hz := HR.out row[s] (List.getElem_mem hlt)
      have HCs : Hid (100 ≤ row[s] → ∀ i, i ≤ ws.length → rowNx ws (way P ws) v (row.take s) i ≠ 0 → PartOk P ws w0 t aP cP aw cw (row[s] - 100).toNat i) := HC.out s hlt
      have HSt : Hid (rowNx ws (way P ws) v (row.take (s + 1)) = stepNx ws (way P ws) (rowNx ws (way P ws) v (row.take s)) row[s]) := rowNx_step hlt
      have HVs : Hid (∀ i, rowNx ws (way P ws) v (row.take s) i ≤ 1000) := HV.out s
      have qc := HTr.out.c1
      have hmk := fun wx => run_make_row' (P := Tryz.prog) 25 3 (.int .i64 0) 8 Tryz.underlying25 Tryz.infoInt rfl .i64 .i64 (ws.length + 1) (by omega) (by omega) wx
      rw [show ((ws.length + 1 : Nat) : Int) = (ws.length : Int) + 1 from rfl] at hmk
      have hwl : w.heap.size ≤ wA.heap.size := HWr.out.size
      have HO : Hid (t.bT ≠ wA.heap.size ∧ t.oW ≠ wA.heap.size ∧ t.oD ≠ wA.heap.size ∧ ¬ t.M P.length wA.heap.size ∧ ¬ N wA.heap.size) := by
        have := HL3.out
        exact ⟨by omega, by omega, by omega, fun h => by have := HLT.out _ h; omega, fun h => by have := HNN.out _ h; omega⟩
      generalize rowNx ws (way P ws) v (row.take s) = x at *
      generalize row[s] = z at *
      clear hcr HC HV HR
      by_cases hx : z < 100
      · have HS2 : Hid (rowNx ws (way P ws) v (row.take (s + 1)) = letNx ws z x) := by show _ = _; rw [HSt.out, stepNx, if_pos hx]
        have HN2 : Hid (∀ i, x i = 0 → letTo ws z x (i + 1) = letTo ws z x i) := fun i h => letTo_skip (by simp only [letNx, h]; split <;> rfl)
        have HA : Hid ((wA.alloc (.cells (madeCells #[Value.int .i64 0] (ws.length + 1)) 3)).rowIs wA.heap.size 3 (ws.length + 1) (fun j => .int .i64 (letTo ws z x 0 j : Int))) := (World.rowIs_made wA (.int .i64 0) _ _).congr (fun j _ => by
          have : letTo ws z x 0 j = 0 := by
            unfold letTo
            split
            · have : j = 0 := by omega
              subst this; rfl
            · rfl
          rw [this]; rfl)
        have HB : Hid (Below wA.heap.size wA (wA.alloc (.cells (madeCells #[Value.int .i64 0] (ws.length + 1)) 3))) := (Below.refl _ _).alloc (Nat.le_refl _) _
        clear HCs HSt
        go_wp2
        clear hmk qc
        go_loopw [10] (fun si wr => ∃ i : Nat, i ≤ ws.length + 1 ∧ si = .int .i64 (i : Int) ∧ Hid (wr.rowIs wA.heap.size 3 (ws.length + 1) (fun j => .int .i64 (letTo ws z x i j : Int))) ∧ Hid (Below wA.heap.size wA wr)) (fun si _ => ws.length + 1 - (intOf si).toNat)
        case atStart => exact ⟨0, Nat.zero_le _, rfl, HA, HB⟩
        case round =>
          obtain ⟨i, hi, rfl, HRo, HBe⟩ := hrel
          clear HA HB
          have qc := (HTr.out.later HBe.out).c1
          have qr2 := (HBe.out.cell (p := ⟨br, ofr + s, none⟩) hbr).trans qr
          by_cases hil : i ≤ ws.length
          · have q0 := reads_vec (HRV.out.below HBe.out) hil
            have hvl := HVs.out i
            have HSk : Hid (x i = 0 → letTo ws z x (i + 1) = letTo ws z x i) := HN2.out i
            have HSn : Hid (letNx ws z x (i + 1) = 0 → letTo ws z x (i + 1) = letTo ws z x i) := letTo_skip
            have HLn : Hid (letNx ws z x (i + 1) = if ws[i]? = some z then x i else 0) := rfl
            have HPu : Hid (∀ j, letTo ws z x (i + 1) j = if j = i + 1 then letNx ws z x (i + 1) else letTo ws z x i j) := letTo_put ws z x i
            have HXo : Hid (letTo ws z x i (i + 1) = 0) := by show _ = _; unfold letTo; rw [if_neg (by omega)]
            generalize x i = vi at *
            by_cases hz0 : vi = 0
            · subst hz0
              have q1 : wr.cell? ⟨g, i, none⟩ = some (.int .i64 0) := q0
              clear q0
              go_wp2
              go_roundw
              case rel => exact ⟨i + 1, by omega, by go_num, by rw [HSk.out rfl]; exact HRo, HBe⟩
              case measure => simp [intOf]; omega
            · have hz1 : ((vi : Int) == 0) = false := by simp; omega
              by_cases hin : i < ws.length
              · obtain ⟨bw, ofw, rfl, hbw, hcw⟩ := (HWS.out.below (HTr.out.later HBe.out).low).at hin
                have qw := hcw i hin
                rw [List.getD_eq_getElem?_getD, List.getElem?_eq_getElem hin, Option.getD_some] at qw
                have ei : ws[i]? = some ws[i] := List.getElem?_eq_getElem hin
                rw [ei] at HLn
                have hinI : (i : Int) < (ws.length : Int) := by omega
                have hgd : decide ((i : Int) < (ws.length : Int)) = true := by simpa using hinI
                clear hcw ei
                generalize ws[i] = y at *
                by_cases he : y = z
                · have heb : (y == z) = true := by simp [he]
                  have HLv : Hid (letNx ws z x (i + 1) = vi) := by show _ = _; rw [HLn.out, if_pos (by rw [he])]
                  have hfr := HRo.out.frozen (i + 1)
                  have qn := HRo.out.cell (i := i + 1) (by omega)
                  rw [HXo.out] at qn
                  have hgN : wA.heap.size ≠ g := by omega
                  have hmin : min (vi : Int) 1000 = (vi : Int) := by omega
                  clear HSk HSn HLn HXo
                  go_wp2
                  go_quiet (fail)
                  have HBq : Hid (Below wA.heap.size wA (wr.drewN nq)) := HBe.out.trans ((below_drew (w := wr) nq).mono HBe.out.size)
                  have HRq : Hid ((wr.drewN nq).rowIs wA.heap.size 3 (ws.length + 1) (fun j => .int .i64 (letTo ws z x i j : Int))) := rowIs_below HRo.out (below_drew nq)
                  replace q0 : (wr.drewN nq).cell? ⟨g, i, none⟩ = some (.int .i64 (vi : Int)) := q0
                  replace qn : (wr.drewN nq).cell? ⟨wA.heap.size, i + 1, none⟩ = some (.int .i64 0) := qn
                  replace hfr : (wr.drewN nq).frozen? ⟨wA.heap.size, i + 1, none⟩ = false := hfr
                  clear HRo HBe qr2 qw qc HRV HVs hz
                  generalize wr.drewN nq = wq at *
                  go_wp2
                  refine wp_region_held_drew (S := (fun w' => w'.cell? ⟨g, i, none⟩ = some (.int .i64 (vi : Int)) ∧ True)) (by kernel_rfl) ⟨q0, trivial⟩ (fun hHeld => ?_)
                  refine take_atL (i := 0) (d := some 69) (v := .slice (some ⟨wA.heap.size, 0, none⟩) (ws.length + 1) (ws.length + 1)) rfl rfl (by kernel_rfl) (by kernel_rfl) (by kernel_rfl) (fun _ _ _ h => h) (by rfl) ?_ hHeld ?_
                  · intro w' hSw; obtain ⟨s0, _⟩ := hSw; go_simp; first | done | rfl | (refine wrap_in ?_ ?_ <;> omega) | (intro hbad; exfalso; omega)
                  try simp only [Act.put, List.setIfInBounds_toArray, List.set_cons_zero, List.set_cons_succ]
                  refine take_atL (i := 1) (d := some 70) (v := .int .i64 ((i : Int))) rfl rfl (by kernel_rfl) (by kernel_rfl) (by kernel_rfl) (fun _ _ _ h => h) (by rfl) ?_ hHeld ?_
                  · intro w' hSw; obtain ⟨s0, _⟩ := hSw; go_simp; first | done | rfl | (refine wrap_in ?_ ?_ <;> omega) | (intro hbad; exfalso; omega)
                  try simp only [Act.put, List.setIfInBounds_toArray, List.set_cons_zero, List.set_cons_succ]
                  refine take_atL (i := 2) (d := some 71) (v := .int .i64 ((i : Int) + 1)) rfl rfl (by kernel_rfl) (by kernel_rfl) (by kernel_rfl) (fun _ _ _ h => h) (by rfl) ?_ hHeld ?_
                  · intro w' hSw; obtain ⟨s0, _⟩ := hSw; go_simp; first | done | rfl | (refine wrap_in ?_ ?_ <;> omega) | (intro hbad; exfalso; omega)
                  try simp only [Act.put, List.setIfInBounds_toArray, List.set_cons_zero, List.set_cons_succ]
                  refine take_atL (i := 3) (d := some 72) (v := .slice (some ⟨wA.heap.size, 0, none⟩) (ws.length + 1) (ws.length + 1)) rfl rfl (by kernel_rfl) (by kernel_rfl) (by kernel_rfl) (fun _ _ _ h => h) (by rfl) ?_ hHeld ?_
                  · intro w' hSw; obtain ⟨s0, _⟩ := hSw; go_simp; first | done | rfl | (refine wrap_in ?_ ?_ <;> omega) | (intro hbad; exfalso; omega)
                  try simp only [Act.put, List.setIfInBounds_toArray, List.set_cons_zero, List.set_cons_succ]
                  refine take_atL (i := 4) (d := some 73) (v := .int .i64 ((i : Int))) rfl rfl (by kernel_rfl) (by kernel_rfl) (by kernel_rfl) (fun _ _ _ h => h) (by rfl) ?_ hHeld ?_
                  · intro w' hSw; obtain ⟨s0, _⟩ := hSw; go_simp; first | done | rfl | (refine wrap_in ?_ ?_ <;> omega) | (intro hbad; exfalso; omega)
                  try simp only [Act.put, List.setIfInBounds_toArray, List.set_cons_zero, List.set_cons_succ]
                  refine take_atL (i := 5) (d := some 74) (v := .int .i64 ((i : Int) + 1)) rfl rfl (by kernel_rfl) (by kernel_rfl) (by kernel_rfl) (fun _ _ _ h => h) (by rfl) ?_ hHeld ?_
                  · intro w' hSw; obtain ⟨s0, _⟩ := hSw; go_simp; first | done | rfl | (refine wrap_in ?_ ?_ <;> omega) | (intro hbad; exfalso; omega)
                  try simp only [Act.put, List.setIfInBounds_toArray, List.set_cons_zero, List.set_cons_succ]
                  refine take_atL (i := 6) (d := some 75) (v := .pointer (some ⟨wA.heap.size, i + 1, none⟩)) rfl rfl (by kernel_rfl) (by kernel_rfl) (by kernel_rfl) (fun _ _ _ h => h) (by rfl) ?_ hHeld ?_
                  · intro w' hSw; obtain ⟨s0, _⟩ := hSw; go_simp; first | done | rfl | (refine wrap_in ?_ ?_ <;> omega) | (intro hbad; exfalso; omega)
                  try simp only [Act.put, List.setIfInBounds_toArray, List.set_cons_zero, List.set_cons_succ]
                  refine take_atL (i := 8) (d := some 77) (v := .slice (some ⟨g, 0, none⟩) (ws.length + 1) cg) rfl rfl (by kernel_rfl) (by kernel_rfl) (by kernel_rfl) (fun _ _ _ h => h) (by rfl) ?_ hHeld ?_
                  · intro w' hSw; obtain ⟨s0, _⟩ := hSw; go_simp; first | done | rfl | (refine wrap_in ?_ ?_ <;> omega) | (intro hbad; exfalso; omega)
                  try simp only [Act.put, List.setIfInBounds_toArray, List.set_cons_zero, List.set_cons_succ]
                  refine take_atL (i := 9) (d := some 78) (v := .int .i64 ((i : Int))) rfl rfl (by kernel_rfl) (by kernel_rfl) (by kernel_rfl) (fun _ _ _ h => h) (by rfl) ?_ hHeld ?_
                  · intro w' hSw; obtain ⟨s0, _⟩ := hSw; go_simp; first | done | rfl | (refine wrap_in ?_ ?_ <;> omega) | (intro hbad; exfalso; omega)
                  try simp only [Act.put, List.setIfInBounds_toArray, List.set_cons_zero, List.set_cons_succ]
                  refine take_atL (i := 10) (d := some 79) (v := .pointer (some ⟨g, i, none⟩)) rfl rfl (by kernel_rfl) (by kernel_rfl) (by kernel_rfl) (fun _ _ _ h => h) (by rfl) ?_ hHeld ?_
                  · intro w' hSw; obtain ⟨s0, _⟩ := hSw; go_simp; first | done | rfl | (refine wrap_in ?_ ?_ <;> omega) | (intro hbad; exfalso; omega)
                  try simp only [Act.put, List.setIfInBounds_toArray, List.set_cons_zero, List.set_cons_succ]
                  refine take_atL (i := 11) (d := some 80) (v := .int .i64 ((vi : Int))) rfl rfl (by kernel_rfl) (by kernel_rfl) (by kernel_rfl) (fun _ _ _ h => h) (by rfl) ?_ hHeld ?_
                  · intro w' hSw; obtain ⟨s0, _⟩ := hSw; go_simp; first | done | rfl | (refine wrap_in ?_ ?_ <;> omega) | (intro hbad; exfalso; omega)
                  try simp only [Act.put, List.setIfInBounds_toArray, List.set_cons_zero, List.set_cons_succ]
                  refine wpAnyH_ready (rs := [7]) (by kernel_rfl) (by simp) ?_
                  refine AllReadyH.cons (o := _) rfl (fun K hK => ?_) AllReadyH.nil
                  rw [if_pos (by rfl)]
                  go_simp
                  refine hK.out _ _ ⟨q0, trivial⟩ (fun hHeld => ?_)
                  clear hK K
                  try simp only [Act.put, List.setIfInBounds_toArray, List.set_cons_zero, List.set_cons_succ]
                  refine take_atL (i := 12) (d := some 81) (v := .int .i64 ((vi : Int))) rfl rfl (by kernel_rfl) (by kernel_rfl) (by kernel_rfl) (fun _ _ _ h => h) (by rfl) ?_ hHeld ?_
                  · intro w' hSw; obtain ⟨s0, _⟩ := hSw; go_simp; first | done | rfl | (refine wrap_in ?_ ?_ <;> omega) | (intro hbad; exfalso; omega)
                  try simp only [Act.put, List.setIfInBounds_toArray, List.set_cons_zero, List.set_cons_succ]
                  refine wpAnyH_ready (rs := [13]) (by kernel_rfl) (by simp) ?_
                  refine AllReadyH.cons (o := _) rfl (fun K hK => ?_) AllReadyH.nil
                  rw [if_pos (by rfl)]
                  go_simp
                  refine (l1Min_any _ _ _).mono ?_
                  rintro e w' ⟨rfl, rfl⟩
                  rw [hmin]
                  go_wp2_with fail
                  refine hK.out _ _ ⟨q0, trivial⟩ (fun hHeld => ?_)
                  clear hK K
                  try simp only [Act.put, List.setIfInBounds_toArray, List.set_cons_zero, List.set_cons_succ]
                  refine take_atL (i := 14) (d := some 83) (v := .pointer (some ⟨wA.heap.size, i + 1, none⟩)) rfl rfl (by kernel_rfl) (by kernel_rfl) (by kernel_rfl) (fun _ _ _ h => h) (by rfl) ?_ hHeld ?_
                  · intro w' hSw; obtain ⟨s0, _⟩ := hSw; go_simp; first | done | rfl | (refine wrap_in ?_ ?_ <;> omega) | (intro hbad; exfalso; omega)
                  try simp only [Act.put, List.setIfInBounds_toArray, List.set_cons_zero, List.set_cons_succ]
                  refine wpAnyH_ready (rs := [15]) (by kernel_rfl) (by simp) ?_
                  refine AllReadyH.cons (o := _) rfl (fun K hK => ?_) AllReadyH.nil
                  rw [if_pos (by rfl)]
                  go_simp
                  refine hK.out _ _ ⟨(cell_set_off (.inl hgN)).trans q0, trivial⟩ (fun hHeld => ?_)
                  clear hK K
                  try simp only [Act.put, List.setIfInBounds_toArray, List.set_cons_zero, List.set_cons_succ]
                  refine wpAnyH_done (by kernel_rfl) ?_ _
                  clear hHeld
                  go_wp2
                  go_roundw
                  case rel => exact ⟨i + 1, by omega, by go_num, rowIs_below (row_put (x := vi) (p := i + 1) HRq.out (fun j _ => by rw [HPu.out, HLv.out])) (below_drew 1), below_drewN (HBq.out.setCell (p := ⟨wA.heap.size, i + 1, none⟩) (Nat.le_refl _) _) 1⟩
                  case measure => simp [intOf]; omega
                · have heb : (y == z) = false := by simp [he]
                  have HSx : Hid (letTo ws z x (i + 1) = letTo ws z x i) := HSn.out (by rw [HLn.out, if_neg (fun e => he (Option.some.inj e))])
                  clear HSk HSn HLn HXo HPu
                  go_wp2
                  go_quiet (fail)
                  have HBq : Hid (Below wA.heap.size wA (wr.drewN nq)) := HBe.out.trans ((below_drew (w := wr) nq).mono HBe.out.size)
                  have HRq : Hid ((wr.drewN nq).rowIs wA.heap.size 3 (ws.length + 1) (fun j => .int .i64 (letTo ws z x i j : Int))) := rowIs_below HRo.out (below_drew nq)
                  clear HRo HBe qr2 qw qc HRV HVs hz q0
                  generalize wr.drewN nq = wq at *
                  go_wp2
                  go_roundw
                  case rel => exact ⟨i + 1, by omega, by go_num, by rw [HSx.out]; exact HRq, HBq⟩
                  case measure => simp [intOf]; omega
              · have hinI : (ws.length : Int) ≤ (i : Int) := by omega
                have hgd : decide ((i : Int) < (ws.length : Int)) = false := by simp; omega
                have HSx : Hid (letTo ws z x (i + 1) = letTo ws z x i) := HSn.out (by rw [HLn.out, List.getElem?_eq_none (by omega)]; simp)
                clear HSk HSn HLn HXo HPu
                go_wp2
                go_quiet (fail)
                have HBq : Hid (Below wA.heap.size wA (wr.drewN nq)) := HBe.out.trans ((below_drew (w := wr) nq).mono HBe.out.size)
                have HRq : Hid ((wr.drewN nq).rowIs wA.heap.size 3 (ws.length + 1) (fun j => .int .i64 (letTo ws z x i j : Int))) := rowIs_below HRo.out (below_drew nq)
                clear HRo HBe qr2 qc HRV HVs hz q0
                generalize wr.drewN nq = wq at *
                go_wp2
                go_roundw
                case rel => exact ⟨i + 1, by omega, by go_num, by rw [HSx.out]; exact HRq, HBq⟩
                case measure => simp [intOf]; omega
          · have e : i = ws.length + 1 := by omega
            subst e
            have HEn : Hid (Reads wr (some ⟨wA.heap.size, 0, none⟩) (vecL (rowNx ws (way P ws) v (row.take (s + 1))) ws.length)) := by
              have := row_reads HRo.out
              rw [vecL_congr (fun j hj => letTo_end hj)] at this
              show Reads _ _ _
              rw [HS2.out]; exact this
            have HTn : Hid (Tab P ws w0 t aP cP aw cw N wr) := HTr.out.later HBe.out
            have HWn : Hid (Within w wr (t.M P.length)) := HWr.out.trans (Within.of_below HBe.out _)
            have hgn : wA.heap.size < wr.heap.size := HRo.out.lt
            clear HRo HBe qr2 HRV HVs hz
            go_wp2
            go_roundw
            case rel => exact ⟨s + 1, wA.heap.size, ws.length + 1, by omega, by go_num, rfl, hgn, hwl, HEn, HTn, HWn⟩
            case measure => simp [intOf]; omega
      · have hx' : 100 ≤ z := by omega
        have HS2 : Hid (rowNx ws (way P ws) v (row.take (s + 1)) = partNx ws.length (way P ws (z - 100).toNat) x) := by show _ = _; rw [HSt.out, stepNx, if_neg hx]
        have HCz : Hid (∀ i, i ≤ ws.length → x i ≠ 0 → PartOk P ws w0 t aP cP aw cw (z - 100).toNat i) := HCs.out hx'
        have hzk := part_nat hx'
        have HWi : Hid (∀ i, i ≤ ws.length → ∀ j, way P ws (z - 100).toNat i j ≠ 0 → i ≤ j) := HWN.out _
        have HWm : Hid (∀ i j, way P ws (z - 100).toNat i j ≤ 1000) := HWL.out _
        obtain ⟨W, HWD⟩ : ∃ W, Hid (way P ws (z - 100).toNat = W) := ⟨_, rfl⟩
        rw [HWD.out] at HS2 HWi HWm
        have HA : Hid ((wA.alloc (.cells (madeCells #[Value.int .i64 0] (ws.length + 1)) 3)).rowIs wA.heap.size 3 (ws.length + 1) (fun j => .int .i64 (partTo W x 0 j : Int))) := (World.rowIs_made wA (.int .i64 0) _ _)
        have HTA : Hid (Tab P ws w0 t aP cP aw cw (fun b => N b ∨ b = wA.heap.size) (wA.alloc (.cells (madeCells #[Value.int .i64 0] (ws.length + 1)) 3))) := (HTr.out.turn (N' := fun b => N b ∨ b = wA.heap.size) (fun b h => h.imp id (fun e => by omega))).later ((Below.refl _ _).alloc (Nat.le_refl _) _)
        have HB : Hid (Within wA (wA.alloc (.cells (madeCells #[Value.int .i64 0] (ws.length + 1)) 3)) (t.M P.length)) := Within.of_below ((Below.refl _ _).alloc (Nat.le_refl _) _) _
        have HNs : Hid (∀ b, (N b ∨ b = wA.heap.size) → b < wA.heap.size + 1) := fun b h => by
          rcases h with h | h
          · have := HNN.out b h; omega
          · omega
        have HOo : Hid (∀ b, b = wA.heap.size → (N b ∨ b = wA.heap.size) ∧ w0.heap.size ≤ b ∧ b ≠ t.bT ∧ b ≠ t.oW ∧ b ≠ t.oD ∧ ¬ t.M P.length b) := fun b e => by
          have h1 := HO.out
          have h2 := HLOW.out
          subst e
          exact ⟨.inr rfl, by omega, fun e => h1.1 e.symm, fun e => h1.2.1 e.symm, fun e => h1.2.2.1 e.symm, h1.2.2.2.1⟩
        clear HCs HSt
        go_wp2
        clear hmk qc
        go_loopw [10] (fun si w2 => ∃ i : Nat, i ≤ ws.length + 1 ∧ si = .int .i64 (i : Int) ∧ Hid (w2.rowIs wA.heap.size 3 (ws.length + 1) (fun j => .int .i64 (partTo W x i j : Int))) ∧ Hid (Tab P ws w0 t aP cP aw cw (fun b => N b ∨ b = wA.heap.size) w2) ∧ Hid (Within wA w2 (t.M P.length))) (fun si _ => ws.length + 1 - (intOf si).toNat)
        case atStart => exact ⟨0, Nat.zero_le _, rfl, HA, HTA, HB⟩
        case round =>
          obtain ⟨wB, hwB⟩ : ∃ y, y = wr := ⟨_, rfl⟩
          subst hwB
          obtain ⟨i, hi, rfl, HRo, HTb, HBe⟩ := hrel
          clear HA HTA HB
          have qc := HTb.out.c1
          have hszB : wA.heap.size ≤ wB.heap.size := HBe.out.size
          have hgB : wA.heap.size < wB.heap.size := HRo.out.lt
          have qr2 : wB.cell? ⟨br, ofr + s, none⟩ = some (.int .i64 z) := by
            obtain ⟨b', o', e', _, hc'⟩ := (HRD.out.below HTb.out.low).at hlt
            obtain ⟨rfl, rfl, _⟩ := Addr.mk.inj (Option.some.inj e')
            have h1 := hc' s hlt
            obtain ⟨b'', o'', e'', _, hc''⟩ := (HRD.out.below HTr.out.low).at hlt
            obtain ⟨rfl, rfl, _⟩ := Addr.mk.inj (Option.some.inj e'')
            have h2 := hc'' s hlt
            rw [qr] at h2
            rw [h1, ← h2]
          by_cases hil : i ≤ ws.length
          · have q0 := reads_vec (reads_within HRV.out HBe.out HNG.out.1) hil
            have hvl := HVs.out i
            have HSk : Hid (x i = 0 → partTo W x (i + 1) = partTo W x i) := partTo_skip
            have HX : Hid (x i ≠ 0 → PartOk P ws w0 t aP cP aw cw (z - 100).toNat i) := HCz.out i hil
            have HS1 : Hid (∀ j, partTo W x (i + 1) j = capN (partTo W x i j + x i * W i j)) := fun j => partTo_step
            have HS0 : Hid (partTo2 W x i i = partTo W x i) := partTo2_start (HWi.out i hil)
            have HWo : Hid (way P ws (z - 100).toNat i = W i) := by show _ = _; rw [HWD.out]
            by_cases hz0 : x i = 0
            · have q1 : wB.cell? ⟨g, i, none⟩ = some (.int .i64 0) := by rw [q0, hz0]; rfl
              have HSx := HSk.out hz0
              clear q0 HSk HX HS1 HS0
              go_wp2
              go_roundw
              case rel => exact ⟨i + 1, by omega, by go_num, by rw [HSx]; exact HRo, HTb, HBe⟩
              case measure => simp [intOf]; omega
            · have X : Hid (Calls Tryz.prog 53 #[.pointer (some ⟨t.bT, 0, none⟩), .int .i64 (z - 100), .int .i64 (i : Int)] wB (GoPost P ws w0 t aP cP aw cw (fun b => N b ∨ b = wA.heap.size) wB (W i))) := by
                have := HX.out hz0 (fun b => N b ∨ b = wA.heap.size) wB (fun b h => by have := HNs.out b h; omega) HTb.out
                rw [hzk, HWo.out] at this
                exact this
              have HXE : Hid (∃ vi, x i = vi) := ⟨_, rfl⟩
              obtain ⟨vi, hvi⟩ : ∃ vi, x i = vi := ⟨_, rfl⟩
              rw [hvi] at q0 hvl hz0
              have HVI : Hid (x i = vi) := hvi
              have hz1 : ((vi : Int) == 0) = false := by simp; omega
              clear HSk HX hvi HXE HWo
              go_wp2_with (go_at_call 53; refine X.out.mono ?_; rintro e w3 ⟨gp, cp, rfl, hpM, hpN, hpl, hpR, hpT, hpW⟩)
              have HR3 : Hid (w3.rowIs wA.heap.size 3 (ws.length + 1) (fun j => .int .i64 (partTo2 W x i i j : Int))) := by show World.rowIs _ _ _ _ _; rw [HS0.out]; exact rowIs_within HRo.out hpW HO.out.2.2.2.1
              have HB3 : Hid (Within wA w3 (t.M P.length)) := HBe.out.trans hpW
              have HT3 : Hid (Tab P ws w0 t aP cP aw cw (fun b => N b ∨ b = wA.heap.size) w3) := hpT
              have HRp : Hid (Reads w3 (some ⟨gp, 0, none⟩) (vecL (W i) ws.length)) := hpR
              have HGN : Hid (gp ≠ wA.heap.size) := fun e => hpN (.inr e)
              have HW3 : Hid (Within w3 w3 (fun b => b = wA.heap.size)) := Within.refl _ _
              clear X hpM hpN hpR hpT hpW HRo HBe HTb qr2 q0 qc HS0
              go_wp2
              go_loopw [12] (fun sj w4 => ∃ j : Nat, j ≤ ws.length + 1 ∧ i ≤ j ∧ sj = .int .i64 (j : Int) ∧ Hid (w4.rowIs wA.heap.size 3 (ws.length + 1) (fun m => .int .i64 (partTo2 W x i j m : Int))) ∧ Hid (Within w3 w4 (fun b => b = wA.heap.size))) (fun sj _ => ws.length + 1 - (intOf sj).toNat)
              case atStart => exact ⟨i, by omega, Nat.le_refl _, rfl, HR3, HW3⟩
              case round =>
                obtain ⟨j, hj, hij, rfl, HRj, HBj⟩ := hrel
                clear HR3 HW3
                have qc := (HT3.out.kept HBj.out HOo.out).c1
                by_cases hjl : j ≤ ws.length
                · have q0 := reads_vec (reads_within (reads_within HRV.out HB3.out HNG.out.1) HBj.out (by omega)) hil
                  rw [HVI.out] at q0
                  have q1 := reads_vec (reads_within HRp.out HBj.out HGN.out) hjl
                  have qn := HRj.out.cell (i := j) (by omega)
                  have hfr := HRj.out.frozen j
                  rw [show partTo2 W x i j j = partTo W x i j from if_neg (Nat.lt_irrefl _)] at qn
                  have hpj := HWm.out i j
                  have hnj := partTo_le W x i j
                  have HMJ : Hid (partTo W x (i + 1) j = capN (partTo W x i j + vi * W i j)) := by show _ = _; rw [← HVI.out]; exact HS1.out j
                  have HSj : Hid (∀ m, partTo2 W x i (j + 1) m = if m = j then partTo W x (i + 1) j else partTo2 W x i j m) := partTo2_step
                  generalize W i j = pj at *
                  generalize partTo W x i j = nj at *
                  generalize partTo W x (i + 1) j = mj at *
                  have hmul : ((vi : Int) * (pj : Int)) = ((vi * pj : Nat) : Int) := by simp
                  have hml : vi * pj ≤ 1000 * 1000 := Nat.mul_le_mul hvl hpj
                  have hm0 : (0 : Int) ≤ (vi : Int) * (pj : Int) := by rw [hmul]; omega
                  have hm1 : (vi : Int) * (pj : Int) ≤ 1000000 := by rw [hmul]; omega
                  have hmin : min ((nj : Int) + (vi : Int) * (pj : Int)) 1000 = (mj : Int) := by rw [hmul, HMJ.out]; exact min_cap _ _
                  have hgN : wA.heap.size ≠ g := by omega
                  have hgp : wA.heap.size ≠ gp := fun e => HGN.out e.symm
                  clear hmul hml HMJ
                  go_wp2
                  refine wp_region_held_drew (S := (fun w' => w'.cell? ⟨g, i, none⟩ = some (.int .i64 (vi : Int)) ∧ w'.cell? ⟨gp, j, none⟩ = some (.int .i64 (pj : Int)))) (by kernel_rfl) ⟨q0, q1⟩ (fun hHeld => ?_)
                  refine take_atL (i := 0) (d := some 102) (v := .slice (some ⟨wA.heap.size, 0, none⟩) (ws.length + 1) (ws.length + 1)) rfl rfl (by kernel_rfl) (by kernel_rfl) (by kernel_rfl) (fun _ _ _ h => h) (by rfl) ?_ hHeld ?_
                  · intro w' hSw; obtain ⟨s0, s1⟩ := hSw; go_simp; first | done | rfl | (refine wrap_in ?_ ?_ <;> omega) | (intro hbad; exfalso; omega)
                  try simp only [Act.put, List.setIfInBounds_toArray, List.set_cons_zero, List.set_cons_succ]
                  refine take_atL (i := 1) (d := some 103) (v := .int .i64 ((j : Int))) rfl rfl (by kernel_rfl) (by kernel_rfl) (by kernel_rfl) (fun _ _ _ h => h) (by rfl) ?_ hHeld ?_
                  · intro w' hSw; obtain ⟨s0, s1⟩ := hSw; go_simp; first | done | rfl | (refine wrap_in ?_ ?_ <;> omega) | (intro hbad; exfalso; omega)
                  try simp only [Act.put, List.setIfInBounds_toArray, List.set_cons_zero, List.set_cons_succ]
                  refine take_atL (i := 2) (d := some 104) (v := .slice (some ⟨wA.heap.size, 0, none⟩) (ws.length + 1) (ws.length + 1)) rfl rfl (by kernel_rfl) (by kernel_rfl) (by kernel_rfl) (fun _ _ _ h => h) (by rfl) ?_ hHeld ?_
                  · intro w' hSw; obtain ⟨s0, s1⟩ := hSw; go_simp; first | done | rfl | (refine wrap_in ?_ ?_ <;> omega) | (intro hbad; exfalso; omega)
                  try simp only [Act.put, List.setIfInBounds_toArray, List.set_cons_zero, List.set_cons_succ]
                  refine take_atL (i := 3) (d := some 105) (v := .int .i64 ((j : Int))) rfl rfl (by kernel_rfl) (by kernel_rfl) (by kernel_rfl) (fun _ _ _ h => h) (by rfl) ?_ hHeld ?_
                  · intro w' hSw; obtain ⟨s0, s1⟩ := hSw; go_simp; first | done | rfl | (refine wrap_in ?_ ?_ <;> omega) | (intro hbad; exfalso; omega)
                  try simp only [Act.put, List.setIfInBounds_toArray, List.set_cons_zero, List.set_cons_succ]
                  refine take_atL (i := 4) (d := some 106) (v := .pointer (some ⟨wA.heap.size, j, none⟩)) rfl rfl (by kernel_rfl) (by kernel_rfl) (by kernel_rfl) (fun _ _ _ h => h) (by rfl) ?_ hHeld ?_
                  · intro w' hSw; obtain ⟨s0, s1⟩ := hSw; go_simp; first | done | rfl | (refine wrap_in ?_ ?_ <;> omega) | (intro hbad; exfalso; omega)
                  try simp only [Act.put, List.setIfInBounds_toArray, List.set_cons_zero, List.set_cons_succ]
                  refine take_atL (i := 6) (d := some 108) (v := .slice (some ⟨g, 0, none⟩) (ws.length + 1) cg) rfl rfl (by kernel_rfl) (by kernel_rfl) (by kernel_rfl) (fun _ _ _ h => h) (by rfl) ?_ hHeld ?_
                  · intro w' hSw; obtain ⟨s0, s1⟩ := hSw; go_simp; first | done | rfl | (refine wrap_in ?_ ?_ <;> omega) | (intro hbad; exfalso; omega)
                  try simp only [Act.put, List.setIfInBounds_toArray, List.set_cons_zero, List.set_cons_succ]
                  refine take_atL (i := 7) (d := some 109) (v := .int .i64 ((i : Int))) rfl rfl (by kernel_rfl) (by kernel_rfl) (by kernel_rfl) (fun _ _ _ h => h) (by rfl) ?_ hHeld ?_
                  · intro w' hSw; obtain ⟨s0, s1⟩ := hSw; go_simp; first | done | rfl | (refine wrap_in ?_ ?_ <;> omega) | (intro hbad; exfalso; omega)
                  try simp only [Act.put, List.setIfInBounds_toArray, List.set_cons_zero, List.set_cons_succ]
                  refine take_atL (i := 8) (d := some 110) (v := .pointer (some ⟨g, i, none⟩)) rfl rfl (by kernel_rfl) (by kernel_rfl) (by kernel_rfl) (fun _ _ _ h => h) (by rfl) ?_ hHeld ?_
                  · intro w' hSw; obtain ⟨s0, s1⟩ := hSw; go_simp; first | done | rfl | (refine wrap_in ?_ ?_ <;> omega) | (intro hbad; exfalso; omega)
                  try simp only [Act.put, List.setIfInBounds_toArray, List.set_cons_zero, List.set_cons_succ]
                  refine take_atL (i := 9) (d := some 111) (v := .int .i64 ((vi : Int))) rfl rfl (by kernel_rfl) (by kernel_rfl) (by kernel_rfl) (fun _ _ _ h => h) (by rfl) ?_ hHeld ?_
                  · intro w' hSw; obtain ⟨s0, s1⟩ := hSw; go_simp; first | done | rfl | (refine wrap_in ?_ ?_ <;> omega) | (intro hbad; exfalso; omega)
                  try simp only [Act.put, List.setIfInBounds_toArray, List.set_cons_zero, List.set_cons_succ]
                  refine take_atL (i := 10) (d := some 112) (v := .slice (some ⟨gp, 0, none⟩) (ws.length + 1) cp) rfl rfl (by kernel_rfl) (by kernel_rfl) (by kernel_rfl) (fun _ _ _ h => h) (by rfl) ?_ hHeld ?_
                  · intro w' hSw; obtain ⟨s0, s1⟩ := hSw; go_simp; first | done | rfl | (refine wrap_in ?_ ?_ <;> omega) | (intro hbad; exfalso; omega)
                  try simp only [Act.put, List.setIfInBounds_toArray, List.set_cons_zero, List.set_cons_succ]
                  refine take_atL (i := 11) (d := some 113) (v := .int .i64 ((j : Int))) rfl rfl (by kernel_rfl) (by kernel_rfl) (by kernel_rfl) (fun _ _ _ h => h) (by rfl) ?_ hHeld ?_
                  · intro w' hSw; obtain ⟨s0, s1⟩ := hSw; go_simp; first | done | rfl | (refine wrap_in ?_ ?_ <;> omega) | (intro hbad; exfalso; omega)
                  try simp only [Act.put, List.setIfInBounds_toArray, List.set_cons_zero, List.set_cons_succ]
                  refine take_atL (i := 12) (d := some 114) (v := .pointer (some ⟨gp, j, none⟩)) rfl rfl (by kernel_rfl) (by kernel_rfl) (by kernel_rfl) (fun _ _ _ h => h) (by rfl) ?_ hHeld ?_
                  · intro w' hSw; obtain ⟨s0, s1⟩ := hSw; go_simp; first | done | rfl | (refine wrap_in ?_ ?_ <;> omega) | (intro hbad; exfalso; omega)
                  try simp only [Act.put, List.setIfInBounds_toArray, List.set_cons_zero, List.set_cons_succ]
                  refine take_atL (i := 13) (d := some 115) (v := .int .i64 ((pj : Int))) rfl rfl (by kernel_rfl) (by kernel_rfl) (by kernel_rfl) (fun _ _ _ h => h) (by rfl) ?_ hHeld ?_
                  · intro w' hSw; obtain ⟨s0, s1⟩ := hSw; go_simp; first | done | rfl | (refine wrap_in ?_ ?_ <;> omega) | (intro hbad; exfalso; omega)
                  try simp only [Act.put, List.setIfInBounds_toArray, List.set_cons_zero, List.set_cons_succ]
                  refine take_atL (i := 14) (d := some 116) (v := .int .i64 ((vi : Int) * (pj : Int))) rfl rfl (by kernel_rfl) (by kernel_rfl) (by kernel_rfl) (fun _ _ _ h => h) (by rfl) ?_ hHeld ?_
                  · intro w' hSw; obtain ⟨s0, s1⟩ := hSw; go_simp; first | done | rfl | (refine wrap_in ?_ ?_ <;> omega) | (intro hbad; exfalso; omega)
                  try simp only [Act.put, List.setIfInBounds_toArray, List.set_cons_zero, List.set_cons_succ]
                  refine wpAnyH_ready (rs := [5]) (by kernel_rfl) (by simp) ?_
                  refine AllReadyH.cons (o := _) rfl (fun K hK => ?_) AllReadyH.nil
                  rw [if_pos (by rfl)]
                  go_simp
                  refine hK.out _ _ ⟨q0, q1⟩ (fun hHeld => ?_)
                  clear hK K
                  try simp only [Act.put, List.setIfInBounds_toArray, List.set_cons_zero, List.set_cons_succ]
                  refine take_atL (i := 15) (d := some 117) (v := .int .i64 ((nj : Int) + (vi : Int) * (pj : Int))) rfl rfl (by kernel_rfl) (by kernel_rfl) (by kernel_rfl) (fun _ _ _ h => h) (by rfl) ?_ hHeld ?_
                  · intro w' hSw; obtain ⟨s0, s1⟩ := hSw; go_simp; first | done | rfl | (refine wrap_in ?_ ?_ <;> omega) | (intro hbad; exfalso; omega)
                  try simp only [Act.put, List.setIfInBounds_toArray, List.set_cons_zero, List.set_cons_succ]
                  refine wpAnyH_ready (rs := [16]) (by kernel_rfl) (by simp) ?_
                  refine AllReadyH.cons (o := _) rfl (fun K hK => ?_) AllReadyH.nil
                  rw [if_pos (by rfl)]
                  go_simp
                  refine (l1Min_any _ _ _).mono ?_
                  rintro e w' ⟨rfl, rfl⟩
                  rw [hmin]
                  go_wp2_with fail
                  refine hK.out _ _ ⟨q0, q1⟩ (fun hHeld => ?_)
                  clear hK K
                  try simp only [Act.put, List.setIfInBounds_toArray, List.set_cons_zero, List.set_cons_succ]
                  refine take_atL (i := 17) (d := some 119) (v := .pointer (some ⟨wA.heap.size, j, none⟩)) rfl rfl (by kernel_rfl) (by kernel_rfl) (by kernel_rfl) (fun _ _ _ h => h) (by rfl) ?_ hHeld ?_
                  · intro w' hSw; obtain ⟨s0, s1⟩ := hSw; go_simp; first | done | rfl | (refine wrap_in ?_ ?_ <;> omega) | (intro hbad; exfalso; omega)
                  try simp only [Act.put, List.setIfInBounds_toArray, List.set_cons_zero, List.set_cons_succ]
                  refine wpAnyH_ready (rs := [18]) (by kernel_rfl) (by simp) ?_
                  refine AllReadyH.cons (o := _) rfl (fun K hK => ?_) AllReadyH.nil
                  rw [if_pos (by rfl)]
                  go_simp
                  refine hK.out _ _ ⟨(cell_set_off (.inl hgN)).trans q0, (cell_set_off (.inl hgp)).trans q1⟩ (fun hHeld => ?_)
                  clear hK K
                  try simp only [Act.put, List.setIfInBounds_toArray, List.set_cons_zero, List.set_cons_succ]
                  refine wpAnyH_done (by kernel_rfl) ?_ _
                  clear hHeld
                  go_wp2
                  go_roundw
                  case rel => exact ⟨j + 1, by omega, by omega, by go_num, rowIs_below (row_put (x := mj) (p := j) HRj.out (fun m _ => HSj.out m)) (below_drew 1), (HBj.out.setCell ⟨wA.heap.size, j, none⟩ _ rfl).drew⟩
                  case measure => simp [intOf]; omega
                · have e : j = ws.length + 1 := by omega
                  subst e
                  have HRn : Hid (wr.rowIs wA.heap.size 3 (ws.length + 1) (fun m => .int .i64 (partTo W x (i + 1) m : Int))) := HRj.out.congr (fun m hm => by rw [show partTo2 W x i (ws.length + 1) m = partTo W x (i + 1) m from if_pos hm])
                  have HTn : Hid (Tab P ws w0 t aP cP aw cw (fun b => N b ∨ b = wA.heap.size) wr) := HT3.out.kept HBj.out HOo.out
                  have HBn : Hid (Within wA wr (t.M P.length)) := HB3.out.comp HBj.out (fun k e => .inr (by omega))
                  clear HRj HBj HT3 HB3 HRp
                  go_wp2
                  go_roundw
                  case rel => exact ⟨i + 1, by omega, by go_num, HRn, HTn, HBn⟩
                  case measure => simp [intOf]; omega
          · have e : i = ws.length + 1 := by omega
            subst e
            have HEn : Hid (Reads wB (some ⟨wA.heap.size, 0, none⟩) (vecL (rowNx ws (way P ws) v (row.take (s + 1))) ws.length)) := by
              show Reads _ _ _
              rw [HS2.out]
              exact row_reads HRo.out
            have HTn : Hid (Tab P ws w0 t aP cP aw cw N wB) := HTb.out.turn (fun b h => .inl (.inl h))
            have HWn : Hid (Within w wB (t.M P.length)) := HWr.out.trans HBe.out
            have hgn : wA.heap.size < wB.heap.size := HRo.out.lt
            clear HRo HTb HBe qr2 HRV HVs hz
            go_wp2
            go_roundw
            case rel => exact ⟨s + 1, wA.heap.size, ws.length + 1, by omega, by go_num, rfl, hgn, hwl, HEn, HTn, HWn⟩
            case measure => simp [intOf]; omega
    · have e : row.take s = row := List.take_of_length_le (by omega)
      have HE : Hid _ := HPOST.out wA g cg HNG.out.1 HNG.out.2 hgl (e ▸ HRV.out) HTr.out HWr.out
      clear HPOST HRV HTr HWr HC HV HR e
      go_wp2
      exact HE.out
end
end Go.Proofs.YthnppodnjokaoaaGreatDoor
