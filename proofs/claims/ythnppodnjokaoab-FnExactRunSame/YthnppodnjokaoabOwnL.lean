/-
  A list with depth under construction: a row that the call has made, of a known element type, each of whose cells holds a datum that the call has made; what make, append and stores leave of it. Plain laws over any program. No statement is proved here.
-/
import Derived.Test.YthnppodnjokaoabDat
namespace Go.Proofs.Ythnppodnjokaoab
open Go.RowKit

/-- The slice value v, made by the call, elements of type e in sz cells each, holds n elements with the cells cs; it lies in the blocks S. -/
def OL (w : World) (base : Nat) (e : TypeId) (sz : Nat) (v : Value) (n : Nat) (cs : List Dat) (S : Nat → Prop) : Prop :=
  ∃ (vs : List Value) (F : Nat → Nat → Prop), w.ownsRow base e sz v n vs ∧ vs.length = cs.length ∧ (∀ i (h : i < vs.length) (h' : i < cs.length), OD w base vs[i] cs[i] (F i)) ∧
    (∀ i j k, i < vs.length → j < vs.length → i ≠ j → F i k → ¬ F j k) ∧ (∀ i g, i < vs.length → v.ownBlock = some g → ¬ F i g) ∧ ∀ k, S k ↔ v.ownBlock = some k ∨ ∃ i, i < vs.length ∧ F i k

theorem OL.od {w : World} {base : Nat} {e : TypeId} {sz : Nat} {v : Value} {n : Nat} {cs : List Dat} {S : Nat → Prop} (h : OL w base e sz v n cs S) : OD w base v (.sl n cs) S := by
  obtain ⟨vs, F, ho, hl, hr, hd, hg, hS⟩ := h
  rcases ho.2 with ⟨rfl, hn⟩ | ⟨g, cap, cur, rfl, h3⟩
  · subst hn
    have hv : vs = [] := List.eq_nil_of_length_eq_zero (by have := ho.1; omega)
    subst hv
    have hc : cs = [] := List.eq_nil_of_length_eq_zero (by simpa using hl.symm)
    subst hc
    have : S = fun _ => False := by
      funext k
      apply propext
      rw [hS k]
      simp [Value.ownBlock]
    rw [this]
    exact .nil 0 rfl
  · exact .row e sz g n cap cs vs F S ho hl hr hd (fun i hi => hg i g hi rfl) (fun k => by rw [hS k]; simp [Value.ownBlock, eq_comm])

theorem OL.nil (w : World) (base : Nat) (e : TypeId) (sz : Nat) : OL w base e sz (.slice none 0 0) 0 [] (fun _ => False) :=
  ⟨[], fun _ _ => False, World.ownsRow_nil w base e sz, rfl, fun i h => by simp at h, fun i j k h => by simp at h, fun i g h => by simp at h, fun k => by simp [Value.ownBlock]⟩

theorem OL.empty {w : World} {base : Nat} {e : TypeId} {sz : Nat} (h : base ≤ w.heap.size) : OL (w.alloc (.cells #[] e)) base e sz (.slice (some ⟨w.heap.size, 0, none⟩) 0 0) 0 [] (fun k => k = w.heap.size) :=
  ⟨[], fun _ _ => False, World.ownsRow_made w #[] 0 h (by simp [maxLen]) (by simp), rfl, fun i h => by simp at h, fun i j k h => by simp at h, fun i g h => by simp at h, fun k => by simp [Value.ownBlock, eq_comm]⟩

theorem OL.lt {w : World} {base : Nat} {e : TypeId} {sz : Nat} {v : Value} {n : Nat} {cs : List Dat} {S : Nat → Prop} (h : OL w base e sz v n cs S) : ∀ k, S k → base ≤ k ∧ k < w.heap.size := by
  obtain ⟨vs, F, ho, hl, hr, hd, hg, hS⟩ := h
  intro k hk
  rcases (hS k).1 hk with hk | ⟨i, hi, hik⟩
  · exact ho.lt k hk
  · exact (hr i hi (by omega)).lt k hik

theorem OL.kept {w w' : World} {base : Nat} {e : TypeId} {sz : Nat} {v : Value} {n : Nat} {cs : List Dat} {S T : Nat → Prop} (h : OL w base e sz v n cs S) (hw : Within w w' T) (hn : ∀ k, S k → ¬ T k) : OL w' base e sz v n cs S := by
  obtain ⟨vs, F, ho, hl, hr, hd, hg, hS⟩ := h
  exact ⟨vs, F, ownsRow_within ho hw (fun k hk => hn k ((hS k).2 (.inl hk))), hl, fun i hi hi' => (hr i hi hi').kept hw (fun k hk => hn k ((hS k).2 (.inr ⟨i, hi, hk⟩))), hd, hg, hS⟩

theorem OL.later {w w' : World} {base : Nat} {e : TypeId} {sz : Nat} {v : Value} {n : Nat} {cs : List Dat} {S : Nat → Prop} (h : OL w base e sz v n cs S) (hb : Below w.heap.size w w') : OL w' base e sz v n cs S :=
  h.kept (Within.of_below hb (fun _ => False)) (fun _ _ h => h)

theorem OL.alloc {w : World} {base : Nat} {e : TypeId} {sz : Nat} {v : Value} {n : Nat} {cs : List Dat} {S : Nat → Prop} (h : OL w base e sz v n cs S) (o : Obj) : OL (w.alloc o) base e sz v n cs S :=
  h.later ((Below.refl _ _).alloc (Nat.le_refl _) o)
theorem OD.alloc {w : World} {base : Nat} {v : Value} {d : Dat} {S : Nat → Prop} (h : OD w base v d S) (o : Obj) : OD (w.alloc o) base v d S :=
  h.later ((Below.refl _ _).alloc (Nat.le_refl _) o)

theorem OL.base {w : World} {b b' : Nat} {e : TypeId} {sz : Nat} {v : Value} {n : Nat} {cs : List Dat} {S : Nat → Prop} (h : OL w b e sz v n cs S) (hb : b' ≤ b) : OL w b' e sz v n cs S := by
  obtain ⟨vs, F, ho, hl, hr, hd, hg, hS⟩ := h
  refine ⟨vs, F, ⟨ho.1, ?_⟩, hl, fun i hi hi' => (hr i hi hi').base hb, hd, hg, hS⟩
  rcases ho.2 with hx | ⟨g, cap, cur, hv, h3, r⟩
  · exact .inl hx
  · exact .inr ⟨g, cap, cur, hv, Nat.le_trans hb h3, r⟩

/-- The cells of one element, each with the blocks that it lies in, no block twice. -/
def Cells (w : World) (base : Nat) (us : List Value) (ds : List Dat) (T : Nat → Prop) : Prop :=
  ∃ G : Nat → Nat → Prop, us.length = ds.length ∧ (∀ i (h : i < us.length) (h' : i < ds.length), OD w base us[i] ds[i] (G i)) ∧ (∀ i j k, i < us.length → j < us.length → i ≠ j → G i k → ¬ G j k) ∧ ∀ k, T k ↔ ∃ i, i < us.length ∧ G i k

theorem Cells.kept {w w' : World} {base : Nat} {us : List Value} {ds : List Dat} {T U : Nat → Prop} (h : Cells w base us ds T) (hw : Within w w' U) (hn : ∀ k, T k → ¬ U k) : Cells w' base us ds T := by
  obtain ⟨G, hl, hr, hd, hT⟩ := h
  exact ⟨G, hl, fun i hi hi' => (hr i hi hi').kept hw (fun k hk => hn k ((hT k).2 ⟨i, hi, hk⟩)), hd, hT⟩
theorem Cells.later {w w' : World} {base : Nat} {us : List Value} {ds : List Dat} {T : Nat → Prop} (h : Cells w base us ds T) (hb : Below w.heap.size w w') : Cells w' base us ds T :=
  h.kept (Within.of_below hb (fun _ => False)) (fun _ _ h => h)
theorem Cells.alloc {w : World} {base : Nat} {us : List Value} {ds : List Dat} {T : Nat → Prop} (h : Cells w base us ds T) (o : Obj) : Cells (w.alloc o) base us ds T :=
  h.later ((Below.refl _ _).alloc (Nat.le_refl _) o)
theorem Cells.lt {w : World} {base : Nat} {us : List Value} {ds : List Dat} {T : Nat → Prop} (h : Cells w base us ds T) : ∀ k, T k → base ≤ k ∧ k < w.heap.size := by
  obtain ⟨G, hl, hr, hd, hT⟩ := h
  intro k hk
  obtain ⟨i, hi, hik⟩ := (hT k).1 hk
  exact (hr i hi (by omega)).lt k hik
theorem Cells.base {w : World} {b b' : Nat} {us : List Value} {ds : List Dat} {T : Nat → Prop} (h : Cells w b us ds T) (hb : b' ≤ b) : Cells w b' us ds T := by
  obtain ⟨G, hl, hr, hd, hT⟩ := h
  exact ⟨G, hl, fun i hi hi' => (hr i hi hi').base hb, hd, hT⟩
/-- Plain cells ahead, and one with depth behind them. -/
theorem Cells.last {w : World} {base : Nat} (ps : List Value) {u : Value} {d : Dat} {T : Nat → Prop} (h : OD w base u d T) : Cells w base (ps ++ [u]) (ps.map Dat.val ++ [d]) T := by
  refine ⟨fun i k => i = ps.length ∧ T k, by simp, ?_, ?_, ?_⟩
  · intro i hi hi'
    by_cases e : i < ps.length
    · rw [List.getElem_append_left e, List.getElem_append_left (by simpa using e), List.getElem_map]
      have : (fun k => i = ps.length ∧ T k) = fun _ => False := by funext k; simp; omega
      show OD w base ps[i] _ (fun k => i = ps.length ∧ T k)
      rw [this]; exact .val _
    · have : i = ps.length := by simp at hi; omega
      subst this
      rw [List.getElem_append_right (by omega), List.getElem_append_right (by simp)]
      simpa using h
  · intro i j k _ _ hne h1 h2; exact hne (h1.1.trans h2.1.symm)
  · intro k; exact ⟨fun hk => ⟨ps.length, by simp, rfl, hk⟩, fun ⟨_, _, _, hk⟩ => hk⟩

section
variable {P : Program} (w : World)

/-- append, and where the row lies behind it: where it lay, or in a new block. -/
theorem run_append_where (base : Nat) (t ty e : TypeId) (i : TypeInfo) (z : Value) (size bytes : Nat) (ht : P.underlying t = some (.slice e)) (hi : P.info? e = some i) (hz : i.zero = some z)
    (hsize : i.size = size) (hby : i.bytes = bytes) (hzs : z.cells.size = size) (hsz : 0 < size) (v : Value) (n : Nat) (xs : List Value) (hown : w.ownsRow base e size v n xs)
    (a : Addr) (m c : Nat) (news : List Value) (hm : 0 < m) (hl : news.length = m * size) (hnews : ∀ j u, news[j]? = some u → w.cell? (a.add j) = some u) (h1 : ∀ u ∈ news, u.oneCell' = true)
    (h63 : n + m ≤ maxLen) (hbytes : (n + m) * bytes ≤ 140737488355328) (hbase : base ≤ w.heap.size) :
    ∃ v' w', (Builtin.append_ #[t, t] ty #[v, .slice (some a) m c]).run P w = .ok v' w' ∧ w'.ownsRow base e size v' (n + m) (xs ++ news) ∧ w.grownBy w' v.ownBlock ∧ ∀ k, v'.ownBlock = some k → v.ownBlock = some k ∨ k = w.heap.size := by
  obtain ⟨v', w', hrun, ho', hgr, _⟩ := run_append_own (P := P) w base t ty e i z size bytes ht hi hz hsize hby hzs hsz v n xs hown a m c news hl hnews h1 h63 hbytes hbase
  refine ⟨v', w', hrun, ho', hgr, ?_⟩
  have hsmall : n + m ≤ 9223372036854775807 := by simp only [maxLen] at h63; omega
  subst hsize
  subst hby
  rcases hown.2 with ⟨rfl, rfl⟩ | ⟨g, cap, cur, rfl, hbg, hg, hnc, hcm, hcs, htake⟩
  · have hr := run_append_nil (P := P) w t ty e i z ht hi hz a m c news hl hnews (by omega) (by omega) (by have hb := hbytes; simp only [Nat.zero_add] at hb; omega)
    rw [hr] at hrun
    injection hrun with e1 _
    subst e1
    intro k hk
    right
    simpa [Value.ownBlock] using hk.symm
  · by_cases hroom : n + m ≤ cap
    · have hfit : n * i.size + news.length ≤ cur.size := by rw [hl, hcs, ← Nat.add_mul]; exact Nat.mul_le_mul_right _ hroom
      have hr := run_append_room (P := P) w t ty e i ht hi g n cap cur hg a m c news hl hnews h1 hroom hfit
      rw [hr] at hrun
      injection hrun with e1 _
      subst e1
      exact fun k hk => .inl hk
    · have holds : ∀ j u, xs[j]? = some u → w.cell? ((⟨g, 0, none⟩ : Addr).add j) = some u := hown.cells (g := g) rfl
      have hr := run_append_grow (P := P) w t ty e i z ht hi hz ⟨g, 0, none⟩ n cap xs hown.1 holds a m c news hl hnews (by omega) (by omega) (growslice_fits (by omega) hbytes)
      rw [hr] at hrun
      injection hrun with e1 _
      subst e1
      intro k hk
      right
      simpa [Value.ownBlock] using hk.symm

/-- append of one element, whose cells lie at ⟨b, 0⟩, onto a list under construction. -/
theorem run_appendL (base : Nat) (t ty e : TypeId) (z : Value) (sz bytes : Nat) (ht : P.underlying t = some (.slice e)) (hinfo : (P.info? e).map (fun i => (i.zero, i.size, i.bytes)) = some (some z, sz, bytes)) (hz : z.cells.size = sz) (hsz : 0 < sz) (hby : bytes ≤ 128)
    (v : Value) (n : Nat) (cs : List Dat) (S : Nat → Prop) (hown : OL w base e sz v n cs S) (b c : Nat) (us : List Value) (ds : List Dat) (T : Nat → Prop) (hcells : Cells w base us ds T) (hus : us.length = sz) (h1 : ∀ u ∈ us, u.oneCell' = true)
    (hc : ∀ j, j < us.length → w.cell? ⟨b, j, none⟩ = us[j]?) (hdis : ∀ k, T k → ¬ S k) (hlen : n + 1 ≤ 1099511627776) (hbase : base ≤ w.heap.size) :
    ∃ v' w' S', (Builtin.append_ #[t, t] ty #[v, .slice (some ⟨b, 0, none⟩) 1 c]).run P w = .ok v' w' ∧ OL w' base e sz v' (n + 1) (cs ++ ds) S' ∧ (∀ k, S' k → S k ∨ T k ∨ w.heap.size ≤ k) ∧ Within w w' S := by
  have hSl := hown.lt
  have hTl := hcells.lt
  obtain ⟨vs, F, ho, hl, hr, hd, hg, hS⟩ := hown
  obtain ⟨G, gl, gr, gd, gT⟩ := hcells
  obtain ⟨i, hi, hz0, hz1, hz2⟩ := info_parts hinfo
  have hb : (n + 1) * bytes ≤ 140737488355328 := Nat.le_trans (Nat.mul_le_mul hlen hby) (by decide)
  obtain ⟨v', w', hrun, ho', hgr, hnew⟩ := run_append_where (P := P) w base t ty e i z sz bytes ht hi hz0 hz1 hz2 hz hsz v n vs ho ⟨b, 0, none⟩ 1 c us (by decide) (by omega)
    (by
      intro j u hu
      have hj : j < us.length := (List.getElem?_eq_some_iff.1 hu).1
      rw [Addr.add_lit, Nat.zero_add, hc j hj, hu])
    h1 (by unfold maxLen; omega) hb hbase
  have hW : Within w w' (fun k => v.ownBlock = some k) := Within.of_grown hgr (fun k hk => hk)
  have hvS : ∀ k, v.ownBlock = some k → S k := fun k hk => (hS k).2 (.inl hk)
  have hFS : ∀ i k, i < vs.length → F i k → S k := fun i k hi hk => (hS k).2 (.inr ⟨i, hi, hk⟩)
  have hGT : ∀ i k, i < us.length → G i k → T k := fun i k hi hk => (gT k).2 ⟨i, hi, hk⟩
  refine ⟨v', w', fun k => v'.ownBlock = some k ∨ ∃ i, i < (vs ++ us).length ∧ (if i < vs.length then F i k else G (i - vs.length) k), hrun, ⟨vs ++ us, fun i k => if i < vs.length then F i k else G (i - vs.length) k, ho', by simp [hl, gl], ?_, ?_, ?_, fun k => Iff.rfl⟩, ?_, hW.mono hvS⟩
  · intro j hj hj'
    by_cases e1 : j < vs.length
    · rw [List.getElem_append_left e1, List.getElem_append_left (by omega)]
      simp only [if_pos e1]
      exact (hr j e1 (by omega)).kept hW (fun k hk hk2 => hg j k e1 hk2 hk)
    · have hju : j - vs.length < us.length := by simp at hj; omega
      rw [List.getElem_append_right (by omega), List.getElem_append_right (by omega)]
      simp only [if_neg e1]
      have e2 : j - cs.length = j - vs.length := by omega
      simp only [e2]
      exact (gr (j - vs.length) hju (by omega)).kept hW (fun k hk hk2 => hdis k (hGT _ k hju hk) (hvS k hk2))
  · intro j l k hj hl2 hne hk1 hk2
    by_cases e1 : j < vs.length
    · simp only [if_pos e1] at hk1
      by_cases e2 : l < vs.length
      · simp only [if_pos e2] at hk2
        exact hd j l k e1 e2 hne hk1 hk2
      · simp only [if_neg e2] at hk2
        have hlu : l - vs.length < us.length := by simp at hl2; omega
        exact hdis k (hGT _ k hlu hk2) (hFS j k e1 hk1)
    · simp only [if_neg e1] at hk1
      have hju : j - vs.length < us.length := by simp at hj; omega
      by_cases e2 : l < vs.length
      · simp only [if_pos e2] at hk2
        exact hdis k (hGT _ k hju hk1) (hFS l k e2 hk2)
      · simp only [if_neg e2] at hk2
        have hlu : l - vs.length < us.length := by simp at hl2; omega
        exact gd _ _ k hju hlu (by omega) hk1 hk2
  · intro j g' hj hg' hk
    by_cases e1 : j < vs.length
    · simp only [if_pos e1] at hk
      rcases hnew g' hg' with h2 | h2
      · exact hg j g' e1 h2 hk
      · have := (hSl g' (hFS j g' e1 hk)).2; omega
    · simp only [if_neg e1] at hk
      have hju : j - vs.length < us.length := by simp at hj; omega
      rcases hnew g' hg' with h2 | h2
      · exact hdis g' (hGT _ g' hju hk) (hvS g' h2)
      · have := (hTl g' (hGT _ g' hju hk)).2; omega
  · intro k hk
    rcases hk with hk | ⟨j, hj, hk⟩
    · rcases hnew k hk with h2 | h2
      · exact .inl (hvS k h2)
      · exact .inr (.inr (by omega))
    · by_cases e1 : j < vs.length
      · simp only [if_pos e1] at hk
        exact .inl (hFS j k e1 hk)
      · simp only [if_neg e1] at hk
        have hju : j - vs.length < us.length := by simp at hj; omega
        exact .inr (.inl (hGT _ k hju hk))

theorem wpList_appendL {ops : Array Oper} {rest : List Oper} {o : Oper} {a : Act} {Q : Exit → Act → World → Prop} (hgd : o.guard = none) (s x : Operand) (t : TypeId)
    (ho : o.op = .call { callee := .builtin .append, args := #[s, x], argTypes := #[t, t] })
    (base : Nat) (e : TypeId) (z : Value) (sz bytes : Nat) (ht : P.underlying t = some (.slice e)) (hinfo : (P.info? e).map (fun i => (i.zero, i.size, i.bytes)) = some (some z, sz, bytes)) (hz : z.cells.size = sz) (hsz : 0 < sz) (hby : bytes ≤ 128)
    (v : Value) (n : Nat) (cs : List Dat) (S : Nat → Prop) (hs : a.eval s = v) (hown : OL w base e sz v n cs S) (b c : Nat) (us : List Value) (ds : List Dat) (T : Nat → Prop) (hx : a.eval x = .slice (some ⟨b, 0, none⟩) 1 c) (hcells : Cells w base us ds T) (hus : us.length = sz) (h1 : ∀ u ∈ us, u.oneCell' = true)
    (hc : ∀ j, j < us.length → w.cell? ⟨b, j, none⟩ = us[j]?) (hdis : ∀ k, T k → ¬ S k) (hlen : n + 1 ≤ 1099511627776) (hbase : base ≤ w.heap.size)
    (h : ∀ v' w' S', OL w' base e sz v' (n + 1) (cs ++ ds) S' → (∀ k, S' k → S k ∨ T k ∨ w.heap.size ≤ k) → Within w w' S → wpList P ops Q rest (a.put o.dst v') w') : wpList P ops Q (o :: rest) a w := by
  refine wpList_plain hgd fun K hK => ?_
  obtain ⟨v', w', S', hr, h2, h3, h4⟩ := run_appendL (P := P) w base t o.type e z sz bytes ht hinfo hz hsz hby v n cs S hown b c us ds T hcells hus h1 hc hdis hlen hbase
  unfold Oper.wp execOp
  simp only [ho, resolve, invoke, builtin, Sem.run_bind, Sem.run_pure, Result.andThen_ok, List.map_toArray, List.map_cons, List.map_nil, hs, hx, hr]
  exact hK _ _ (h v' w' S' h2 h3 h4)
end

/-- A value, plain or with depth, stored into a cell of a list under construction. -/
theorem OL.put {w : World} {base g n c : Nat} {e : TypeId} {sz : Nat} {cs : List Dat} {S : Nat → Prop} (h : OL w base e sz (.slice (some ⟨g, 0, none⟩) n c) n cs S) {i : Nat} (hi : i < cs.length) (u : Value) (d : Dat) (T : Nat → Prop) (hu : OD w base u d T) (hdis : ∀ k, T k → ¬ S k) :
    ∃ S', OL (w.setCell ⟨g, i, none⟩ u) base e sz (.slice (some ⟨g, 0, none⟩) n c) n (cs.set i d) S' ∧ (∀ k, S' k → S k ∨ T k) ∧ w.grownBy (w.setCell ⟨g, i, none⟩ u) (some g) ∧ S g ∧ (∃ z, w.cell? ⟨g, i, none⟩ = some z) ∧ w.frozen? ⟨g, i, none⟩ = false := by
  obtain ⟨vs, F, ho, hl, hr, hd, hg, hS⟩ := h
  have hv : i < vs.length := by omega
  obtain ⟨s1, s2⟩ := World.ownsRow.stored (g := g) (cap := c) ho i u
  have hW : Within w (w.setCell ⟨g, i, none⟩ u) (fun k => k = g) := Within.of_grown s2 (fun k hk => by simpa using hk.symm)
  have hgS : S g := (hS g).2 (.inl rfl)
  refine ⟨fun k => k = g ∨ ∃ j, j < vs.length ∧ (if j = i then T k else F j k), ⟨vs.set i u, fun j k => if j = i then T k else F j k, s1, by simpa using hl, ?_, ?_, ?_, ?_⟩, ?_, s2, hgS, ⟨vs[i], ?_⟩, World.ownsRow.frozenAt (g := g) (cap := c) ho i⟩
  · intro j hj hj'
    have hjv : j < vs.length := by simpa using hj
    have hjc : j < cs.length := by simpa using hj'
    by_cases e1 : j = i
    · subst e1
      simp only [if_true, List.getElem_set_self]
      exact hu.kept hW (fun k hk e2 => hdis k hk (e2 ▸ hgS))
    · simp only [if_neg e1]
      rw [List.getElem_set_ne (by omega), List.getElem_set_ne (by omega)]
      exact (hr j hjv hjc).kept hW (fun k hk e2 => hg j g hjv rfl (e2 ▸ hk))
  · intro j l k hj hl2 hne h1 h2
    have hj' : j < vs.length := by simpa using hj
    have hl' : l < vs.length := by simpa using hl2
    by_cases e1 : j = i
    · by_cases e2 : l = i
      · exact hne (e1.trans e2.symm)
      · simp only [if_pos e1] at h1
        simp only [if_neg e2] at h2
        exact hdis k h1 ((hS k).2 (.inr ⟨l, hl', h2⟩))
    · simp only [if_neg e1] at h1
      by_cases e2 : l = i
      · simp only [if_pos e2] at h2
        exact hdis k h2 ((hS k).2 (.inr ⟨j, hj', h1⟩))
      · simp only [if_neg e2] at h2
        exact hd j l k hj' hl' hne h1 h2
  · intro j g' hj hg' h1
    have hj' : j < vs.length := by simpa using hj
    have eg : g' = g := by simpa [Value.ownBlock] using hg'.symm
    subst eg
    by_cases e1 : j = i
    · simp only [if_pos e1] at h1
      exact hdis g' h1 hgS
    · simp only [if_neg e1] at h1
      exact hg j g' hj' rfl h1
  · intro k
    simp [Value.ownBlock, eq_comm]
  · intro k hk
    rcases hk with rfl | ⟨j, hj, hk⟩
    · exact .inl hgS
    · by_cases e1 : j = i
      · simp only [if_pos e1] at hk; exact .inr hk
      · simp only [if_neg e1] at hk; exact .inl ((hS k).2 (.inr ⟨j, hj, hk⟩))
  · rw [World.ownsRow.cellAt (g := g) (cap := c) ho i (by rw [← ho.1]; exact hv), List.getElem?_eq_getElem hv]

section
variable {P : Program} (w : World)
/-- make of a list whose elements have depth: all zero. -/
theorem make_ownL (t e : TypeId) (z : Value) (bytes : Nat) (zv : List Value) (zd : List Dat) (n : Nat) (ht : P.underlying t = some (.slice e)) (hinfo : (P.info? e).map (fun i => (i.zero, i.size, i.bytes)) = some (some z, zv.length, bytes)) (hz : z.cells = zv.toArray) (hby : bytes ≤ 128) (hn : n ≤ 1099511627776)
    (hp : 0 < zv.length) (h1 : ∀ u ∈ zv, u.oneCell' = true) (hl : zv.length = zd.length) (hzd : ∀ (W : World) (base i : Nat) (h : i < zv.length) (h' : i < zd.length), OD W base zv[i] zd[i] (fun _ => False)) :
    ∃ W : World, (Instr.makeSlice t (.int .i64 (n : Int)) (.int .i64 (n : Int))).run P w = .ok (.slice (some ⟨w.heap.size, 0, none⟩) n n) W ∧ OL W w.heap.size e zv.length (.slice (some ⟨w.heap.size, 0, none⟩) n n) n ((List.replicate n ()).flatMap (fun _ => zd)) (fun k => k = w.heap.size) ∧ Below w.heap.size w W := by
  let E : Enc Unit := { size := zv.length, cells := fun _ => zv, len := fun _ => rfl, one := fun _ => h1, pos := hp }
  obtain ⟨W, hrun, ho, hb⟩ := make_ownT (P := P) (E := E) w t e z bytes () n ht hinfo hz hby hn
  refine ⟨W, hrun, ⟨(List.replicate n ()).flatMap (fun _ => zv), fun _ _ => False, ?_, ?_, ?_, fun i j k _ _ _ h => h.elim, fun i g _ _ h => h, fun k => by simp [Value.ownBlock, eq_comm]⟩, hb⟩
  · have : (List.replicate n ()).length = n := List.length_replicate
    have h2 : W.ownsRow w.heap.size e zv.length (.slice (some ⟨w.heap.size, 0, none⟩) n n) (List.replicate n ()).length ((List.replicate n ()).flatMap (fun _ => zv)) := ho
    rwa [this] at h2
  · rw [flat_length (sz := zv.length) (fun _ => rfl), flat_length (sz := zv.length) (fun _ => hl.symm)]
  · intro i hi hi'
    have hi2 := hi
    rw [flat_length (sz := zv.length) (fun _ => rfl)] at hi2
    have hq : i / zv.length < (List.replicate n ()).length := Nat.div_lt_of_lt_mul (by rw [Nat.mul_comm]; exact hi2)
    have hr : i % zv.length < zv.length := Nat.mod_lt _ hp
    have e0 : i / zv.length * zv.length + i % zv.length = i := by rw [Nat.mul_comm]; exact Nat.div_add_mod i zv.length
    have v1 := flat_get (f := fun _ : Unit => zv) (sz := zv.length) (fun _ => rfl) hq hr
    have d1 := flat_get (f := fun _ : Unit => zd) (sz := zv.length) (fun _ => hl.symm) hq hr
    rw [e0, List.getElem?_eq_getElem hi, List.getElem?_eq_getElem hr] at v1
    rw [e0, List.getElem?_eq_getElem hi', List.getElem?_eq_getElem (by omega)] at d1
    rw [Option.some.inj v1, Option.some.inj d1]
    exact hzd W _ (i % zv.length) hr (by omega)
end
end Go.Proofs.Ythnppodnjokaoab
