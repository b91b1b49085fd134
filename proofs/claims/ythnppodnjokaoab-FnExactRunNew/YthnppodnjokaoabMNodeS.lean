/-
  Contracts of the law package's markNodeS and heldNodeS over this translation. No statement is proved here.
-/
import Derived.Test.YthnppodnjokaoabHNodeS
import Derived.Test.YthnppodnjokaoabMIntS
namespace Go.Proofs.Ythnppodnjokaoab
open Go.RowKit

def cntNode (x : Nd) : Nat := 4 + cntIntS x.kids
def mkNode (k : Nat) (x : Nd) : Nd := ⟨(k : Int), ((k + 1 : Nat) : Int), ((k + 2 : Nat) : Int), ((k + 3 : Nat) : Int), mkIntS (k + 4) x.kids⟩
def cntNodeS : List Nd → Nat := cntL cntNode
def mkNodeS : Nat → List Nd → List Nd := mkL cntNode mkNode
theorem cntNode_le (x : Nd) : cntNode x ≤ 5 * (Lay.node.wt x + 1) := by
  have := cntIntS_le x.kids
  rw [Lay_node_wt]
  unfold cntNode
  omega
theorem cntNodeS_le (xs : List Nd) : cntNodeS xs ≤ 5 * (Lay.list Lay.node).wt xs := by
  rw [Lay.wt_list]
  unfold cntNodeS
  induction xs with
  | nil => simp [cntL]
  | cons x xs ih => have := cntNode_le x; simp only [cntL, List.length_cons, Lay.sumL]; omega
theorem cntNodeS_room {xs : List Nd} {j k M : Nat} (hlt : j < xs.length) (hk : k + 5 * (xs.length + Lay.node.sumL xs) ≤ M) : k + cntNodeS (xs.take j) + 5 * (Lay.node.wt xs[j] + 1) ≤ M := by
  have h1 := cntNodeS_le (xs.take j)
  rw [Lay.wt_list, List.length_take] at h1
  have h2 := Lay.sumL_take Lay.node hlt
  have h3 := Lay.sumL_take_le Lay.node xs (j + 1)
  have h4 : min j xs.length = j := by omega
  rw [h4] at h1
  omega
theorem OD.markNode {w : World} {base g n c : Nat} {M : List Nd} {S : Nat → Prop} (h : OD w base (.slice (some ⟨g, 0, none⟩) n c) (slD Lay.node M) S) {i : Nat} (hi : i < M.length) (v0 v1 v2 v3 : Int) :
    ((∃ z, w.cell? ⟨g, i * 5, none⟩ = some z) ∧ w.frozen? ⟨g, i * 5, none⟩ = false) ∧ ((∃ z, (w.setCell ⟨g, i * 5, none⟩ (.int .i64 v0)).cell? ⟨g, i * 5 + 1, none⟩ = some z) ∧ (w.setCell ⟨g, i * 5, none⟩ (.int .i64 v0)).frozen? ⟨g, i * 5 + 1, none⟩ = false) ∧ ((∃ z, ((w.setCell ⟨g, i * 5, none⟩ (.int .i64 v0)).setCell ⟨g, i * 5 + 1, none⟩ (.int .i64 v1)).cell? ⟨g, i * 5 + 2, none⟩ = some z) ∧ ((w.setCell ⟨g, i * 5, none⟩ (.int .i64 v0)).setCell ⟨g, i * 5 + 1, none⟩ (.int .i64 v1)).frozen? ⟨g, i * 5 + 2, none⟩ = false) ∧ ((∃ z, (((w.setCell ⟨g, i * 5, none⟩ (.int .i64 v0)).setCell ⟨g, i * 5 + 1, none⟩ (.int .i64 v1)).setCell ⟨g, i * 5 + 2, none⟩ (.int .i64 v2)).cell? ⟨g, i * 5 + 3, none⟩ = some z) ∧ (((w.setCell ⟨g, i * 5, none⟩ (.int .i64 v0)).setCell ⟨g, i * 5 + 1, none⟩ (.int .i64 v1)).setCell ⟨g, i * 5 + 2, none⟩ (.int .i64 v2)).frozen? ⟨g, i * 5 + 3, none⟩ = false) ∧ ∃ a1 c1 T, ((((w.setCell ⟨g, i * 5, none⟩ (.int .i64 v0)).setCell ⟨g, i * 5 + 1, none⟩ (.int .i64 v1)).setCell ⟨g, i * 5 + 2, none⟩ (.int .i64 v2)).setCell ⟨g, i * 5 + 3, none⟩ (.int .i64 v3)).cell? ⟨g, i * 5 + 4, none⟩ = some (.slice a1 M[i].kids.length c1) ∧ OD ((((w.setCell ⟨g, i * 5, none⟩ (.int .i64 v0)).setCell ⟨g, i * 5 + 1, none⟩ (.int .i64 v1)).setCell ⟨g, i * 5 + 2, none⟩ (.int .i64 v2)).setCell ⟨g, i * 5 + 3, none⟩ (.int .i64 v3)) base (.slice a1 M[i].kids.length c1) (slD Lay.int M[i].kids) T ∧ (∀ k, T k → S k) ∧ ∀ w' ks, OD w' base (.slice a1 M[i].kids.length c1) (slD Lay.int ks) T → Within ((((w.setCell ⟨g, i * 5, none⟩ (.int .i64 v0)).setCell ⟨g, i * 5 + 1, none⟩ (.int .i64 v1)).setCell ⟨g, i * 5 + 2, none⟩ (.int .i64 v2)).setCell ⟨g, i * 5 + 3, none⟩ (.int .i64 v3)) w' T → OD w' base (.slice (some ⟨g, 0, none⟩) n c) (slD Lay.node (M.set i ⟨v0, v1, v2, v3, ks⟩)) S ∧ Within w w' S := by
  obtain ⟨O1, W1, z0, f0⟩ := OD.elemStore Lay.node.len h hi (j := 0) (by decide) (.int .i64 M[i].kind) (.int .i64 v0) (by simp [Lay.node]) (by simp [Lay.node]) ⟨v0, M[i].sym, M[i].alt, M[i].pl, M[i].kids⟩ (by simp [Lay.node])
  rw [show i * Lay.node.sz + 0 = i * 5 from rfl] at O1 W1 z0 f0
  have i1 : i < (M.set i ⟨v0, M[i].sym, M[i].alt, M[i].pl, M[i].kids⟩).length := by simpa using hi
  obtain ⟨O2, W2, z1, f1⟩ := OD.elemStore Lay.node.len O1 i1 (j := 1) (by decide) (.int .i64 M[i].sym) (.int .i64 v1) (by simp [Lay.node]) (by simp [Lay.node]) ⟨v0, v1, M[i].alt, M[i].pl, M[i].kids⟩ (by simp [Lay.node])
  rw [show i * Lay.node.sz + 1 = i * 5 + 1 from rfl] at O2 W2 z1 f1
  rw [List.set_set] at O2
  have i2 : i < (M.set i ⟨v0, v1, M[i].alt, M[i].pl, M[i].kids⟩).length := by simpa using hi
  obtain ⟨O3, W3, z2, f2⟩ := OD.elemStore Lay.node.len O2 i2 (j := 2) (by decide) (.int .i64 M[i].alt) (.int .i64 v2) (by simp [Lay.node]) (by simp [Lay.node]) ⟨v0, v1, v2, M[i].pl, M[i].kids⟩ (by simp [Lay.node])
  rw [show i * Lay.node.sz + 2 = i * 5 + 2 from rfl] at O3 W3 z2 f2
  rw [List.set_set] at O3
  have i3 : i < (M.set i ⟨v0, v1, v2, M[i].pl, M[i].kids⟩).length := by simpa using hi
  obtain ⟨O4, W4, z3, f3⟩ := OD.elemStore Lay.node.len O3 i3 (j := 3) (by decide) (.int .i64 M[i].pl) (.int .i64 v3) (by simp [Lay.node]) (by simp [Lay.node]) ⟨v0, v1, v2, v3, M[i].kids⟩ (by simp [Lay.node])
  rw [show i * Lay.node.sz + 3 = i * 5 + 3 from rfl] at O4 W4 z3 f3
  rw [List.set_set] at O4
  have i4 : i < (M.set i ⟨v0, v1, v2, v3, M[i].kids⟩).length := by simpa using hi
  have WW := (((W1.trans W2).trans W3).trans W4)
  obtain ⟨u, T, hc, ho, hT, _, hput⟩ := OD.elemInto Lay.node.len O4 i4 (j := 4) (by decide) (by simp [Lay.node])
  rw [show i * Lay.node.sz + 4 = i * 5 + 4 from rfl] at hc
  have ho2 : OD ((((w.setCell ⟨g, i * 5, none⟩ (.int .i64 v0)).setCell ⟨g, i * 5 + 1, none⟩ (.int .i64 v1)).setCell ⟨g, i * 5 + 2, none⟩ (.int .i64 v2)).setCell ⟨g, i * 5 + 3, none⟩ (.int .i64 v3)) base u (slD Lay.int M[i].kids) T := by simpa [Lay.node] using ho
  obtain ⟨a1, c1, rfl, _⟩ := OD.shapeL ho2
  refine ⟨⟨z0, f0⟩, ⟨z1, f1⟩, ⟨z2, f2⟩, ⟨z3, f3⟩, a1, c1, T, hc, ho2, hT, fun w' ks h1 hw => ⟨?_, WW.trans (hw.mono hT)⟩⟩
  have := hput w' (slD Lay.int ks) ⟨v0, v1, v2, v3, ks⟩ (by simp [Lay.node]) h1 hw
  rw [List.set_set] at this
  exact this

set_option maxRecDepth 100000 in
theorem markNodeS_l (xs : List Nd) (base : Nat) (v : Value) (S : Nat → Prop) (k : Nat) (w : World) (h : OD w base v (slD Lay.node xs) S) (hk : k + 5 * (Lay.list Lay.node).wt xs ≤ 8388608) :
    Calls Try.prog 37 #[v, .int .i64 (k : Int)] w fun e w' => e = .returned (.int .i64 ((k + cntNodeS xs : Nat) : Int)) ∧ OD w' base v (slD Lay.node (mkNodeS k xs)) S ∧ Within w w' S := by
  rw [Lay.wt_list] at hk
  have hlen : xs.length ≤ 8388608 := by omega
  obtain ⟨a, c, rfl, hg⟩ := OD.shapeL h
  go_enter Try.func37, Try.ntmps37
  go_wp2
  go_loopw [1, 5] (fun sk i wr => ∃ j : Nat, j ≤ xs.length ∧ i = .int .i64 j ∧ sk = .int .i64 ((k + cntNodeS (xs.take j) : Nat) : Int) ∧ Hid (OD wr base (.slice a xs.length c) (slD Lay.node (mkNodeS k (xs.take j) ++ xs.drop j)) S ∧ Within w wr S)) (fun _ i _ => xs.length - (intOf i).toNat)
  case atStart => exact ⟨0, Nat.zero_le _, rfl, by simp [cntNodeS, cntL], by simpa [mkNodeS, mkL] using h, Within.refl _ _⟩
  case round =>
    obtain ⟨j, hj, rfl, rfl, HO⟩ := hrel
    by_cases hlt : j < xs.length
    · obtain ⟨g, rfl⟩ := hg (by intro e; simp [e] at hlt)
      have hjL : j < (mkNodeS k (xs.take j) ++ xs.drop j).length := by rw [mkNodeS, mid_length _ _ hj]; exact hlt
      have HX : (mkNodeS k (xs.take j) ++ xs.drop j)[j] = xs[j] := mid_get cntNode mkNode hlt hjL
      have HS : Hid ((mkNodeS k (xs.take j) ++ xs.drop j).set j (mkNode (k + cntNodeS (xs.take j)) xs[j]) = mkNodeS k (xs.take (j + 1)) ++ xs.drop (j + 1)) := mid_set cntNode mkNode hlt
      have HN : Hid (k + cntNodeS (xs.take (j + 1)) = k + cntNodeS (xs.take j) + cntNode xs[j]) := by show _ = _; unfold cntNodeS; rw [cntL_take _ hlt]; omega
      have hle := cntNodeS_room hlt hk
      have hle2 := cntIntS_le xs[j].kids
      have HL := HO.out.1
      have HW := HO.out.2
      generalize mkNodeS k (xs.take j) ++ xs.drop j = M at *
      generalize k + cntNodeS (xs.take j) = m at *
      obtain ⟨⟨⟨z0, d0⟩, e0⟩, ⟨⟨z1, d1⟩, e1⟩, ⟨⟨z2, d2⟩, e2⟩, ⟨⟨z3, d3⟩, e3⟩, a1, c1, Tj, q0, O1, hT, hput⟩ := HL.markNode hjL ((m : Int)) ((m : Int) + 1) ((m : Int) + 1 + 1) ((m : Int) + 1 + 1 + 1)
      rw [HX] at q0 O1 hput
      have HEQ : (⟨(m : Int), (m : Int) + 1, (m : Int) + 1 + 1, (m : Int) + 1 + 1 + 1, mkIntS (m + 4) xs[j].kids⟩ : Nd) = mkNode m xs[j] := by
        unfold mkNode
        congr 1 <;> omega
      have X : Hid (Calls Try.prog 46 #[.slice a1 xs[j].kids.length c1, .int .i64 ((m + 4 : Nat) : Int)] ((((wr.setCell ⟨g, j * 5, none⟩ (.int .i64 ((m : Int)))).setCell ⟨g, j * 5 + 1, none⟩ (.int .i64 ((m : Int) + 1))).setCell ⟨g, j * 5 + 2, none⟩ (.int .i64 ((m : Int) + 1 + 1))).setCell ⟨g, j * 5 + 3, none⟩ (.int .i64 ((m : Int) + 1 + 1 + 1))) fun e w' => e = .returned (.int .i64 ((m + 4 + cntIntS xs[j].kids : Nat) : Int)) ∧ OD w' base (.slice a1 xs[j].kids.length c1) (slD Lay.int (mkIntS (m + 4) xs[j].kids)) Tj ∧ Within ((((wr.setCell ⟨g, j * 5, none⟩ (.int .i64 ((m : Int)))).setCell ⟨g, j * 5 + 1, none⟩ (.int .i64 ((m : Int) + 1))).setCell ⟨g, j * 5 + 2, none⟩ (.int .i64 ((m : Int) + 1 + 1))).setCell ⟨g, j * 5 + 3, none⟩ (.int .i64 ((m : Int) + 1 + 1 + 1))) w' Tj) :=
        markIntS_l xs[j].kids base _ Tj (m + 4) _ O1 (by rw [Lay_node_wt] at hle; omega)
      have HP : Hid (∀ w', OD w' base (.slice a1 xs[j].kids.length c1) (slD Lay.int (mkIntS (m + 4) xs[j].kids)) Tj ∧ Within ((((wr.setCell ⟨g, j * 5, none⟩ (.int .i64 ((m : Int)))).setCell ⟨g, j * 5 + 1, none⟩ (.int .i64 ((m : Int) + 1))).setCell ⟨g, j * 5 + 2, none⟩ (.int .i64 ((m : Int) + 1 + 1))).setCell ⟨g, j * 5 + 3, none⟩ (.int .i64 ((m : Int) + 1 + 1 + 1))) w' Tj → OD w' base (.slice (some ⟨g, 0, none⟩) xs.length c) (slD Lay.node (mkNodeS k (xs.take (j + 1)) ++ xs.drop (j + 1))) S ∧ Within w w' S) := by
        intro w' hx
        have := hput w' _ hx.1 hx.2
        rw [HEQ, HS.out] at this
        exact ⟨this.1, HW.trans this.2⟩
      have HCN : Hid (m + cntNode xs[j] = m + 4 + cntIntS xs[j].kids) := by show _ = _; unfold cntNode; omega
      clear hg h HO HX HS hput O1 hjL HL HW HEQ hk
      generalize mkIntS (m + 4) xs[j].kids = mk at *
      generalize Lay.node.wt xs[j] = wk at *
      generalize cntNode xs[j] = cn at *
      generalize cntIntS xs[j].kids = ck at *
      generalize xs[j].kids = y at *
      have hgl : g < wr.heap.size := World.block_lt_of_cell? wr _ d0
      go_wp2_with fail
      have ec : ((m : Int) + 1 + 1 + 1 + 1) = ((m + 4 : Nat) : Int) := by omega
      rw [ec]
      refine X.out.mono ?_
      rintro e w1 ⟨rfl, hx⟩
      have HE : Hid (OD w1 base (.slice (some ⟨g, 0, none⟩) xs.length c) (slD Lay.node (mkNodeS k (xs.take (j + 1)) ++ xs.drop (j + 1))) S ∧ Within w w1 S) := HP.out w1 hx
      clear X HP hx
      go_wp2
      go_roundw
      case rel => exact ⟨j + 1, by omega, by go_num, by rw [HN.out, HCN.out]; simp, HE⟩
      case measure => simp [intOf]; omega
    · have e : j = xs.length := by omega
      subst e
      have HE : Hid (OD wr base (.slice a xs.length c) (slD Lay.node (mkNodeS k xs)) S ∧ Within w wr S) := by show _ ∧ _; simpa using HO.out
      have HC : Hid (cntNodeS (xs.take xs.length) = cntNodeS xs) := by show _ = _; rw [List.take_length]
      clear HO
      generalize cntNodeS (xs.take xs.length) = m at *
      go_wp2
      go_ret
      exact ⟨ret_int (by rw [HC.out]), HE.out⟩

end Go.Proofs.Ythnppodnjokaoab
