/-
  Contracts of impl.Words and spec.Words over this translation. No statement is proved here.
-/
import Derived.Test.YtkbnafmkgiknbabSend
namespace Go.Proofs.Ytkbnafmkgiknbab
open Go.RowKit Go.Conc

theorem Try.infoWord : (Try.prog.info? 40).map (fun i => (i.zero, i.size, i.bytes)) = some (some (.agg #[.int .i64 0, .int .i64 0, .string ByteArray.empty]), wdE.size, 32) := by kernel_rfl

/-- How much a channel holds. -/
def chanLen (w : World) (c : Nat) : Nat := match w.heap[c]? with | some (.chan _ buf _ _ _ _) => buf.size | _ => 0
theorem chanLen_eq {w : World} {c cap s r : Nat} {buf : Array Value} {cl tm : Bool} (h : w.heap[c]? = some (.chan cap buf cl s r tm)) : chanLen w c = buf.size := by rw [chanLen, h]

theorem makeChan_word (n : Nat) (w : World) (hn : n ≤ 300) : (Instr.makeChan 42 (.int .i64 n)).run Try.prog w = .ok (.chan (some w.heap.size)) (w.alloc (.chan n #[] false 0 0 false)) := by
  obtain ⟨i, hi, _, _, hb⟩ := info_parts Try.infoWord
  exact run_makeChan (P := Try.prog) (w := w) Try.underlying42 hi .i64 n (by omega) (by rw [hb]; omega)

theorem extract_one {α : Type} (x : α) (t : List α) : (x :: t).toArray.extract 1 (x :: t).toArray.size = t.toArray := by simp
theorem drop_cells {ws : List Wd} {m : Nat} (h : m < ws.length) : ((ws.drop m).map wdV).toArray.getD 0 undef = wdV ws[m] ∧ ((ws.drop m).map wdV).toArray.extract 1 ((ws.drop m).map wdV).toArray.size = ((ws.drop (m + 1)).map wdV).toArray := by
  rw [List.drop_eq_getElem_cons h, List.map_cons]
  exact ⟨rfl, extract_one _ _⟩
theorem ret2 {v : Value} {n m : Int} (h : n = m) : Ending.returned (.tuple #[v, .int .i64 n]) = .returned (.tuple #[v, .int .i64 m]) := by rw [h]

set_option maxRecDepth 100000 in
theorem words_any (s : ByteArray) (w : World) (hs : s.size ≤ maxLen) : Calls Try.prog 24 #[.string s] w fun e w' =>
    ∃ v, e = .returned (.tuple #[v, .int .i64 (wordsN s)]) ∧ OwnT wdE w' w.heap.size 40 v (wordsL s) ∧ Below w.heap.size w w' := by
  unfold maxLen at hs
  by_cases hlong : 300 < s.size
  · have EL : Hid (wordsL s = [] ∧ wordsN s = 300) := ⟨wordsL_long hlong, wordsN_long hlong⟩
    go_enter Try.func24, Try.ntmps24
    go_wp2
    go_ret2
    refine ⟨.slice none 0 0, ?_, ?_, Below.refl _ _⟩
    · exact ret2 EL.out.2.symm
    · rw [EL.out.1]; exact OwnT.nil _ _ _
  · have hs3 : s.size ≤ 300 := by omega
    rcases badI_cases s with ⟨hb, hcl⟩ | ⟨k, hk, _, _, hb⟩
    · have EL : Hid (wordsL s = wordsTo s s.size ∧ wordsN s = -1) := ⟨wordsL_clean hlong hb, by rw [wordsN_short hlong, hb]⟩
      have hmc := makeChan_word s.size
      have HCL : Hid (cleanTo s s.size) := hcl
      clear hcl
      have hws := wordsTo_length_le s s.size
      go_enter Try.func24, Try.ntmps24
      go_wp2_with (first
        | (go_at_call 34; refine (firstNoWord_any s _ hs3).mono ?_; rw [hb]; rintro e w' ⟨rfl, rfl⟩)
        | (go_at_call 35; refine (sendWords_any s _ _ hs3 HCL.out (heap_alloc_new _ _)).mono ?_; rintro e w1 ⟨rfl, ⟨n, hch⟩, hb1⟩))
      clear hmc
      generalize hW : wordsTo s s.size = ws at EL hws hch
      have hb2 : Below w'.heap.size w' w1 := ((Below.refl _ w').alloc (Nat.le_refl _) _).trans hb1
      have hz1 : w'.heap.size < w1.heap.size := (Array.getElem?_eq_some_iff.1 hch).1
      clear hW hb1
      go_loopw [6] (fun l wr => ∃ (m r : Nat), m ≤ ws.length ∧ wr.heap[w'.heap.size]? = some (.chan s.size ((ws.drop m).map wdV).toArray true n r false) ∧ OwnT wdE wr (w'.heap.size + 1) 40 l (ws.take m) ∧ Below w'.heap.size w' wr) (fun _ wr => chanLen wr w'.heap.size)
      case atStart => exact ⟨0, 0, Nat.zero_le _, by simpa using hch, by simpa using OwnT.nil _ _ _, hb2⟩
      case round =>
        obtain ⟨m, r, hm, hcr, hown, hbel⟩ := hrel
        have hz : w'.heap.size < wr.heap.size := (Array.getElem?_eq_some_iff.1 hcr).1
        apply wp_seq_k
        intro K1 hK1
        refine wp_region_cut 0 ?_
        simp only [List.take_zero, List.drop_zero, List.length_cons, List.length_nil]
        refine wpList_nil ?_
        show RegTo _ _ _ [0, 1] _ _
        by_cases hlt : m < ws.length
        · obtain ⟨d1, d2⟩ := drop_cells hlt
          refine RegTo.recv (c := w'.heap.size) (z := .agg #[.int .i64 0, .int .i64 0, .string ⟨#[]⟩]) rfl rfl true (by simp [go_sem, rcase]) hcr (by simp; omega) ?_
          rw [d1, d2]
          simp only [got, Act.put, if_true]
          have R := heap_setChan wr w'.heap.size s.size ((ws.drop (m + 1)).map wdV).toArray true n (r + 1) false hz
          have B2 : Below w'.heap.size w' (wr.setChan w'.heap.size s.size ((ws.drop (m + 1)).map wdV).toArray true n (r + 1) false) := below_setChan hbel (Nat.le_refl _) _ _ _ _ _ _
          have O2 : OwnT wdE (wr.setChan w'.heap.size s.size ((ws.drop (m + 1)).map wdV).toArray true n (r + 1) false) (w'.heap.size + 1) 40 u6 (ws.take m) :=
            hown.kept (row := some w'.heap.size) ⟨rfl, rfl, rfl, by simp [World.setChan], fun k hk hne => by simp only [World.setChan]; rw [Array.getElem?_setIfInBounds_ne (by intro e; exact hne (by rw [e]))]⟩
              (.inr (by intro e; have := (hown.block _ e).1; omega))
          have HM : Hid (chanLen wr w'.heap.size = ws.length - m) := by show _ = _; rw [chanLen_eq hcr]; simp
          have hz2 : (wr.setChan w'.heap.size s.size ((ws.drop (m + 1)).map wdV).toArray true n (r + 1) false).heap.size = wr.heap.size := size_setChan _ _ _ _ _ _ _ _
          generalize wr.setChan w'.heap.size s.size ((ws.drop (m + 1)).map wdV).toArray true n (r + 1) false = w2 at R B2 O2 hz2 ⊢
          have hz3 : w'.heap.size < w2.heap.size := by omega
          clear hcr hown hbel d1 d2 hz2
          have ET : Hid (ws.take (m + 1) = ws.take m ++ [ws[m]]) := List.take_succ_eq_append_getElem hlt
          have hl1 : (ws.take m).length ≤ 300 := by simp; omega
          generalize ws[m] = x at ET ⊢
          generalize ws.take m = pre at ET O2 hl1
          obtain ⟨kd, pl, tx⟩ := x
          simp only [wdV]
          refine RegTo.oper rfl rfl ?_
          go_simp
          refine RegTo.nil ?_
          go_wp2_with (at_builtin; refine wpList_appendT (E := wdE) _ rfl (.tmp 26) (.tmp 28) 31 rfl (w'.heap.size + 1) 40 (.agg #[.int .i64 0, .int .i64 0, .string ByteArray.empty]) 32 Try.underlying31 Try.infoWord rfl (by decide) _ pre rfl ?o1 _ _ _ [⟨kd, pl, tx⟩] rfl rfl ?o2 ?o3 ?o4 ?_)
          case o1 => exact (O2.alloc _).alloc _
          case o2 => simpa using ReadsT.new (E := wdE) (w2.alloc (.cells #[.int .i64 kd, .int .i64 pl, .string tx] 40)) ⟨kd, pl, tx⟩ 40 #[.int .i64 kd, .int .i64 pl, .string tx] rfl
          case o3 => simp; omega
          case o4 => simp; omega
          intro v' w3 O3 G3
          have hrow : ∀ k, u6.ownBlock = some k → w'.heap.size + 1 ≤ k := fun k hk => (O2.block k hk).1
          have R3 : w3.heap[w'.heap.size]? = some (.chan s.size ((ws.drop (m + 1)).map wdV).toArray true n (r + 1) false) := by
            rw [G3.block _ (by simp; omega) (by intro e; have := hrow _ e.symm; omega), Lib.alloc_old _ _ _ (by simp; omega), Lib.alloc_old _ _ _ (by omega)]
            exact R
          have B3 : Below w'.heap.size w' w3 := ((B2.alloc (by omega) _).alloc (by simp; omega) _).grown G3 (by simp; omega) (fun k hk => Nat.le_of_succ_le (hrow k hk))
          clear R B2 O2 G3 hrow
          go_wp2
          go_roundw
          case rel => exact ⟨m + 1, r + 1, by omega, R3, by rw [ET.out]; exact O3, B3⟩
          case measure => rw [HM.out, chanLen_eq R3]; simp; omega
        · have e : m = ws.length := by omega
          subst e
          simp only [List.drop_length, List.map_nil, List.take_length] at hcr hown
          refine RegTo.shut (c := w'.heap.size) (z := .agg #[.int .i64 0, .int .i64 0, .string ⟨#[]⟩]) rfl rfl true (by simp [go_sem, rcase]) hcr ?_
          simp only [got, Act.put, if_true]
          refine RegTo.oper rfl rfl ?_
          go_simp
          refine RegTo.nil ?_
          go_wp2
          go_ret2
          refine ⟨u6, ?_, ?_, hbel⟩
          · exact ret2 EL.out.2.symm
          · rw [EL.out.1]; exact hown.base (by omega)
    · have EL : Hid (wordsL s = [] ∧ wordsN s = k) := ⟨wordsL_bad hlong (by omega), by rw [wordsN_short hlong, hb]⟩
      go_enter Try.func24, Try.ntmps24
      go_wp2_with (go_at_call 34; refine (firstNoWord_any s _ hs3).mono ?_; rw [hb]; rintro e w' ⟨rfl, rfl⟩)
      go_ret2
      refine ⟨.slice none 0 0, ?_, ?_, Below.refl _ _⟩
      · exact ret2 EL.out.2.symm
      · rw [EL.out.1]; exact OwnT.nil _ _ _
end Go.Proofs.Ytkbnafmkgiknbab
