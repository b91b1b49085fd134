/-
  Plain facts on decimal numerals: which text is the numeral of a number up to 999999. No statement is proved here.
-/
import Derived.Lib.ItoaNum
import Derived.Lib.Atoi
import Derived.Lib.AtoiTie
namespace Go.Proofs.YtkbnafmkgiknbaaDoor

/-- l is the numeral of n, and n is at most 999999. -/
def IsNum (l : List UInt8) (n : Nat) : Prop := n ≤ 999999 ∧ l = Lib.decDigits n
/-- The answer of Number: the number and true, or 0 and false. -/
def NumIs (l : List UInt8) (n : Nat) (b : Bool) : Prop := (b = true ∧ IsNum l n) ∨ (b = false ∧ n = 0 ∧ ∀ m, ¬ IsNum l m)

theorem decFrom_append : ∀ (l r : List UInt8) (acc : Nat), Lib.decFrom acc (l ++ r) = (Lib.decFrom acc l).bind fun n => Lib.decFrom n r
  | [], _, _ => rfl
  | b :: l, r, acc => by
    simp only [List.cons_append, Lib.decFrom]
    cases Lib.digitVal b with
    | none => rfl
    | some d => exact decFrom_append l r _

theorem digitVal_digit {d : Nat} (h : d < 10) : Lib.digitVal (UInt8.ofNat (48 + d)) = some d := by
  have e : (UInt8.ofNat (48 + d)).toNat = 48 + d := by rw [UInt8.toNat_ofNat']; omega
  rw [Lib.digitVal, e, if_pos (by omega)]
  congr 1; omega

theorem decFrom_digits (n : Nat) : Lib.decFrom 0 (Lib.decDigits n) = some n := by
  induction n using Nat.strongRecOn with
  | _ n ih =>
    rw [Lib.decDigits]
    by_cases h : n < 10
    · rw [dif_pos h, Lib.decFrom, digitVal_digit h]
      simp [Lib.decFrom]
    · rw [dif_neg h, decFrom_append, ih (n / 10) (by omega)]
      simp only [Option.bind_some, Lib.decFrom, digitVal_digit (Nat.mod_lt n (by decide : 0 < 10))]
      congr 1; omega

theorem decDigits_pos (n : Nat) : 1 ≤ (Lib.decDigits n).length := by rw [Lib.decDigits_length]; exact Lib.nDigits_pos n

theorem nDigits_le' : ∀ (k u : Nat), u < 10 ^ (k + 1) → Lib.nDigits u ≤ k + 1
  | 0, u, h => by rw [Lib.nDigits_small (by simpa using h)]; exact Nat.le_refl _
  | k + 1, u, h => by
    by_cases hu : u < 10
    · rw [Lib.nDigits_small hu]; omega
    · rw [Lib.nDigits_big hu]
      have := nDigits_le' k (u / 10) (by rw [Nat.pow_succ] at h; omega)
      omega

theorem IsNum.length {l : List UInt8} {n : Nat} (h : IsNum l n) : 1 ≤ l.length ∧ l.length ≤ 6 := by
  obtain ⟨h1, rfl⟩ := h
  exact ⟨decDigits_pos n, by rw [Lib.decDigits_length]; exact nDigits_le' 5 n (by omega)⟩

theorem IsNum.value {l : List UInt8} {n : Nat} (h : IsNum l n) : Lib.decFrom 0 l = some n := by
  obtain ⟨_, rfl⟩ := h
  exact decFrom_digits n

theorem IsNum.one {l : List UInt8} {n m : Nat} (h : IsNum l n) (g : IsNum l m) : n = m := Option.some.inj (h.value.symm.trans g.value)

theorem NumIs.one {l : List UInt8} {n m : Nat} {b c : Bool} (h : NumIs l n b) (g : NumIs l m c) : n = m ∧ b = c := by
  rcases h with ⟨rfl, h⟩ | ⟨rfl, rfl, h⟩ <;> rcases g with ⟨rfl, g⟩ | ⟨rfl, rfl, g⟩
  · exact ⟨h.one g, rfl⟩
  · exact absurd h (g _)
  · exact absurd g (h _)
  · exact ⟨rfl, rfl⟩

theorem num_no {l : List UInt8} (h : ∀ m, ¬ IsNum l m) : NumIs l 0 false := .inr ⟨rfl, rfl, h⟩
theorem num_len {l : List UInt8} (h : l.length < 1 ∨ 6 < l.length) : NumIs l 0 false :=
  num_no fun m hm => by have := hm.length; omega

/-- The value of digits is below ten to their count. -/
theorem decFrom_lt : ∀ (l : List UInt8) (acc n k : Nat), acc < 10 ^ k → Lib.decFrom acc l = some n → n < 10 ^ (k + l.length)
  | [], acc, n, k, ha, h => by
    simp only [Lib.decFrom, Option.some.injEq] at h
    subst h; simpa using ha
  | b :: l, acc, n, k, ha, h => by
    simp only [Lib.decFrom] at h
    cases hb : Lib.digitVal b with
    | none => simp [hb] at h
    | some d =>
      simp only [hb] at h
      have hd : d < 10 := by
        unfold Lib.digitVal at hb
        split at hb
        · cases hb; omega
        · cases hb
      have := decFrom_lt l (acc * 10 + d) n (k + 1) (by rw [Nat.pow_succ]; omega) h
      rw [List.length_cons]
      rw [show k + (l.length + 1) = k + 1 + l.length by omega]
      exact this

theorem take_digit {l : List UInt8} {k n : Nat} (h : Lib.decFrom 0 (l.take k) = some n) (hk : k < l.length) (h0 : (48 : Int) ≤ (l[k].toNat : Int)) (h1 : (l[k].toNat : Int) ≤ 57) :
    Lib.decFrom 0 (l.take (k + 1)) = some (n * 10 + (l[k].toNat - 48)) :=
  Lib.decFrom_take l k 0 n l[k] (l[k].toNat - 48) h (List.getElem?_eq_getElem hk) (by rw [Lib.digitVal, if_pos (by omega)])

theorem num_byte {l : List UInt8} {k : Nat} (hk : k < l.length) (h : (l[k].toNat : Int) < 48 ∨ (57 : Int) < (l[k].toNat : Int)) : NumIs l 0 false :=
  num_no fun m hm => by
    obtain ⟨d, hd⟩ := Lib.digit_of_decFrom l 0 m hm.value k l[k] (List.getElem?_eq_getElem hk)
    unfold Lib.digitVal at hd
    split at hd
    · omega
    · cases hd

theorem num_val {l : List UInt8} {n : Nat} (hv : Lib.decFrom 0 l = some n) (hl : l.length ≤ 6) : (l = Lib.decDigits n → NumIs l n true) ∧ (¬ l = Lib.decDigits n → NumIs l 0 false) := by
  have hn : n ≤ 999999 := by
    have := decFrom_lt l 0 n 0 (by decide) hv
    have : 10 ^ (0 + l.length) ≤ 10 ^ 6 := Nat.pow_le_pow_right (by decide) (by omega)
    omega
  refine ⟨fun e => .inl ⟨rfl, hn, e⟩, fun e => num_no fun m hm => ?_⟩
  have : m = n := Option.some.inj (hm.value.symm.trans hv)
  subst this
  exact e hm.2

/-- What Atoi gives at the numeral of a number up to 999999. -/
theorem atoi_num {l : List UInt8} {n : Nat} (h : IsNum l n) : Lib.atoiAll l = .ok (n : Int) := by
  have hl := h.length
  rw [Lib.atoiAll_short l (by omega)]
  have hv := h.value
  cases l with
  | nil => simp at hl
  | cons b r =>
    obtain ⟨d, hd⟩ := Lib.digit_of_decFrom (b :: r) 0 n hv 0 b rfl
    have hb : 48 ≤ b.toNat ∧ b.toNat ≤ 57 := by
      unfold Lib.digitVal at hd
      split at hd
      · assumption
      · cases hd
    have n1 : (b == 45) = false := by
      rw [beq_eq_false_iff_ne]; intro e; subst e; exact absurd hb.1 (by decide)
    have n2 : (b == 43) = false := by
      rw [beq_eq_false_iff_ne]; intro e; subst e; exact absurd hb.1 (by decide)
    simp only [Lib.atoi, n1, n2, Lib.decNat]
    simp [hv, Lib.NumEnd.ofOption]

theorem num_atoi {l : List UInt8} {v : Int} (ha : Lib.atoiAll l = .ok v) :
    (v < 0 ∨ 999999 < v → NumIs l 0 false) ∧ (¬ v < 0 → ¬ 999999 < v → (l = Lib.decDigits v.toNat → NumIs l v.toNat true) ∧ (¬ l = Lib.decDigits v.toNat → NumIs l 0 false)) := by
  have uniq : ∀ m, IsNum l m → v = (m : Int) := fun m hm => by
    have := (atoi_num hm).symm.trans ha
    simpa using this.symm
  refine ⟨fun h => num_no fun m hm => ?_, fun h0 h1 => ⟨fun e => .inl ⟨rfl, by omega, e⟩, fun e => num_no fun m hm => ?_⟩⟩
  · have := uniq m hm
    have := hm.1
    omega
  · have := uniq m hm
    apply e
    rw [this]
    exact hm.2
theorem num_atoi_no {l : List UInt8} (h : ∀ v, Lib.atoiAll l ≠ .ok v) : NumIs l 0 false := num_no fun _ hm => h _ (atoi_num hm)
end Go.Proofs.YtkbnafmkgiknbaaDoor
