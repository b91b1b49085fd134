/-
  Contracts of the two InputText (the program's and the specification's) over this translation. No statement is proved here.
-/
import Derived.Test.YtojbghmlcgadeabInputOk
import Derived.Test.YtojbghmlcgadeabByteRow
namespace Go.Proofs.Ytojbghmlcgadeab
open Go.RowKit

def letByte (x : Int) : UInt8 := UInt8.ofNat (97 + x.toNat)
theorem letByte_is {x : Int} (h0 : 0 ≤ x) (h1 : x ≤ 25) : 97 + x = ((letByte x).toNat : Int) := by
  unfold letByte
  rw [UInt8.toNat_ofNat']
  omega
def inText (zs : List Int) : List UInt8 := zs.map letByte
theorem inText_length (zs : List Int) : (inText zs).length = zs.length := by simp [inText]
theorem inText_step {zs : List Int} {k : Nat} (h : k < zs.length) : inText (zs.take k) ++ [letByte zs[k]] = inText (zs.take (k + 1)) := by
  unfold inText; rw [List.take_succ_eq_append_getElem h, List.map_append]; rfl
/-- The first k bytes, and noughts. -/
def inPart (zs : List Int) (k : Nat) : List UInt8 := inText (zs.take k) ++ List.replicate (zs.length - k) 0
theorem inPart_length {zs : List Int} {k : Nat} (h : k ≤ zs.length) : zs.length = (inPart zs k).length := by
  simp [inPart, inText]; omega
theorem inPart_step {zs : List Int} {k : Nat} (h : k < zs.length) : (inPart zs k).set k (letByte zs[k]) = inPart zs (k + 1) := by
  unfold inPart
  have hl : (inText (zs.take k)).length = k := by simp [inText]; omega
  rw [List.set_append_right _ _ (by omega), hl, Nat.sub_self, ← inText_step h]
  obtain ⟨m, hm⟩ : ∃ m, zs.length - k = m + 1 := ⟨zs.length - k - 1, by omega⟩
  rw [hm, List.replicate_succ, List.set_cons_zero, show zs.length - (k + 1) = m by omega]
  simp
theorem inPart_end {zs : List Int} {k : Nat} (hk : k ≤ zs.length) (h : ¬ k < zs.length) : inPart zs k = inText zs := by
  have : k = zs.length := by omega
  subst this
  simp [inPart]
/-- What InputText answers. -/
def resInputText (zs : List Int) : ByteArray := if inputOkB zs = true then ⟨(inText zs).toArray⟩ else ⟨#[]⟩
theorem Try.infoByteI : (Try.prog.info? 5).map (fun i => (i.zero, i.size, i.bytes)) = some (some (.int .u8 0), 1, 1) := by kernel_rfl

set_option maxRecDepth 100000 in
theorem specInputText_any (zs : List Int) (a : Option Addr) (c : Nat) (w : World) (h : RD w (.slice a zs.length c) (slD Lay.int zs)) (hl : zs.length ≤ 1048576) (hf : (Lay.list Lay.int).fit zs) :
    Calls Try.prog 9 #[.slice a zs.length c] w fun e w' => e = .returned (.string (resInputText zs)) ∧ Below w.heap.size w w' := by
  have X := specInputOk_any zs a c w h hl hf
  have hr : Reads w a zs := h.reads
  clear h hf
  unfold resInputText
  unfold resInputOk at X
  by_cases hok : inputOkB zs = true
  · rw [if_pos hok]
    rw [hok] at X
    have HX : Hid (Calls Try.prog 5 #[.slice a zs.length c] w fun e w' => e = .returned (.bool true) ∧ Below w.heap.size w w') := X
    have hlen := inputOkB_len hok
    have HM : Hid (∀ z ∈ zs, 0 ≤ z ∧ z ≤ 25) := inputOkB_mem hok
    clear X hok
    go_enter Try.func9, Try.ntmps9
    go_wp2_with fail
    refine HX.out.mono ?_
    rintro e w1 ⟨rfl, hb1⟩
    clear HX
    go_wp2
    go_loopw [3, 4] (fun v i wr => ∃ k : Nat, k ≤ zs.length ∧ i = .int .i64 k ∧ OwnBytes wr w.heap.size 5 v (inText (zs.take k)) ∧ Below w.heap.size w wr) (fun _ i _ => zs.length - (intOf i).toNat)
    case atStart => exact ⟨0, Nat.zero_le _, rfl, by simpa [inText] using OwnBytes.empty hb1.size, hb1.alloc hb1.size _⟩
    case round =>
      obtain ⟨k, hk, rfl, hown, hbel⟩ := hrel
      by_cases hlt : k < zs.length
      · obtain ⟨b, off, rfl, hb2, hc⟩ := (hr.below hbel).at hlt
        have q1 := hc k hlt
        rw [List.getD_eq_getElem?_getD, List.getElem?_eq_getElem hlt, Option.getD_some] at q1
        have hz := HM.out zs[k] (List.getElem_mem hlt)
        have hz0 := hz.1
        have hz1 := hz.2
        have HB : Hid (97 + zs[k] = ((letByte zs[k]).toNat : Int)) := letByte_is hz.1 hz.2
        have HS : Hid (inText (zs.take k) ++ [letByte zs[k]] = inText (zs.take (k + 1))) := inText_step hlt
        have hsz := hbel.size
        have hln : (inText (zs.take k)).length ≤ 20 := by rw [inText_length, List.length_take]; omega
        clear hc hr hz
        generalize letByte zs[k] = lb at *
        generalize zs[k] = z at *
        generalize inText (zs.take k) = T at *
        go_wp2_with (at_builtin; refine wpList_append_byte rfl _ _ 29 rfl w.heap.size 5 Try.underlying29 Try.infoByteI _ T rfl (hown.alloc _) wr.heap.size rfl (97 + z) lb HB.out (by simp) (by omega) (by simp; omega) ?_; intro v' w2 hown2 hg2)
        go_roundw
        case rel => exact ⟨k + 1, by omega, by go_num, HS.out ▸ hown2, (hbel.alloc hsz _).grown hg2 (by simp; omega) (fun j hj => (World.ownsRow.lt hown.1 j hj).1)⟩
        case measure => simp [intOf]; omega
      · have HE : Hid (inText (zs.take k) = inText zs) := by show _ = _; rw [List.take_of_length_le (by omega)]
        have hcv := hown.conv (P := Try.prog) 29 9 Try.underlying29 Try.underlying5 Try.underlying9
        clear hr HM hown
        rw [HE.out] at hcv
        go_wp2
        go_ret
        exact ⟨rfl, hbel⟩
  · have hok2 : inputOkB zs = false := by simpa using hok
    rw [if_neg hok]
    rw [hok2] at X
    clear hok hr
    go_enter Try.func9, Try.ntmps9
    go_wp2_with (go_at_call 5; refine X.mono ?_; rintro e w1 ⟨rfl, hb1⟩)
    go_ret
    exact ⟨rfl, hb1⟩
set_option maxRecDepth 100000 in
theorem inputText_any (zs : List Int) (a : Option Addr) (c : Nat) (w : World) (h : RD w (.slice a zs.length c) (slD Lay.int zs)) (hl : zs.length ≤ 1048576) (hf : (Lay.list Lay.int).fit zs) :
    Calls Try.prog 10 #[.slice a zs.length c] w fun e w' => e = .returned (.string (resInputText zs)) ∧ Below w.heap.size w w' := by
  have X := inputOk_any zs a c w h hl hf
  have hr : Reads w a zs := h.reads
  clear h hf
  unfold resInputText
  unfold resInputOk at X
  by_cases hok : inputOkB zs = true
  · rw [if_pos hok]
    rw [hok] at X
    have HX : Hid (Calls Try.prog 7 #[.slice a zs.length c] w fun e w' => e = .returned (.bool true) ∧ Below w.heap.size w w') := X
    have hlen := inputOkB_len hok
    have HM : Hid (∀ z ∈ zs, 0 ≤ z ∧ z ≤ 25) := inputOkB_mem hok
    clear X hok
    go_enter Try.func10, Try.ntmps10
    go_wp2_with fail
    refine HX.out.mono ?_
    rintro e w1 ⟨rfl, hb1⟩
    clear HX
    obtain ⟨W, hmk, hown0, hbW⟩ := makeBytes (P := Try.prog) zs.length (by omega) w1 w.heap.size hb1.size 29 5 Try.underlying29 Try.infoByteI
    have hb2 := hb1.trans (hbW.mono hb1.size)
    have hs1 := hb1.size
    obtain ⟨g, hg⟩ : ∃ g, g = w1.heap.size := ⟨_, rfl⟩
    rw [← hg] at hmk hown0 hs1
    clear hbW hb1 hg
    go_wp2
    go_loopw [14] (fun i wr => ∃ k : Nat, k ≤ zs.length ∧ i = .int .i64 k ∧ OwnBytes wr w.heap.size 5 (.slice (some ⟨g, 0, none⟩) zs.length zs.length) (inPart zs k) ∧ Below w.heap.size w wr) (fun i _ => zs.length - (intOf i).toNat)
    case atStart => exact ⟨0, Nat.zero_le _, rfl, by simpa [inPart, inText] using hown0, hb2⟩
    case round =>
      obtain ⟨k, hk, rfl, hown, hbel⟩ := hrel
      clear hown0 hmk hb2
      by_cases hlt : k < zs.length
      · obtain ⟨b, off, rfl, hb2, hc⟩ := (hr.below hbel).at hlt
        have q1 := hc k hlt
        rw [List.getD_eq_getElem?_getD, List.getElem?_eq_getElem hlt, Option.getD_some] at q1
        have hz := HM.out zs[k] (List.getElem_mem hlt)
        have hz0 := hz.1
        have hz1 := hz.2
        have HB : Hid (97 + zs[k] = ((letByte zs[k]).toNat : Int)) := letByte_is hz.1 hz.2
        have HS : Hid ((inPart zs k).set k (letByte zs[k]) = inPart zs (k + 1)) := inPart_step hlt
        have HL : Hid (zs.length = (inPart zs k).length) := inPart_length hk
        obtain ⟨⟨u, hu⟩, hfr⟩ := hown.at HL.out k hlt
        have HW : Hid (OwnBytes wr w.heap.size 5 (.slice (some ⟨g, 0, none⟩) zs.length zs.length) (inPart zs k)) := hown
        clear hc hr hz hown
        generalize letByte zs[k] = lb at *
        generalize zs[k] = z at *
        generalize inPart zs k = T at *
        go_wp2
        go_roundw
        case rel =>
          have hst := OwnBytes.store HL.out HW.out k (97 + z) lb HB.out
          exact ⟨k + 1, by omega, by go_num, HS.out ▸ hst.1, hbel.grown hst.2 hbel.size (fun j hj => by cases hj; exact hs1)⟩
        case measure => simp [intOf]; omega
      · have HE : Hid (inPart zs k = inText zs) := inPart_end hk hlt
        have hcv := hown.conv (P := Try.prog) 29 9 Try.underlying29 Try.underlying5 Try.underlying9
        clear hr HM hown
        rw [HE.out] at hcv
        go_wp2
        go_ret
        exact ⟨rfl, hbel⟩
  · have hok2 : inputOkB zs = false := by simpa using hok
    rw [if_neg hok]
    rw [hok2] at X
    clear hok hr
    go_enter Try.func10, Try.ntmps10
    go_wp2_with (go_at_call 7; refine X.mono ?_; rintro e w1 ⟨rfl, hb1⟩)
    go_ret
    exact ⟨rfl, hb1⟩
end Go.Proofs.Ytojbghmlcgadeab
