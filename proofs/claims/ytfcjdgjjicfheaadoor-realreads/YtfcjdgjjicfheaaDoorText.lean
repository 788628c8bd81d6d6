/-
  Layer 3: Text: contract.
-/
import Derived.Test.YtfcjdgjjicfheaaDoorHex
import Derived.Test.YtfcjdgjjicfheaaDoorShelf
import Derived.Maps.RangeRun
namespace Go.Proofs.YtfcjdgjjicfheaaDoor
open Go.RowKit
open Go.ChangeMaps (setBlock)

theorem fui_any (u : Nat) (x : Int) (w : World) (hx : Hid (x = (u : Int))) (h0 : 0 ≤ x) (h1 : x < 18446744073709551616) (ht : w.cell? ⟨6, 15, none⟩ = some (.int .u8 4)) (hN : 6 < w.heap.size) :
    Calls Tryd.prog 30 #[.int .u64 x, .int .i64 16] w fun e w' => (∃ L, 1 ≤ L ∧ L ≤ 16 ∧ u < 16 ^ L ∧ e = .returned (.string (hexS u L))) ∧ Below w.heap.size w w' := by
  go_enter Tryd.func30, Tryd.ntmps30
  go_wp2_with (go_at_call 44; refine (fb_any u _ _ hx h0 h1 ht hN).mono ?_; rintro e w' ⟨⟨L, hL1, hL2, hL3, rfl⟩, hb⟩; have HL : Hid (∀ _ : Unit, u < 16 ^ L) := fun _ => hL3; clear hL3)
  go_ret
  exact ⟨⟨L, hL1, hL2, HL (), rfl⟩, hb⟩
theorem fu_any (u : Nat) (x : Int) (w : World) (hx : Hid (x = (u : Int))) (h0 : 0 ≤ x) (h1 : x < 18446744073709551616) (ht : w.cell? ⟨6, 15, none⟩ = some (.int .u8 4)) (hN : 6 < w.heap.size) :
    Calls Tryd.prog 21 #[.int .u64 x, .int .i64 16] w fun e w' => (∃ L, 1 ≤ L ∧ L ≤ 16 ∧ u < 16 ^ L ∧ e = .returned (.string (hexS u L))) ∧ Below w.heap.size w w' := by
  go_enter Tryd.func21, Tryd.ntmps21
  go_wp2_with (go_at_call 30; refine (fui_any u _ _ hx h0 h1 ht hN).mono ?_; rintro e w' ⟨⟨L, hL1, hL2, hL3, rfl⟩, hb⟩; have HL : Hid (∀ _ : Unit, u < 16 ^ L) := fun _ => hL3; clear hL3)
  go_ret
  exact ⟨⟨L, hL1, hL2, HL (), rfl⟩, hb⟩

/-- The text of canonical bits. -/
def txt (b : Nat) : ByteArray :=
  if b = 0 then ⟨#[48]⟩ else if b = 9223372036854775808 then ⟨#[45, 48]⟩ else if b = 9218868437227405312 then ⟨#[105, 110, 102]⟩
  else if b = 18442240474082181120 then ⟨#[45, 105, 110, 102]⟩ else if b = 9221120237041090560 then ⟨#[110, 97, 110]⟩ else hexS b 16

theorem hexS_size (u L : Nat) : (hexS u L).size = L := by
  show (hexL u L).toArray.size = L
  simp [hexL_length]

theorem repeat_one (c : Nat) : Lib.repeatL [48] c = List.replicate c (48 : UInt8) := by
  induction c with
  | zero => rfl
  | succ c ih => rw [Lib.repeatL, List.replicate_succ, ih]; rfl
theorem hexL_pad (b c L : Nat) (h : c + L = 16) (hb : b < 16 ^ L) : List.replicate c (48 : UInt8) ++ hexL b L = hexL b 16 := by
  apply List.ext_getElem
  · simp [hexL_length]; omega
  · intro j h1 h2
    rw [hexL_length] at h2
    by_cases hj : j < c
    · rw [List.getElem_append_left (by simpa using hj)]
      simp only [List.getElem_replicate, hexL, List.getElem_map, List.getElem_range]
      have hp : 16 ^ L ≤ 16 ^ (16 - 1 - j) := Nat.pow_le_pow_right (by decide) (by omega)
      rw [Nat.div_eq_of_lt (Nat.lt_of_lt_of_le hb hp)]; rfl
    · rw [List.getElem_append_right (by simpa using Nat.le_of_not_lt hj)]
      simp only [hexL, List.getElem_map, List.getElem_range, List.length_replicate]
      rw [show L - 1 - (j - c) = 16 - 1 - j by omega]
def zeroS (c : Nat) : ByteArray := ⟨(Lib.repeatL [48] c).toArray⟩
theorem zeroS_size (c : Nat) : (zeroS c).size = c := by
  show (Lib.repeatL [48] c).toArray.size = c
  rw [repeat_one]; simp
theorem zeros_any (c : Nat) (w : World) (hc : c ≤ 16) : Calls Tryd.prog 22 #[.string ⟨#[48]⟩, .int .i64 (c : Int)] w fun e w' => e = .returned (.string (zeroS c)) ∧ Below w.heap.size w w' :=
  Tryd.strings_Repeat ⟨#[48]⟩ c w (by omega) (by show 1 * c ≤ _; omega)
theorem hex_pad (b c L : Nat) (h : c + L = 16) (hb : b < 16 ^ L) : zeroS c ++ hexS b L = hexS b 16 := by
  apply ByteArray.ext
  rw [ByteArray.data_append]
  show (Lib.repeatL [48] c).toArray ++ (hexL b L).toArray = (hexL b 16).toArray
  rw [repeat_one, List.append_toArray, hexL_pad b c L h hb]
/-- An entry of the table: its word is the text of its bits. -/
theorem entry_txt {e : MapEntry} (he : e ∈ wES.toList) : ∃ s z, e.key = .string s ∧ e.val = .int .u64 z ∧ ∀ b : Nat, z = (b : Int) → txt b = s := by
  have : e = wE0 ∨ e = wE1 ∨ e = wE2 ∨ e = wE3 ∨ e = wE4 := by simpa [wES] using he
  rcases this with rfl | rfl | rfl | rfl | rfl
  · exact ⟨_, _, rfl, rfl, fun b hb => by obtain rfl : b = 0 := by omega
                                          rfl⟩
  · exact ⟨_, _, rfl, rfl, fun b hb => by obtain rfl : b = 9223372036854775808 := by omega
                                          rfl⟩
  · exact ⟨_, _, rfl, rfl, fun b hb => by obtain rfl : b = 9218868437227405312 := by omega
                                          rfl⟩
  · exact ⟨_, _, rfl, rfl, fun b hb => by obtain rfl : b = 18442240474082181120 := by omega
                                          rfl⟩
  · exact ⟨_, _, rfl, rfl, fun b hb => by obtain rfl : b = 9221120237041090560 := by omega
                                          rfl⟩
theorem txt_none {b : Nat} (h : ∀ e ∈ wES.toList, e.val ≠ .int .u64 (b : Int)) : txt b = hexS b 16 := by
  have h0 := h wE0 (by simp [wES]); have h1 := h wE1 (by simp [wES]); have h2 := h wE2 (by simp [wES]); have h3 := h wE3 (by simp [wES]); have h4 := h wE4 (by simp [wES])
  simp [wE0] at h0; simp [wE1] at h1; simp [wE2] at h2; simp [wE3] at h3; simp [wE4] at h4
  unfold txt
  rw [if_neg (by omega), if_neg (by omega), if_neg (by omega), if_neg (by omega), if_neg (by omega)]

/-- The ranging is under way. -/
structure Rng (w wr : World) (X : Int) (seen : Array Nat) : Prop where
  below : Below w.heap.size w wr
  size : wr.heap.size = w.heap.size + 2
  tab : wr.heap[w.heap.size]? = some (.map wES 5)
  it : wr.heap[w.heap.size + 1]? = some (.mapIter (some w.heap.size) 5 seen 5)
  no : ∀ x ∈ wES.toList, seen.contains x.born = true → x.val ≠ .int .u64 X

theorem Rng.start (w : World) (X : Int) : Rng w ((w.alloc (.map wES 5)).alloc (.mapIter (some w.heap.size) 5 #[] 5)) X #[] where
  below := ((Below.refl _ _).alloc (Nat.le_refl _) _).alloc (by simp) _
  size := by simp
  tab := by rw [heap_alloc_old _ _ (by simp), heap_alloc_new]
  it := by have := heap_alloc_new (w.alloc (.map wES 5)) (.mapIter (some w.heap.size) 5 #[] 5); simpa using this
  no := fun x _ h => by simp at h
theorem Rng.step {w wr w1 : World} {X : Int} {seen : Array Nat} (h : Rng w wr X seen) (h1 : w1 = wr ∨ w1 = wr.drew) (e : MapEntry) :
    Below w.heap.size w (setBlock w1 (w.heap.size + 1) (.mapIter (some w.heap.size) 5 (seen.push e.born) 5)) ∧
    (setBlock w1 (w.heap.size + 1) (.mapIter (some w.heap.size) 5 (seen.push e.born) 5)).heap[w.heap.size + 1]? = some (.mapIter (some w.heap.size) 5 (seen.push e.born) 5) ∧
    (setBlock w1 (w.heap.size + 1) (.mapIter (some w.heap.size) 5 (seen.push e.born) 5)).heap[w.heap.size]? = some (.map wES 5) := by
  have hh : w1.heap = wr.heap := by rcases h1 with rfl | rfl <;> rfl
  have hb : Below w.heap.size w w1 := by
    rcases h1 with rfl | rfl
    · exact h.below
    · exact ⟨h.below.os, h.below.tape, h.below.output, h.below.size, h.below.block⟩
  have e1 : ∀ i, i ≠ w.heap.size + 1 → (setBlock w1 (w.heap.size + 1) (.mapIter (some w.heap.size) 5 (seen.push e.born) 5)).heap[i]? = wr.heap[i]? := fun i hi => by
    show (w1.heap.setIfInBounds _ _)[i]? = _
    rw [Array.getElem?_setIfInBounds_ne (Ne.symm hi), hh]
  refine ⟨⟨hb.os, hb.tape, hb.output, ?_, fun k hk => by rw [e1 k (by omega)]; exact h.below.block k hk⟩, ?_, by rw [e1 _ (by omega)]; exact h.tab⟩
  · show w.heap.size ≤ (w1.heap.setIfInBounds _ _).size
    rw [Array.size_setIfInBounds, hh, h.size]; omega
  · show (w1.heap.setIfInBounds _ _)[_]? = _
    rw [Array.getElem?_setIfInBounds_self_of_lt (by rw [hh, h.size]; omega)]
theorem Rng.next {w wr w1 : World} {X : Int} {seen : Array Nat} {e : MapEntry} (h : Rng w wr X seen) (h1 : w1 = wr ∨ w1 = wr.drew) (he : e ∈ wES.toList) (hne : e.val ≠ .int .u64 X) :
    Rng w (setBlock w1 (w.heap.size + 1) (.mapIter (some w.heap.size) 5 (seen.push e.born) 5)) X (seen.push e.born) := by
  obtain ⟨a, b, c⟩ := h.step h1 e
  have hh : w1.heap = wr.heap := by rcases h1 with rfl | rfl <;> rfl
  refine ⟨a, ?_, c, b, fun x hx hc => ?_⟩
  · show (w1.heap.setIfInBounds _ _).size = _
    rw [Array.size_setIfInBounds, hh, h.size]
  · rw [contains_push] at hc
    rcases Bool.or_eq_true _ _ ▸ hc with h1 | h1
    · exact h.no x hx h1
    · have : x = e := born_inj (l := wES.toList) (by decide) hx he (beq_iff_eq.1 h1)
      subst this; exact hne
/-- How many are left, of a world. -/
def rngLeft (N : Nat) (wr : World) : Nat := (leftOf wES (wr.iterSeen (N + 1))).size
theorem Rng.left {w wr : World} {X : Int} {seen : Array Nat} (h : Rng w wr X seen) : rngLeft w.heap.size wr = (leftOf wES seen).size := by
  unfold rngLeft World.iterSeen; rw [h.it]

set_option maxHeartbeats 1000000 in
theorem text_any (n : Nat) (w : World) (hn : n < 18446744073709551616) (ht : w.cell? ⟨6, 15, none⟩ = some (.int .u8 4)) (hN : 6 < w.heap.size) :
    Calls Tryd.prog 6 #[.float .f64 n] w fun e w' => e = .returned (.string (txt (cbits n))) ∧ Below w.heap.size w w' := by
  obtain ⟨b, hb⟩ : ∃ b, cbits n = b := ⟨_, rfl⟩
  obtain ⟨x, hx⟩ : ∃ x, ni b = x := ⟨_, rfl⟩
  have hX : Hid (x = (b : Int)) := hx.symm
  have hlt := cbits_lt hn
  rw [hb] at hlt ⊢
  have hx0 : 0 ≤ x := by rw [← hx]; unfold ni; omega
  have hx1 : x < 18446744073709551616 := by rw [← hx]; unfold ni; omega
  have hC : ∀ w, Calls Tryd.prog 19 #[.float .f64 n] w fun e w' => e = .returned (.int .u64 x) ∧ w' = w := fun w => by rw [← hx, ← hb]; exact canonBits_any _ w
  have hrg := run_range_map (P := Tryd.prog) (w.alloc (.map wES 5)) 42 9 22 w.heap.size wES 5 Tryd.underlying42 (heap_alloc_new w _)
  rw [show (w.alloc (.map wES 5)).heap.size = w.heap.size + 1 by simp] at hrg
  clear hx hb hlt
  go_enter Tryd.func6, Tryd.ntmps6
  go_wp2_with (first
    | (go_at_call 19; refine (hC _).mono ?_; rintro e w1 ⟨rfl, hw1⟩; replace hw1 := hw1.symm; subst hw1)
    | (go_at_call 20; refine (words_any _).mono ?_; rintro e w1 ⟨rfl, rfl⟩))
  go_loopw [4, 5] (fun _ _ wr => ∃ seen, Rng w wr x seen) (fun _ _ wr => rngLeft w.heap.size wr)
  case atStart => exact ⟨#[], Rng.start w x⟩
  case round =>
    obtain ⟨seen, hR⟩ := hrel
    rcases run_next_at (P := Tryd.prog) wr 0 (w.heap.size + 1) w.heap.size 5 5 seen wES 5 hR.it hR.tab (by decide) (Nat.le_refl _) with ⟨h0, hrun⟩ | ⟨e, he, w1, h1, hrun⟩
    · have hnx : ∀ ty, (Instr.next (.pointer (some ⟨w.heap.size + 1, 0, none⟩)) false ty).run Tryd.prog wr = _ := fun _ => hrun
      have HT : Hid (∀ _ : Unit, txt b = hexS b 16) := fun _ => txt_none (fun y hy => by have e1 := hX.out; rw [← e1]; exact hR.no y hy (all_seen wES seen h0 y hy))
      have ht2 : wr.cell? ⟨6, 15, none⟩ = some (.int .u8 4) := by rw [hR.below.cell (p := ⟨6, 15, none⟩) hN]; exact ht
      have hN2 : 6 < wr.heap.size := by rw [hR.size]; omega
      have HB : Hid (∀ _ : Unit, Below w.heap.size w wr) := fun _ => hR.below
      have HS : Hid (∀ _ : Unit, w.heap.size ≤ wr.heap.size) := fun _ => by rw [hR.size]; omega
      clear h0 hrun hR
      go_wp2_with (go_at_call 21; refine (fu_any b _ _ hX hx0 hx1 ht2 hN2).mono ?_; rintro e w2 ⟨⟨L, hL1, hL2, hL3, rfl⟩, hb2⟩; have HL : Hid (∀ _ : Unit, b < 16 ^ L) := fun _ => hL3; clear hL3; have hsz := hexS_size b L; obtain ⟨c, hc⟩ : ∃ c : Nat, (16 : Int) - (L : Int) = (c : Int) := ⟨16 - L, by omega⟩; have HC : Hid (∀ _ : Unit, c + L = 16) := fun _ => by omega)
      have hcat : ∀ W, (Op.stringOp .add (zeroS c) (hexS b L)).run Tryd.prog W = .ok (.string (hexS b 16)) W := fun W => by
        rw [run_string_add_sum W (zeroS c) (hexS b L) (by rw [zeroS_size, hexS_size]; have := HC (); omega), hex_pad b c L (HC ()) (HL ())]
      have HC2 : Hid (∀ _ : Unit, c ≤ 16) := fun _ => by have := HC (); omega
      clear hc hsz
      refine (zeros_any c _ (HC2 ())).mono ?_
      rintro e w3 ⟨rfl, hb3⟩
      go_wp2
      go_ret
      exact ⟨by rw [HT ()]; rfl, (HB ()).trans ((hb2.mono (HS ())).trans (hb3.mono (Nat.le_trans (HS ()) hb2.size)))⟩
    · have hel := (mem_left he).1
      obtain ⟨s, z, hk, hv, ht⟩ := entry_txt hel
      have hW : ∀ hne, Rng w (setBlock w1 (w.heap.size + 1) (.mapIter (some w.heap.size) 5 (seen.push e.born) 5)) x (seen.push e.born) := fun hne => hR.next h1 hel hne
      have HBW : Hid (∀ _ : Unit, Below w.heap.size w (setBlock w1 (w.heap.size + 1) (.mapIter (some w.heap.size) 5 (seen.push e.born) 5))) := fun _ => by
        exact (hR.step h1 e).1
      have hit := (hR.step h1 e).2.1
      have htb := (hR.step h1 e).2.2
      generalize setBlock w1 (w.heap.size + 1) (.mapIter (some w.heap.size) 5 (seen.push e.born) 5) = w2 at hW HBW hit htb hrun
      have hnx : ∀ ty, (Instr.next (.pointer (some ⟨w.heap.size + 1, 0, none⟩)) false ty).run Tryd.prog wr = _ := fun _ => hrun
      have hen := run_entry_at (P := Tryd.prog) w2 (w.heap.size + 1) w.heap.size 5 seen wES 5 e hit htb hel (by decide)
      rw [hk, hv] at hen hnx
      have HM : Hid (∀ _ : Unit, rngLeft w.heap.size w2 < rngLeft w.heap.size wr) := fun _ => by
        rw [hR.left]; unfold rngLeft World.iterSeen; rw [hit]; exact left_shrinks wES seen e he
      have HW : Hid (z ≠ x → Rng w w2 x (seen.push e.born)) := fun hne => hW (by rw [hv]; intro e2; injection e2 with _ e3; exact hne e3)
      have HZ : Hid (z = x → txt b = s) := fun hz => ht b (by rw [hz]; exact hX.out)
      clear hW hit htb hrun hv hk hR he hel
      by_cases hz : z = x
      · have hzz := HZ.out hz
        subst hz
        go_wp2
        go_ret
        exact ⟨rfl, HBW ()⟩
      · have hzb : (z == x) = false := by simpa using hz
        have hr2 := HW.out hz
        go_wp2
        go_roundw
        case rel => exact ⟨_, hr2⟩
        case measure => exact HM ()
end Go.Proofs.YtfcjdgjjicfheaaDoor
