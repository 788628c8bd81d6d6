/-
  Layer 3: Parse: contract.
-/
import Derived.Test.YtfcjdgjjicfheaaDoorPuAt
import Derived.Test.YtfcjdgjjicfheaaDoorPuLay
namespace Go.Proofs.YtfcjdgjjicfheaaDoor
open Go.RowKit

theorem bytes_ne {x y : ByteArray} (h : ¬ x = y) : (x.toList == y.toList) = false := by
  rcases hb : (x.toList == y.toList) with _ | _
  · rfl
  · exfalso
    have e := eq_of_beq hb
    rw [Lib.toList_data, Lib.toList_data] at e
    apply h
    apply ByteArray.ext
    exact Array.toList_inj.1 e
/-- What lies in the variables that the library's errors come from: an error, or none. -/
def IsErr (w : World) (g : Nat) : Prop := ∃ v, w.cell? ⟨g, 0, none⟩ = some v ∧ (v = .nilIface ∨ ∃ te pe, v = .iface te pe)
theorem IsErr.below {w w' : World} {g : Nat} (h : IsErr w g) (hb : Below w.heap.size w w') : IsErr w' g := by
  obtain ⟨v, h1, h2⟩ := h
  exact ⟨v, (hb.cell (show (⟨g, 0, none⟩ : Addr).block < w.heap.size from Lib.lt_of_cell h1)).trans h1, h2⟩
theorem pu_any (s : ByteArray) (hlim : s.size ≤ 281474976710656) (w : World) (h2 : IsErr w 2) (h3 : IsErr w 3) :
    Calls Tryd.prog 24 #[.string s, .int .i64 16, .int .i64 64] w fun e w' => PuEnd s w e w' := by
  obtain ⟨es, h21, h22⟩ := h2
  obtain ⟨er, h31, h32⟩ := h3
  exact pu16_any Tryd.laysPu14 s hlim w es er h21 h22 h31 h32

/-- The word's number in the table. -/
theorem find_words (s : ByteArray) : ∃ r, Instr.findNow .string (.string s) wES.toList 0 = some r ∧ ((wordB s = none ∧ r = none) ∨ ∃ b i, wordB s = some b ∧ r = some (i, .int .u64 (b : Nat))) := by
  have hk : ∀ x ∈ wES.toList, MapKept.IsKey .string x.key := by
    intro x hx
    simp only [wES, List.mem_cons, List.not_mem_nil, or_false] at hx
    rcases hx with rfl | rfl | rfl | rfl | rfl <;> simp [wE0, wE1, wE2, wE3, wE4, MapKept.IsKey]
  rcases MapKept.findNow_spec (d := .string) (k := .string s) (by simp [MapKept.IsKey]) wES.toList 0 hk with ⟨h1, h2⟩ | ⟨j, e, h1, h2, h3⟩
  · refine ⟨_, h1, .inl ⟨?_, rfl⟩⟩
    have hn : ∀ x ∈ wES.toList, x.key ≠ .string s := h2
    have n0 := hn wE0 (by simp [wES])
    have n1 := hn wE1 (by simp [wES])
    have n2 := hn wE2 (by simp [wES])
    have n3 := hn wE3 (by simp [wES])
    have n4 := hn wE4 (by simp [wES])
    unfold wordB
    rw [if_neg (fun e => n0 (by rw [e]; rfl)), if_neg (fun e => n1 (by rw [e]; rfl)), if_neg (fun e => n2 (by rw [e]; rfl)), if_neg (fun e => n3 (by rw [e]; rfl)), if_neg (fun e => n4 (by rw [e]; rfl))]
  · refine ⟨_, h1, .inr ?_⟩
    have hm : e ∈ wES.toList := List.mem_of_getElem? h2
    simp only [wES, List.mem_cons, List.not_mem_nil, or_false] at hm
    have q : ∀ (t : ByteArray) (b : Nat), e.key = .string t → e.val = .int .u64 (b : Nat) → wordB t = some b → ∃ b' i, wordB s = some b' ∧ some (0 + j, e.val) = some (i, Value.int .u64 (b' : Nat)) := by
      intro t b k1 k2 k3
      rw [h3] at k1
      injection k1 with k1
      subst k1
      exact ⟨b, 0 + j, k3, by rw [k2]⟩
    rcases hm with rfl | rfl | rfl | rfl | rfl
    · exact q _ 0 rfl rfl (by decide)
    · exact q _ 9223372036854775808 rfl rfl (by decide)
    · exact q _ 9218868437227405312 rfl rfl (by decide)
    · exact q _ 18442240474082181120 rfl rfl (by decide)
    · exact q _ 9221120237041090560 rfl rfl (by decide)
theorem look_words (w : World) (s : ByteArray) : (Instr.lookup 42 (.map (some w.heap.size)) (.string s) true).run Tryd.prog (w.alloc (.map wES 5)) = .ok (.tuple #[.int .u64 ((wordB s).getD 0 : Nat), .bool (wordB s).isSome]) (w.alloc (.map wES 5)) := by
  have hb : (w.alloc (.map wES 5)).heap[w.heap.size]? = some (.map wES 5) := heap_alloc_new w _
  have hc : (Instr.checkKey wES.isEmpty 10000 9 (.string s)).run Tryd.prog (w.alloc (.map wES 5)) = .ok () (w.alloc (.map wES 5)) := MapKept.run_checkKey (k := .string s) Tryd.underlying9 (by simp [MapKept.IsKey]) _ 9999
  have hz := Tryd.zeroValue22 (w.alloc (.map wES 5))
  obtain ⟨r, hf, hr⟩ := find_words s
  have hF : (Instr.findKey 9 (.string s) wES.toList).run Tryd.prog (w.alloc (.map wES 5)) = .ok r (w.alloc (.map wES 5)) := MapKept.run_findKey Tryd.underlying9 hf
  rcases hr with ⟨h1, rfl⟩ | ⟨b, i, h1, rfl⟩
  · rw [h1]
    simp [Instr.lookup, run_underlying Tryd.underlying42, MapKept.run_getObj_map hb, hc, hF, hz, Result.andThen]
  · rw [h1]
    simp [Instr.lookup, run_underlying Tryd.underlying42, MapKept.run_getObj_map hb, hc, hF, Result.andThen]

def PvEnd (s : ByteArray) (w : World) (e : Ending) (w' : World) : Prop :=
  Below w.heap.size w w' ∧ e = .returned (match pv s with
    | some b => .tuple #[.float .f64 b, .int .i64 0]
    | none => .tuple #[.float .f64 0, .int .i64 2])
set_option maxHeartbeats 1000000 in
set_option maxRecDepth 100000 in
theorem parse_any (s : ByteArray) (hlim : s.size ≤ 281474976710656) (w : World) (ht : w.cell? ⟨6, 15, none⟩ = some (.int .u8 4)) (hN : 6 < w.heap.size) (g2 : IsErr w 2) (g3 : IsErr w 3) :
    Calls Tryd.prog 8 #[.string s] w fun e w' => PvEnd s w e w' := by
  have B0 : Below w.heap.size w (w.alloc (.map wES 5)) := (Below.refl _ _).alloc (Nat.le_refl _) _
  have hl := look_words w s
  have G2 := Lib.hid (g2.below B0)
  have G3 := Lib.hid (g3.below B0)
  have HT := Lib.hid ((B0.cell (show (⟨6, 15, none⟩ : Addr).block < w.heap.size from hN)).trans ht)
  have HN := Lib.hid (Nat.lt_of_lt_of_le hN B0.size)
  clear g2 g3 ht hN
  rcases hw : wordB s with _ | b
  · have hpv : pv s = match pu16V s with | some u => if txt (cbits u) = s then some u else none | none => none := by unfold pv; rw [hw]; rfl
    rw [hw] at hl
    unfold PvEnd
    rw [hpv]
    have hl : (Instr.lookup 42 (.map (some w.heap.size)) (.string s) true).run Tryd.prog (w.alloc (.map wES 5)) = .ok (.tuple #[.int .u64 0, .bool false]) (w.alloc (.map wES 5)) := hl
    clear hw hpv
    rcases hp : pu16V s with _ | u
    · go_enter Tryd.func8, Tryd.ntmps8
      go_wp2_with (first
        | (go_at_call 20; refine (words_any _).mono ?_; rintro e w1 ⟨rfl, hw1⟩; subst hw1)
        | (go_at_call 24; refine (pu_any s hlim _ G2.out G3.out).mono ?_; intro e w2 hE; unfold PuEnd at hE; rw [hp] at hE; obtain ⟨hb, n, T, p, rfl⟩ := hE))
      go_ret2
      exact ⟨B0.trans (hb.mono B0.size), rfl⟩
    · have hu := pu16V_lt hp
      by_cases hx : txt (cbits u) = s
      · show Calls _ _ _ _ (fun e w' => Below w.heap.size w w' ∧ e = Ending.returned (match (if txt (cbits u) = s then some u else none) with | some b => .tuple #[.float .f64 b, .int .i64 0] | none => .tuple #[.float .f64 0, .int .i64 2]))
        rw [if_pos hx]
        have HX : ∀ w : World, w.cell? ⟨6, 15, none⟩ = some (.int .u8 4) → 6 < w.heap.size → Calls Tryd.prog 6 #[.float .f64 u] w fun e w' => e = .returned (.string s) ∧ Below w.heap.size w w' := fun w h1 h2 => by
          have := text_any u w hu h1 h2
          rw [hx] at this
          exact this
        clear hx
        have hfr := fun w => run_frombits (u : Int) w
        have hnf : nf (u : Int) = u := rfl
        rw [hnf] at hfr
        clear hnf
        go_enter Tryd.func8, Tryd.ntmps8
        go_wp2_with (first
          | (go_at_call 20; refine (words_any _).mono ?_; rintro e w1 ⟨rfl, hw1⟩; subst hw1)
          | (go_at_call 24; refine (pu_any s hlim _ G2.out G3.out).mono ?_; intro e w2 hE; unfold PuEnd at hE; rw [hp] at hE; obtain ⟨hb, rfl⟩ := hE)
          | (go_at_call 6; refine (HX _ ((hb.cell (show (⟨6, 15, none⟩ : Addr).block < _ from HN.out)).trans HT.out) (Nat.lt_of_lt_of_le HN.out hb.size)).mono ?_; rintro e w3 ⟨rfl, hb3⟩))
        go_ret2
        exact ⟨B0.trans ((hb.trans (hb3.mono hb.size)).mono B0.size), rfl⟩
      · show Calls _ _ _ _ (fun e w' => Below w.heap.size w w' ∧ e = Ending.returned (match (if txt (cbits u) = s then some u else none) with | some b => .tuple #[.float .f64 b, .int .i64 0] | none => .tuple #[.float .f64 0, .int .i64 2]))
        rw [if_neg hx]
        have HX := fun w h1 h2 => text_any u w hu h1 h2
        generalize txt (cbits u) = tx at hx HX
        have hbq : (tx.toList == s.toList) = false := bytes_ne hx
        have hfr := fun w => run_frombits (u : Int) w
        have hnf : nf (u : Int) = u := rfl
        rw [hnf] at hfr
        clear hnf
        go_enter Tryd.func8, Tryd.ntmps8
        go_wp2_with (first
          | (go_at_call 20; refine (words_any _).mono ?_; rintro e w1 ⟨rfl, hw1⟩; subst hw1)
          | (go_at_call 24; refine (pu_any s hlim _ G2.out G3.out).mono ?_; intro e w2 hE; unfold PuEnd at hE; rw [hp] at hE; obtain ⟨hb, rfl⟩ := hE)
          | (go_at_call 6; refine (HX _ ((hb.cell (show (⟨6, 15, none⟩ : Addr).block < _ from HN.out)).trans HT.out) (Nat.lt_of_lt_of_le HN.out hb.size)).mono ?_; rintro e w3 ⟨rfl, hb3⟩))
        go_ret2
        exact ⟨B0.trans ((hb.trans (hb3.mono hb.size)).mono B0.size), rfl⟩
  · have hpv : pv s = some b := by unfold pv; rw [hw]
    unfold PvEnd
    rw [hpv]
    rw [hw] at hl
    have hl : (Instr.lookup 42 (.map (some w.heap.size)) (.string s) true).run Tryd.prog (w.alloc (.map wES 5)) = .ok (.tuple #[.int .u64 (b : Nat), .bool true]) (w.alloc (.map wES 5)) := hl
    clear hw hpv
    have hfr := fun w => run_frombits (b : Int) w
    have hnf : nf (b : Int) = b := rfl
    rw [hnf] at hfr
    clear hnf
    go_enter Tryd.func8, Tryd.ntmps8
    go_wp2_with (go_at_call 20; refine (words_any _).mono ?_; rintro e w1 ⟨rfl, hw1⟩; subst hw1)
    go_ret2
    exact ⟨B0, rfl⟩
end Go.Proofs.YtfcjdgjjicfheaaDoor
