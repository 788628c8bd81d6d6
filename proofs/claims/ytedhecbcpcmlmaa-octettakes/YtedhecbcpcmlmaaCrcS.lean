import Derived.Test.YtedhecbcpcmlmaaCrcW
import Derived.Test.YtedhecbcpcmlmaaRegion
namespace Go.Proofs.Ytedhecbcpcmlmaa
open Go.RowKit

def Parts (w : World) (sb : Nat) (ss : List ByteArray) : Prop := ∀ i : Nat, (h : i < ss.length) → w.cell? ⟨sb, i, none⟩ = some (.string ss[i]) ∧ ss[i].size ≤ maxLen

theorem TabAt.below {w w' : World} {b : Nat} (h : TabAt w b) (hb : b < w.heap.size) (hB : Below w.heap.size w w') : TabAt w' b := by
  intro i hi
  rw [hB.cell (p := ⟨b, i, none⟩) hb]; exact h i hi
theorem TabAt.of {w w' : World} {b : Nat} (h : Hid (TabAt w b)) (hb : b < w.heap.size) (hB : Below w.heap.size w w') : TabAt w' b := TabAt.below h.out hb hB
theorem TabAt.alloc {w : World} {b : Nat} (h : TabAt w b) (hb : b < w.heap.size) (o : Obj) : TabAt (w.alloc o) b :=
  h.below hb ((Below.refl _ _).alloc (Nat.le_refl _) _)
theorem _root_.Go.RowKit.Below.drewN {B : Nat} {a w : World} (h : Below B a w) (n : Nat) : Below B a (w.drewN n) := ⟨h.os, h.tape, h.output, h.size, h.block⟩
theorem parts_one {w : World} {s : ByteArray} (t : TypeId) (hs : s.size ≤ maxLen) : Parts (w.alloc (.cells #[.string s] t)) w.heap.size [s] := by
  intro i h
  have : i = 0 := by simp at h; omega
  subst this
  exact ⟨by rw [World.cell?_alloc_new]; rfl, hs⟩
theorem parts_three {w : World} {s1 s2 s3 : ByteArray} (t : TypeId) (h1 : s1.size ≤ maxLen) (h2 : s2.size ≤ maxLen) (h3 : s3.size ≤ maxLen) : Parts (w.alloc (.cells #[.string s1, .string s2, .string s3] t)) w.heap.size [s1, s2, s3] := by
  intro i h
  have : i = 0 ∨ i = 1 ∨ i = 2 := by simp at h; omega
  rcases this with rfl | rfl | rfl
  · exact ⟨by rw [World.cell?_alloc_new]; rfl, h1⟩
  · exact ⟨by rw [World.cell?_alloc_new]; rfl, h2⟩
  · exact ⟨by rw [World.cell?_alloc_new]; rfl, h3⟩
theorem TabAt.drewN {w : World} {b n : Nat} (h : TabAt w b) : TabAt (w.drewN n) b := h

set_option maxRecDepth 10000 in
set_option maxHeartbeats 400000 in
theorem sum_any (b sb cap : Nat) (ss : List ByteArray) (w : World) (ht : TabAt w b) (hl : ss.length ≤ 1000) (hp : Parts w sb ss) :
    Calls Try.prog 43 #[.pointer (some ⟨b, 0, none⟩), .slice (some ⟨sb, 0, none⟩) ss.length cap] w fun e w' => e = .returned (.int .u32 (Crc.sumAll 0 (ss.map fun s => s.data.toList) : Nat)) ∧ ∃ n, w' = w.drewN n := by
  go_enter Try.func43, Try.ntmps43
  go_wp2
  go_loopw [5, 10] (fun t i wr => ∃ k n : Nat, k ≤ ss.length ∧ i = .int .i64 k ∧ t = .int .u32 (Crc.sumAll 0 ((ss.take k).map fun s => s.data.toList) : Nat) ∧ wr = w.drewN n) (fun _ i _ => ss.length - (intOf i).toNat)
  case atStart => exact ⟨0, 0, by omega, rfl, rfl, rfl⟩
  case round =>
    obtain ⟨k, n, hk, rfl, rfl, rfl⟩ := hrel
    have hr := Crc.sumAll_lt ((ss.take k).map fun s => s.data.toList) (s := 0) (by omega)
    by_cases hlt : k < ss.length
    · obtain ⟨hcl, hsz⟩ := hp k hlt
      have Hn : Hid (Crc.sumAll 0 ((ss.take (k + 1)).map fun s => s.data.toList) = Crc.more (Crc.sumAll 0 ((ss.take k).map fun s => s.data.toList)) ss[k].data.toList) := by
        rw [List.take_succ_eq_append_getElem hlt, List.map_append]; exact Crc.sumAll_snoc _ _ _
      generalize Crc.sumAll 0 ((ss.take k).map fun s => s.data.toList) = m at *
      generalize ss[k] = sk at *
      have Ht : Hid (TabAt w b) := ht
      clear hp ht
      go_wp2_with fail
      refine (more_any b m sk _ hr hsz Ht.out.drewN).mono ?_
      rintro e w' ⟨rfl, n2, rfl⟩
      go_wp2
      go_round
      case rel => exact ⟨k + 1, _, by omega, by go_num, by rw [Hn.out], rfl⟩
      case measure => simp [intOf]; omega
    · have hk2 : k = ss.length := by omega
      subst hk2
      go_wp2
      go_ret
      exact ⟨ret_int (by rw [List.take_of_length_le (Nat.le_refl _)]), _, rfl⟩

set_option maxRecDepth 10000 in
set_option maxHeartbeats 400000 in
theorem sum_none (v : Value) (w : World) :
    Calls Try.prog 43 #[v, .slice none 0 0] w fun e w' => e = .returned (.int .u32 0) ∧ w' = w := by
  go_enter Try.func43, Try.ntmps43
  go_wp2
  go_loop [5, 10] (fun t i => t = .int .u32 0 ∧ i = .int .i64 0) (fun _ _ => 0)
  case atStart => exact ⟨rfl, rfl⟩
  case round =>
    obtain ⟨rfl, rfl⟩ := hrel
    go_wp2
    go_ret
    exact ⟨rfl, rfl⟩

theorem extract_all (s : ByteArray) (n : Nat) (h : s.size ≤ n) : s.extract 0 n = s := by
  apply ByteArray.ext
  simp [Array.extract_eq_self_of_le, h]

theorem cut_any (s : ByteArray) (n : Nat) (w : World) (_hs : s.size ≤ maxLen) :
    Calls Try.prog 14 #[.string s, .int .i64 (n : Int)] w fun e w' => e = .returned (.string (s.extract 0 n)) ∧ w' = w := by
  unfold maxLen at _hs
  by_cases h : n < s.size
  · go_enter Try.func14, Try.ntmps14
    go_wp2
    go_ret
    exact ⟨rfl, rfl⟩
  · rw [extract_all s n (by omega)]
    go_enter Try.func14, Try.ntmps14
    go_wp2
    go_ret
    exact ⟨rfl, rfl⟩

set_option maxRecDepth 10000 in
set_option maxHeartbeats 400000 in
theorem awake2_any (w : World) :
    Calls Try.prog 39 #[] w fun e w' => e = .returned (.bool true) ∧ Below w.heap.size w w' := by
  go_enter Try.func39, Try.ntmps39
  go_wp2_with fail
  refine (make_any w).mono ?_
  rintro e w1 ⟨b, rfl, hb1, hb2, hb, ht⟩
  have Ht : Hid (TabAt w1 b) := ht
  clear ht
  go_wp2_with fail
  refine (sum_any b w1.heap.size 1 [⟨#[49, 50, 51, 52, 53, 54, 55, 56, 57]⟩] _ (Ht.out.alloc hb2 _) (by decide) (parts_one _ (by decide))).mono ?_
  rintro e w2 ⟨rfl, n, rfl⟩
  have hk : Crc.sumAll 0 (List.map (fun s : ByteArray => s.data.toList) [⟨#[49, 50, 51, 52, 53, 54, 55, 56, 57]⟩]) = 3421780262 := Crc.check
  rw [hk]
  clear hk
  go_wp2_with fail
  refine (sum_none _ _).mono ?_
  rintro e w3 ⟨rfl, rfl⟩
  have hc := Ht.out 255 (by omega)
  have hc2 : (w1.alloc (Obj.cells #[Value.string { data := #[49, 50, 51, 52, 53, 54, 55, 56, 57] }] 9)).cell? ⟨b, 255, none⟩ = some (.int .u32 (Crc.tab 255 : Nat)) := Ht.out.alloc hb2 _ 255 (by omega)
  have hne : (((Crc.tab 255 : Nat) : Int) == 0) = false := by have := Crc.tab255; simp; omega
  generalize Crc.tab 255 = t at *
  go_wp2
  go_ret
  exact ⟨congrArg (fun x => Ending.returned (.bool x)) (by rw [bne, hne]; rfl), ((hb.trans ((Below.refl _ _).alloc (by have := hb.size; omega) _)).drewN _)⟩

theorem extract_size (s : ByteArray) (n : Nat) : (s.extract 0 n).size = min n s.size := by simp

theorem sum_one (b sb : Nat) (s : ByteArray) (z : Nat) (w : World) (ht : TabAt w b) (hs : s.size ≤ maxLen) (hz : Hid (Crc.more 0 s.data.toList = z)) (hc : w.cell? ⟨sb, 0, none⟩ = some (.string s)) :
    Calls Try.prog 43 #[.pointer (some ⟨b, 0, none⟩), .slice (some ⟨sb, 0, none⟩) 1 1] w fun e w' => e = .returned (.int .u32 (z : Int)) ∧ ∃ n, w' = w.drewN n := by
  have h := sum_any b sb 1 [s] w ht (by simp) (by
    intro i h
    have : i = 0 := by simp at h; omega
    subst this
    exact ⟨hc, hs⟩)
  rw [← hz.out]; exact h
theorem sum_three (b sb : Nat) (s1 s2 s3 : ByteArray) (z : Nat) (w : World) (ht : TabAt w b) (h1 : s1.size ≤ maxLen) (h2 : s2.size ≤ maxLen) (h3 : s3.size ≤ maxLen)
    (hz : Hid (Crc.more (Crc.more (Crc.more 0 s1.data.toList) s2.data.toList) s3.data.toList = z))
    (hc1 : w.cell? ⟨sb, 0, none⟩ = some (.string s1)) (hc2 : w.cell? ⟨sb, 1, none⟩ = some (.string s2)) (hc3 : w.cell? ⟨sb, 2, none⟩ = some (.string s3)) :
    Calls Try.prog 43 #[.pointer (some ⟨b, 0, none⟩), .slice (some ⟨sb, 0, none⟩) 3 3] w fun e w' => e = .returned (.int .u32 (z : Int)) ∧ ∃ n, w' = w.drewN n := by
  have h := sum_any b sb 3 [s1, s2, s3] w ht (by simp) (by
    intro i h
    have : i = 0 ∨ i = 1 ∨ i = 2 := by simp at h; omega
    rcases this with rfl | rfl | rfl
    · exact ⟨hc1, h1⟩
    · exact ⟨hc2, h2⟩
    · exact ⟨hc3, h3⟩)
  rw [← hz.out]; exact h
theorem more_to (b c : Nat) (s : ByteArray) (z : Nat) (w : World) (hc : c < 4294967296) (hs : s.size ≤ maxLen) (ht : TabAt w b) (hz : Hid (Crc.more c s.data.toList = z)) :
    Calls Try.prog 46 #[.pointer (some ⟨b, 0, none⟩), .int .u32 (c : Int), .string s] w fun e w' => e = .returned (.int .u32 (z : Int)) ∧ ∃ n, w' = w.drewN n := by
  rw [← hz.out]; exact more_any b c s w hc hs ht

theorem sum_of (b : Nat) (ss : List ByteArray) (z : Nat) (sv : Value) (w : World) (ht : TabAt w b) (hl : ss.length ≤ 1000) (hs : ∀ s ∈ ss, s.size ≤ maxLen) (hz : Hid (Crc.sumAll 0 (ss.map fun s => s.data.toList) = z))
    (hv : Reg.OwnSl (ss.map .string) sv w) :
    Calls Try.prog 43 #[.pointer (some ⟨b, 0, none⟩), sv] w fun e w' => e = .returned (.int .u32 (z : Int)) ∧ ∃ n, w' = w.drewN n := by
  obtain ⟨sb, rfl, _, hc⟩ := hv
  have h := sum_any b sb (ss.map Value.string).length ss w ht hl (by
    intro i h
    have := hc i (by simpa using h)
    simp at this
    exact ⟨this, hs _ (by simp)⟩)
  rw [← hz.out]
  simpa using h

theorem extract_list (t : ByteArray) (p q : Nat) : (t.extract p q).data.toList = (t.data.toList.drop p).take (q - p) := by
  simp [ByteArray.data_extract, List.extract_eq_take_drop]
theorem three_parts (t : ByteArray) (p q : Nat) (h : p ≤ q) : (t.extract 0 p).data.toList ++ (t.extract p q).data.toList ++ (t.extract q t.size).data.toList = t.data.toList := by
  rw [extract_list, extract_list, extract_list]
  have e3 : (t.data.toList.drop q).take (t.size - q) = t.data.toList.drop q := List.take_of_length_le (by simp)
  rw [e3, List.drop_zero, Nat.sub_zero]
  have e2 : t.data.toList.drop q = (t.data.toList.drop p).drop (q - p) := by rw [List.drop_drop]; congr 1; omega
  rw [e2, List.append_assoc, List.take_append_drop, List.take_append_drop]
theorem two_parts (t : ByteArray) (p : Nat) : (t.extract 0 p).data.toList ++ (t.extract p t.size).data.toList = t.data.toList := by
  rw [extract_list, extract_list]
  have e3 : (t.data.toList.drop p).take (t.size - p) = t.data.toList.drop p := List.take_of_length_le (by simp)
  rw [e3, List.drop_zero, Nat.sub_zero, List.take_append_drop]

end Go.Proofs.Ytedhecbcpcmlmaa
