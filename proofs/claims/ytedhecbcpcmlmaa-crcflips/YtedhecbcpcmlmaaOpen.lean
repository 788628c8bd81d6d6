/-
  Contract of crc's Open.
-/
import Derived.Test.YtedhecbcpcmlmaaSeal
namespace Go.Proofs.Ytedhecbcpcmlmaa
open Go.RowKit

theorem of_ex (s : ByteArray) (w : World) (hs : s.size ≤ maxLen) :
    Calls Try.prog 15 #[.string s] w fun e w' => ∃ bi, e = .returned (.pointer (some ⟨bi, 0, none⟩)) ∧ w.heap.size ≤ bi ∧ InAt w' bi s 0 ∧ Reg.Keeps w w' :=
  (of_any s w hs).mono fun _ _ ⟨h1, h2, h3⟩ => ⟨_, h1, Nat.le_refl _, h2, h3⟩
theorem TabAt.but {w w' : World} {b bi : Nat} (h : TabAt w b) (hb : b < w.heap.size) (hB : But bi w w') (hne : b ≠ bi) : TabAt w' b := by
  intro i hi
  rw [World.cell?_of_block (w := w) (a := ⟨b, i, none⟩) (hB.block b hb (fun e => hne (by injection e)))]; exact h i hi
theorem cell_but {w w' : World} {b i bi : Nat} {v : Value} (h : w.cell? ⟨b, i, none⟩ = some v) (hB : But bi w w') (hne : b ≠ bi) : w'.cell? ⟨b, i, none⟩ = some v := by
  rw [World.cell?_of_block (w := w) (a := ⟨b, i, none⟩) (hB.block b (World.block_lt_of_cell? _ _ h) (fun e => hne (by injection e)))]; exact h
theorem cell_keeps {w w' : World} {b i : Nat} {v : Value} (h : w.cell? ⟨b, i, none⟩ = some v) (hB : Reg.Keeps w w') : w'.cell? ⟨b, i, none⟩ = some v := by
  rw [hB.cell (p := ⟨b, i, none⟩) (World.block_lt_of_cell? _ _ h)]; exact h

theorem tab1 {w wo ww : World} {b bi : Nat} {o : Obj} (Ht : Hid (TabAt w b)) (hb : b < w.heap.size) (hbi : w.drew.heap.size ≤ bi) (hko : Reg.Keeps w.drew wo) (hbw : But bi wo ww) : TabAt (ww.alloc o) b := by
  have h1 : TabAt wo b := TabAt.below (w := w.drew) Ht.out hb hko
  have h2 : b < wo.heap.size := Nat.lt_of_lt_of_le hb hko.size
  have hbi' : w.heap.size ≤ bi := hbi
  exact (h1.but h2 hbw (by omega)).alloc (Nat.lt_of_lt_of_le h2 hbw.size) o
theorem tab2 {w wo ww : World} {b bi : Nat} {o : Obj} (Ht : Hid (TabAt w b)) (hb : b < w.heap.size) (hbi : w.drew.heap.size ≤ bi) (hko : Reg.Keeps w.drew wo) (hbw : But bi (wo.alloc o) ww) : TabAt ww b := by
  have h1 : TabAt wo b := TabAt.below (w := w.drew) Ht.out hb hko
  have h2 : b < wo.heap.size := Nat.lt_of_lt_of_le hb hko.size
  have hbi' : w.heap.size ≤ bi := hbi
  exact (h1.alloc h2 o).but (by simp; omega) hbw (by omega)
theorem tab3 {w wo ww : World} {b bi : Nat} {o : Obj} (Ht : Hid (TabAt w b)) (hb : b < w.heap.size) (hbi : (w.alloc o).drew.heap.size ≤ bi) (hko : Reg.Keeps (w.alloc o).drew wo) (hbw : But bi wo ww) : TabAt ww b := by
  have h0 : TabAt (w.alloc o).drew b := (Ht.out.alloc hb o : TabAt (w.alloc o) b)
  have h3 : b < (w.alloc o).drew.heap.size := by simp; omega
  have hbi' : w.heap.size + 1 ≤ bi := by simpa using hbi
  exact (h0.below h3 hko).but (Nat.lt_of_lt_of_le h3 hko.size) hbw (by omega)
theorem cel1 (ww : World) (v : Value) : (ww.alloc (.cells #[v] 9)).cell? ⟨ww.heap.size, 0, none⟩ = some v := by simp
theorem cel2 {wo ww : World} {bi : Nat} {v : Value} (hlt : bi < wo.heap.size) (hbw : But bi (wo.alloc (.cells #[v] 9)) ww) : ww.cell? ⟨wo.heap.size, 0, none⟩ = some v :=
  cell_but (cel1 wo v) hbw (by omega)
theorem cel3 {w wo ww : World} {bi : Nat} {v : Value} (hbi : (w.alloc (.cells #[v] 9)).drew.heap.size ≤ bi) (hko : Reg.Keeps (w.alloc (.cells #[v] 9)).drew wo) (hbw : But bi wo ww) : ww.cell? ⟨w.heap.size, 0, none⟩ = some v := by
  have hbi' : w.heap.size + 1 ≤ bi := by simpa using hbi
  exact cell_but (cell_keeps (w := (w.alloc (.cells #[v] 9)).drew) (cel1 w v) hko) hbw (by omega)
theorem fin1 {w wo ww : World} {bi : Nat} {o : Obj} (hbi : w.drew.heap.size ≤ bi) (hko : Reg.Keeps w.drew wo) (hbw : But bi wo ww) (n : Nat) : Below w.heap.size w ((ww.alloc o).drewN n) := by
  have h1 : Below w.heap.size w wo := Below.trans (Below.refl _ _).drew hko
  have h2 : Below w.heap.size w ww := h1.trans (hbw.below hbi h1.size)
  exact (h2.alloc h2.size o).drewN n
theorem fin2 {w wo ww : World} {bi : Nat} {o : Obj} (hbi : w.drew.heap.size ≤ bi) (hko : Reg.Keeps w.drew wo) (hbw : But bi (wo.alloc o) ww) (n : Nat) : Below w.heap.size w (ww.drewN n) := by
  have h1 : Below w.heap.size w wo := Below.trans (Below.refl _ _).drew hko
  have h2 : Below w.heap.size w (wo.alloc o) := h1.alloc h1.size o
  exact (h2.trans (hbw.below hbi h2.size)).drewN n
theorem fin3 {w wo ww : World} {bi : Nat} {o : Obj} (hbi : (w.alloc o).drew.heap.size ≤ bi) (hko : Reg.Keeps (w.alloc o).drew wo) (hbw : But bi wo ww) (n : Nat) : Below w.heap.size w (ww.drewN n) := by
  have hbi' : w.heap.size + 1 ≤ bi := by simpa using hbi
  have h0 : Below w.heap.size w (w.alloc o).drew := ((Below.refl _ _).alloc (Nat.le_refl _) o).drew
  have h1 : Below w.heap.size w wo := h0.trans (Below.mono hko h0.size)
  exact (h1.trans (hbw.below (by omega) h1.size)).drewN n

theorem pBytes_whole (s : ByteArray) (h : s.size = 4) : (pBytes s 0 4).1 = s := by
  unfold pBytes
  rw [if_neg (by omega), if_neg (by omega)]
  exact extract_all s 4 (by omega)

/-- What Open answers of a text of at least four bytes. -/
def openV (s : ByteArray) (k x z : Nat) : Value := if x = z then .tuple #[.string (s.extract 0 k), .int .i64 0] else .tuple #[.string ⟨#[]⟩, .int .i64 7]

set_option maxRecDepth 10000 in
set_option maxHeartbeats 1600000 in
theorem open_long (b : Nat) (s : ByteArray) (k : Nat) (x : Nat) (z : Nat) (w : World) (ht : TabAt w b) (hb : b < w.heap.size) (hs : s.size ≤ 549755813000) (hk : s.size = k + 4)
    (hx : Oct.leB (s.extract k s.size).data.toList = x) (hz : Crc.more 0 (s.extract 0 k).data.toList = z) :
    Calls Try.prog 41 #[.pointer (some ⟨b, 0, none⟩), .string s] w fun e w' => e = .returned (openV s k x z) ∧ Below w.heap.size w w' := by
  have Ht := hid ht
  have Hz := hid hz
  have l1 : (s.extract k s.size).size ≤ maxLen := by unfold maxLen; simp; omega
  have l2 : (s.extract 0 k).size ≤ maxLen := by unfold maxLen; simp; omega
  have hpb : (pBytes (s.extract k s.size) 0 4).1 = s.extract k s.size := pBytes_whole _ (by simp; omega)
  have Hx : Hid (Oct.leB (pBytes (s.extract k s.size) 0 4).1.data.toList = x) := by rw [hpb]; exact hx
  have hsk : (s.size : Int) - 4 = (k : Int) := by omega
  have i1 : (k : Int) ≤ (s.size : Int) := by omega
  have i2 : ¬ (s.size : Int) < 4 := by omega
  have hv1 : x = z → openV s k x z = .tuple #[.string (s.extract 0 k), .int .i64 0] := fun h => if_pos h
  have hv2 : x ≠ z → openV s k x z = .tuple #[.string ⟨#[]⟩, .int .i64 7] := fun h => if_neg h
  generalize openV s k x z = ov at *
  have Hv1 := hid hv1
  have Hv2 := hid hv2
  clear ht hz hx hpb hk hv1 hv2
  by_cases hxz : x = z
  · have HV := hid (Hv1.out hxz)
    subst hxz
    clear Hv1 Hv2
    go_enter Try.func41, Try.ntmps41
    go_wp2_with fail
    go_region_with (first
      | (go_at_call 15; refine (of_ex (s.extract k s.size) _ l1).mono ?_; rintro e wo ⟨bi, rfl, hbi, hio, hko⟩)
      | (go_at_call 30; refine (inWord_any bi (s.extract k s.size) 0 _ ?_).mono ?_; (focus (first | exact hio | exact hio.keeps ((Reg.Keeps.refl _).alloc _))); rw [Hx.out]; rintro e ww ⟨rfl, hiw, hbw⟩)
      | (go_at_call 43; refine (sum_one b _ (s.extract 0 k) x _ ?_ l2 Hz ?_).mono ?_; (focus (first | exact tab1 Ht hb hbi hko hbw | exact tab2 Ht hb hbi hko hbw | exact tab3 Ht hb hbi hko hbw)); (focus (first | exact cel1 ww _ | exact cel2 hio.lt hbw | exact cel3 hbi hko hbw)); rintro e w' ⟨rfl, n, rfl⟩))
    · go_wp2
      go_ret2
      exact ⟨by rw [HV.out]; rfl, fin1 hbi hko hbw n⟩
    · go_wp2
      go_ret2
      exact ⟨by rw [HV.out]; rfl, fin2 hbi hko hbw n⟩
    · go_wp2
      go_ret2
      exact ⟨by rw [HV.out]; rfl, fin3 hbi hko hbw n⟩
  · have HV := hid (Hv2.out hxz)
    have hne : ((x : Int) != (z : Int)) = true := by simp; omega
    clear Hv1 Hv2
    go_enter Try.func41, Try.ntmps41
    go_wp2_with fail
    go_region_with (first
      | (go_at_call 15; refine (of_ex (s.extract k s.size) _ l1).mono ?_; rintro e wo ⟨bi, rfl, hbi, hio, hko⟩)
      | (go_at_call 30; refine (inWord_any bi (s.extract k s.size) 0 _ ?_).mono ?_; (focus (first | exact hio | exact hio.keeps ((Reg.Keeps.refl _).alloc _))); rw [Hx.out]; rintro e ww ⟨rfl, hiw, hbw⟩)
      | (go_at_call 43; refine (sum_one b _ (s.extract 0 k) z _ ?_ l2 Hz ?_).mono ?_; (focus (first | exact tab1 Ht hb hbi hko hbw | exact tab2 Ht hb hbi hko hbw | exact tab3 Ht hb hbi hko hbw)); (focus (first | exact cel1 ww _ | exact cel2 hio.lt hbw | exact cel3 hbi hko hbw)); rintro e w' ⟨rfl, n, rfl⟩))
    · go_wp2
      go_ret2
      exact ⟨by rw [HV.out]; rfl, fin1 hbi hko hbw n⟩
    · go_wp2
      go_ret2
      exact ⟨by rw [HV.out]; rfl, fin2 hbi hko hbw n⟩
    · go_wp2
      go_ret2
      exact ⟨by rw [HV.out]; rfl, fin3 hbi hko hbw n⟩

set_option maxHeartbeats 400000 in
theorem open_short (b : Nat) (s : ByteArray) (w : World) (hs : s.size < 4) :
    Calls Try.prog 41 #[.pointer (some ⟨b, 0, none⟩), .string s] w fun e w' => e = .returned (.tuple #[.string ⟨#[]⟩, .int .i64 1]) ∧ w' = w := by
  have i2 : (s.size : Int) < 4 := by omega
  go_enter Try.func41, Try.ntmps41
  go_wp2
  go_ret2
  exact ⟨rfl, rfl⟩
end Go.Proofs.Ytedhecbcpcmlmaa
