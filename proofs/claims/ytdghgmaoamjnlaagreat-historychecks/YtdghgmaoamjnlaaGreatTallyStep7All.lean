/-
  Layer 14: may calls have been written down: contract.
  Layer 7: a Tally's steps: contracts.
  Layer 7: a Tally's Sum: contract.
  Layer 7: a Tally's step, as a machine's: contract.
-/
import Derived.Test.YtdghgmaoamjnlaaGreatHi14g
import Derived.Test.YtdghgmaoamjnlaaGreatGhostAll
import Derived.StillTailTactics
import Derived.Test.YtdghgmaoamjnlaaGreatTailAll
namespace Go.Proofs.YtdghgmaoamjnlaaGreat
open Go.RowKit Go.Sort

/-- The last call of each thread, behind one more. -/
def dset (D : Nat → Option Cl) (c : Cl) : Nat → Option Cl := fun t => if (t : Int) = c.thread then some c else D t
/-- What a call is refused for. -/
def hstep (beg : Int) (D : Nat → Option Cl) (c : Cl) : Int :=
  if ¬ (0 ≤ c.thread ∧ c.thread < 6) then 4 else if c.beg < beg ∨ c.fin < -1 ∨ (0 ≤ c.fin ∧ c.fin < c.beg) ∨ fol c D = false then 14 else 0
def hchk : List Cl → Int → (Nat → Option Cl) → Int
  | [], _, _ => 0
  | c :: l, beg, D => if hstep beg D c = 0 then hchk l c.beg (dset D c) else hstep beg D c
theorem hstep4 {beg : Int} {D : Nat → Option Cl} {c : Cl} (h : ¬ (0 ≤ c.thread ∧ c.thread < 6)) : hstep beg D c = 4 := if_pos h
theorem hstep14 {beg : Int} {D : Nat → Option Cl} {c : Cl} (h : 0 ≤ c.thread ∧ c.thread < 6) (h2 : c.beg < beg ∨ c.fin < -1 ∨ (0 ≤ c.fin ∧ c.fin < c.beg) ∨ fol c D = false) : hstep beg D c = 14 := by unfold hstep; rw [if_neg (fun e => e h), if_pos h2]
theorem hstep0 {beg : Int} {D : Nat → Option Cl} {c : Cl} (h : 0 ≤ c.thread ∧ c.thread < 6) (h2 : ¬ (c.beg < beg ∨ c.fin < -1 ∨ (0 ≤ c.fin ∧ c.fin < c.beg) ∨ fol c D = false)) : hstep beg D c = 0 := by unfold hstep; rw [if_neg (fun e => e h), if_neg h2]
theorem hchk_stop {c : Cl} {l : List Cl} {beg : Int} {D : Nat → Option Cl} {e : Int} (h : hstep beg D c = e) (h0 : ¬ e = 0) : hchk (c :: l) beg D = e := by
  show (if hstep beg D c = 0 then _ else _) = _
  rw [h, if_neg h0]
theorem hchk_on {c : Cl} {l : List Cl} {beg : Int} {D : Nat → Option Cl} (h : hstep beg D c = 0) : hchk (c :: l) beg D = hchk l c.beg (dset D c) := by
  show (if hstep beg D c = 0 then _ else _) = _
  rw [h, if_pos rfl]
abbrev lastL (P : Nat → Option Addr) : List Value := [.pointer (P 0), .pointer (P 1), .pointer (P 2), .pointer (P 3), .pointer (P 4), .pointer (P 5)]
theorem lastL_get (P : Nat → Option Addr) (k : Nat) (hk : k < 6) : (lastL P)[k]? = some (.pointer (P k)) := by
  have : k = 0 ∨ k = 1 ∨ k = 2 ∨ k = 3 ∨ k = 4 ∨ k = 5 := by omega
  rcases this with rfl | rfl | rfl | rfl | rfl | rfl <;> rfl
theorem lastL_set (P : Nat → Option Addr) (k : Nat) (hk : k < 6) (x : Option Addr) : (lastL P).set k (.pointer x) = lastL (fun t => if t = k then x else P t) := by
  have : k = 0 ∨ k = 1 ∨ k = 2 ∨ k = 3 ∨ k = 4 ∨ k = 5 := by omega
  rcases this with rfl | rfl | rfl | rfl | rfl | rfl <;> rfl

set_option maxRecDepth 20000 in
set_option maxHeartbeats 8000000 in
theorem check14_any (L : List Cl) (a : Option Addr) (cap n : Nat) (w : World) (h : SlAt 12 w a cap n (flatCl L)) (hn : L.length = n) (hn1000 : n ≤ 1000) :
    Calls Tryz.prog 44 #[.slice a n cap] w fun e w' => e = .returned (.int .i64 (hchk L 0 (fun _ => none))) ∧ Below w.heap.size w w' := by
  have hsf := run_store_flt (P := Tryz.prog)
  obtain ⟨res, hres⟩ : ∃ res, hchk L 0 (fun _ => none) = res := ⟨_, rfl⟩
  rw [hres]
  obtain ⟨lb, hlb⟩ : ∃ lb, w.heap.size = lb := ⟨_, rfl⟩
  obtain ⟨W0, hW0⟩ : ∃ W0, w.alloc (.cells #[.pointer none, .pointer none, .pointer none, .pointer none, .pointer none, .pointer none] 43) = W0 := ⟨_, rfl⟩
  have hB0 := BoxAt.new w [.pointer none, .pointer none, .pointer none, .pointer none, .pointer none, .pointer none] 43
  rw [show w.alloc (.cells [.pointer none, .pointer none, .pointer none, .pointer none, .pointer none, .pointer none].toArray 43) = W0 from hW0, hlb] at hB0
  have hb0 : Below w.heap.size w W0 := by rw [← hW0]; exact (Below.refl _ _).alloc (Nat.le_refl _) _
  have hcap := h.le
  have HH := hidq (And.intro h (And.intro hn hlb))
  have HST := hidq (show BoxAt W0 lb (lastL (fun _ => none)) ∧ Below w.heap.size w W0 ∧ LastAt w (fun _ => none) (fun _ => none) ∧ hchk (L.drop 0) 0 (fun _ => none) = res from ⟨hB0, hb0, fun t ht => .inl ⟨rfl, rfl⟩, hres⟩)
  clear hB0 hb0 h hn hres
  go_enter Tryz.func44, Tryz.ntmps44
  go_wp2_with fail
  go_loopw [4, 9] (fun s4 s9 wr => ∃ (k : Nat) (b : Int) (P : Nat → Option Addr) (D : Nat → Option Cl), s4 = .int .i64 b ∧ s9 = .int .i64 (k : Int) ∧ k ≤ n ∧ Hid (BoxAt wr lb (lastL P) ∧ Below w.heap.size w wr ∧ LastAt w P D ∧ hchk (L.drop k) b D = res)) (fun _ s9 _ => n - (intOf s9).toNat)
  case atStart => exact ⟨0, 0, _, _, rfl, rfl, by omega, HST⟩
  case round =>
    obtain ⟨k, b, P, D, rfl, rfl, hk, hX⟩ := hrel
    clear HST
    by_cases hlt : k < n
    case neg =>
      have hkn : k = n := by omega
      have hd : decide ((k : Int) < (n : Int)) = false := decide_eq_false (by omega)
      have hd2 : decide (k < n) = false := decide_eq_false hlt
      have HE := hidq (show res = 0 ∧ Below w.heap.size w wr from by
        obtain ⟨h1, h2, h3, h4⟩ := hX.out
        rw [List.drop_of_length_le (by rw [HH.out.2.1]; omega)] at h4
        exact ⟨h4.symm, h2⟩)
      clear hX hkn
      go_wp2_with fail
      go_ret
      exact ⟨by rw [HE.out.1]; rfl, by first | exact HE.out.2 | (have h := HE.out.2; rw [HH.out.2.2] at h; exact h)⟩
    have hltI : (k : Int) < (n : Int) := by omega
    obtain ⟨h, hn, hlb⟩ := HH.out
    obtain ⟨hB, hbw, hLA, hres⟩ := hX.out
    obtain ⟨c, hc⟩ : ∃ c, L[k]? = some c := ⟨_, List.getElem?_eq_getElem (by omega)⟩
    have hdr : L.drop k = c :: L.drop (k + 1) := by
      obtain ⟨hl, he⟩ := List.getElem?_eq_some_iff.1 hc
      rw [List.drop_eq_getElem_cons hl, he]
    rw [hdr] at hres
    have hcell : ∀ j u, c.l[j]? = some u → ∃ g, a = some ⟨g, 0, none⟩ ∧ g < w.heap.size ∧ w.cell? ⟨g, k * 12 + j, none⟩ = some u := fun j u hu => by
      have hj : j < 12 := (List.getElem?_eq_some_iff.1 hu).1
      obtain ⟨g, h1, h2, h3⟩ := h.cell (t := k * 12 + j) (u := u) (by rw [flatCl_get L k j c hc hj]; exact hu)
      exact ⟨g, h1, h2, h3⟩
    obtain ⟨g, rfl, hgl, _⟩ := hcell 0 _ rfl
    have hrow : ∀ j u, c.l[j]? = some u → w.cell? ⟨g, k * 12 + j, none⟩ = some u := fun j u hu => by
      obtain ⟨g', h1, _, h3⟩ := hcell j u hu
      cases h1
      exact h3
    have hrr : ∀ j u, c.l[j]? = some u → wr.cell? ⟨g, k * 12 + j, none⟩ = some u := fun j u hu => by
      rw [hbw.cell (p := ⟨g, k * 12 + j, none⟩) hgl]; exact hrow j u hu
    have m0 : wr.cell? ⟨g, k * 12, none⟩ = some (.int .i64 c.thread) := hrr 0 _ rfl
    have m1 := hrr 1 _ rfl
    have m2 := hrr 2 _ rfl
    have m3 := hrr 3 _ rfl
    have m4 := hrr 4 _ rfl
    have m5 := hrr 5 _ rfl
    have m6 := hrr 6 _ rfl
    have m7 := hrr 7 _ rfl
    have m8 := hrr 8 _ rfl
    have m9 := hrr 9 _ rfl
    have m10 := hrr 10 _ rfl
    have m11 := hrr 11 _ rfl
    have hgr : g < wr.heap.size := Nat.lt_of_lt_of_le hgl hbw.size
    obtain ⟨xb, hxb⟩ : ∃ xb, wr.heap.size = xb := ⟨_, rfl⟩
    obtain ⟨W1, hW1⟩ : ∃ W1, wr.alloc (.cells #[.int .i64 c.thread, .int .i64 c.kind, .float .f64 c.pri, .int .i64 c.val, .int .i64 c.d0, .int .i64 c.d1, .int .i64 c.beg, .int .i64 c.fin, .bool c.ans.ok, .float .f64 c.ans.pri, .int .i64 c.ans.val, .int .i64 c.ans.n] 68) = W1 := ⟨_, rfl⟩
    have hX1 := BoxAt.new wr c.l 68
    rw [show wr.alloc (.cells c.l.toArray 68) = W1 from hW1, hxb] at hX1
    have hb1 : Below wr.heap.size wr W1 := by rw [← hW1]; exact (Below.refl _ _).alloc (Nat.le_refl _) _
    have hB1 := hB.below hb1
    have hbw1 := hbw.trans (hb1.mono hbw.size)
    have hlx : lb ≠ xb := by have := hB.lt; omega
    have hgx : g ≠ lb := by omega
    have HX1 := hidq (And.intro hX1 (And.intro hB1 (And.intro hbw1 (And.intro hlx hLA))))
    have HROW := hidq (And.intro hrow hgl)
    have HRES := hidq hres
    have hFol := hidq (fun W (hW : Below w.heap.size w W) => follows_any c P D W (hLA.below hW))
    have hDn := hidq (fun w => cdone_any c w)
    have x0 := (hX1.get 0 _ rfl).1
    have x6 := (hX1.get 6 _ rfl).1
    have x7 := (hX1.get 7 _ rfl).1
    have hxl := hX1.lt
    have HGX := hidq hgx
    clear h hn hB hbw hLA hres hc hdr hcell hrow hrr hb1 hB1 hbw1 hlx hX1 hgx hX
    have HSTOP := hidq (fun e (he : hstep b D c = e) (h0 : ¬ e = 0) => (show res = e from HRES.out.symm.trans (hchk_stop he h0)))
    by_cases ht0 : c.thread < 0
    · have HE := hidq (And.intro (HSTOP.out 4 (hstep4 (by omega)) (by decide)) HX1.out.2.2.1)
      clear HSTOP HRES
      go_wp2_with fail
      go_ret
      exact ⟨by rw [HE.out.1]; rfl, by first | exact HE.out.2 | (have h := HE.out.2; rw [HH.out.2.2] at h; exact h)⟩
    have d0 : decide (c.thread < 0) = false := decide_eq_false ht0
    by_cases ht6 : c.thread < 6
    case neg =>
      have d6 : decide (6 ≤ c.thread) = true := decide_eq_true (by omega)
      have HE := hidq (And.intro (HSTOP.out 4 (hstep4 (by omega)) (by decide)) HX1.out.2.2.1)
      clear HSTOP HRES
      go_wp2_with fail
      go_ret
      exact ⟨by rw [HE.out.1]; rfl, by first | exact HE.out.2 | (have h := HE.out.2; rw [HH.out.2.2] at h; exact h)⟩
    have d6 : decide (6 ≤ c.thread) = false := decide_eq_false (by omega)
    have HT := hidq (show 0 ≤ c.thread ∧ c.thread < 6 by omega)
    by_cases hA : c.beg < b
    · have HE := hidq (And.intro (HSTOP.out 14 (hstep14 HT.out (.inl hA)) (by decide)) HX1.out.2.2.1)
      clear HSTOP HRES
      go_wp2_with fail
      go_ret
      exact ⟨by rw [HE.out.1]; rfl, by first | exact HE.out.2 | (have h := HE.out.2; rw [HH.out.2.2] at h; exact h)⟩
    have dA : decide (c.beg < b) = false := decide_eq_false hA
    by_cases hB : c.fin < -1
    · have HE := hidq (And.intro (HSTOP.out 14 (hstep14 HT.out (.inr (.inl hB))) (by decide)) HX1.out.2.2.1)
      clear HSTOP HRES
      go_wp2_with fail
      go_ret
      exact ⟨by rw [HE.out.1]; rfl, by first | exact HE.out.2 | (have h := HE.out.2; rw [HH.out.2.2] at h; exact h)⟩
    have dB : decide (c.fin < -1) = false := decide_eq_false hB
    have hX1 := HX1.out.1
    have x0 := ((hX1).get 0 _ rfl).1
    have x1 := ((hX1).get 1 _ rfl).1
    have x2 := ((hX1).get 2 _ rfl).1
    have x3 := ((hX1).get 3 _ rfl).1
    have x4 := ((hX1).get 4 _ rfl).1
    have x5 := ((hX1).get 5 _ rfl).1
    have x6 := ((hX1).get 6 _ rfl).1
    have x7 := ((hX1).get 7 _ rfl).1
    have x8 := ((hX1).get 8 _ rfl).1
    have x9 := ((hX1).get 9 _ rfl).1
    have x10 := ((hX1).get 10 _ rfl).1
    have x11 := ((hX1).get 11 _ rfl).1
    have hxl := (hX1).lt
    have HF := hidq (And.intro hA hB)
    clear hX1 hA hB
    have HW := hidq (fun W (hW : Below W1.heap.size W1 W) => (show BoxAt W xb c.l ∧ BoxAt W lb (lastL P) ∧ Below w.heap.size w W from ⟨HX1.out.1.below hW, HX1.out.2.1.below hW, HX1.out.2.2.1.trans (hW.mono HX1.out.2.2.1.size)⟩))
    obtain ⟨dn, hdn⟩ : ∃ dn, c.done = dn := ⟨_, rfl⟩
    rw [hdn] at hDn
    have HDN := hidq hdn
    clear hdn
    cases dn with
    | false =>
      have HC := hidq (show ¬ (0 ≤ c.fin ∧ c.fin < c.beg) from fun e => by have := decide_eq_true e.1; rw [show decide (0 ≤ c.fin) = c.done from rfl, HDN.out] at this; cases this)
      go_wp2_with fail
      refine (hDn.out _).mono ?_
      rintro e w2 ⟨rfl, hb2⟩
      have hW2 := hidq hb2
      obtain ⟨hX2, hB2, _⟩ := HW.out _ hb2
      have x0 := ((hX2).get 0 _ rfl).1
      have x1 := ((hX2).get 1 _ rfl).1
      have x2 := ((hX2).get 2 _ rfl).1
      have x3 := ((hX2).get 3 _ rfl).1
      have x4 := ((hX2).get 4 _ rfl).1
      have x5 := ((hX2).get 5 _ rfl).1
      have x6 := ((hX2).get 6 _ rfl).1
      have x7 := ((hX2).get 7 _ rfl).1
      have x8 := ((hX2).get 8 _ rfl).1
      have x9 := ((hX2).get 9 _ rfl).1
      have x10 := ((hX2).get 10 _ rfl).1
      have x11 := ((hX2).get 11 _ rfl).1
      have hxl := (hX2).lt
      obtain ⟨l0, _⟩ := hB2.get 0 _ rfl
      obtain ⟨l1, _⟩ := hB2.get 1 _ rfl
      obtain ⟨l2, _⟩ := hB2.get 2 _ rfl
      obtain ⟨l3, _⟩ := hB2.get 3 _ rfl
      obtain ⟨l4, _⟩ := hB2.get 4 _ rfl
      obtain ⟨l5, _⟩ := hB2.get 5 _ rfl
      have hll := hB2.lt
      clear hX2 hB2 hb2
      obtain ⟨q, hq⟩ : ∃ q, fol c D = q := ⟨_, rfl⟩
      rw [hq] at hFol
      have HQ := hidq hq
      clear hq
      go_wp2_with fail
      refine (hFol.out _ (HW.out _ hW2.out).2.2).mono ?_
      rintro e w3 ⟨rfl, hb3⟩
      have hW3 := hidq (hW2.out.trans (hb3.mono hW2.out.size))
      clear hb3
      cases q with
      | false =>
        have HE := hidq (And.intro (HSTOP.out 14 (hstep14 HT.out (.inr (.inr (.inr HQ.out)))) (by decide)) (HW.out _ hW3.out).2.2)
        clear HSTOP HRES
        go_wp2_with fail
        go_ret
        exact ⟨by rw [HE.out.1]; rfl, by first | exact HE.out.2 | (have h := HE.out.2; rw [HH.out.2.2] at h; exact h)⟩
      | true =>
        have hs0 : hstep b D c = 0 := hstep0 HT.out (fun e => by
          rcases e with e | e | e | e
          · have h := HF.out.1; omega
          · have h := HF.out.2; omega
          · have h := HC.out; omega
          · rw [HQ.out] at e; cases e)
        have HNEXT := hidq (HRES.out.symm.trans (hchk_on hs0)).symm
        obtain ⟨hX3, hB3, hbw3⟩ := HW.out _ hW3.out
        have x0 := ((hX3).get 0 _ rfl).1
        have x6 := ((hX3).get 6 _ rfl).1
        have hxl := (hX3).lt
        obtain ⟨tn, htn⟩ : ∃ tn : Nat, c.thread = (tn : Int) := ⟨c.thread.toNat, by have := HT.out; omega⟩
        have htn6 : tn < 6 := by have := HT.out; omega
        obtain ⟨l0, y0⟩ := hB3.get tn _ (lastL_get P tn htn6)
        have hll := hB3.lt
        have HX3 := hidq (And.intro hB3 hbw3)
        have HTN := hidq htn
        rw [htn] at x0
        have htI : (tn : Int) < 6 := by omega
        clear hX3 hB3 hbw3 hs0 htn
        go_wp2_with fail
        go_region
        go_wp2_with fail
        obtain ⟨hB3, hbw3⟩ := HX3.out
        have htn := HTN.out
        refine ⟨⟨k + 1, c.beg, fun t => if t = tn then some ⟨g, k * 12, none⟩ else P t, dset D c, rfl, congrArg _ (by omega), by omega, ((hB3.set tn (.pointer (some ⟨g, k * 12, none⟩))).same (lastL_set P tn htn6 _)).drew, (hbw3.setCell (by show w.heap.size ≤ lb; have := HH.out.2.2; omega) _).drew, fun t ht => ?_, HNEXT.out⟩, by simp [intOf]; omega⟩
        by_cases et : t = tn
        · refine .inr ⟨g, k * 12, c, if_pos et, ?_, HROW.out.2, HROW.out.1⟩
          unfold dset; rw [if_pos (by omega)]
        · have h := HX1.out.2.2.2.2 t ht
          unfold dset
          dsimp only
          rw [if_neg et, if_neg (by omega)]
          exact h
    | true =>
      by_cases hC : c.fin < c.beg
      · have h0f : 0 ≤ c.fin := of_decide_eq_true (show decide (0 ≤ c.fin) = true from HDN.out)
        have HE0 := hidq (HSTOP.out 14 (hstep14 HT.out (.inr (.inr (.inl ⟨h0f, hC⟩)))) (by decide))
        go_wp2_with fail
        refine (hDn.out _).mono ?_
        rintro e w2 ⟨rfl, hb2⟩
        obtain ⟨hX2, hB2, hbw2⟩ := HW.out _ hb2
        have x0 := ((hX2).get 0 _ rfl).1
        have x1 := ((hX2).get 1 _ rfl).1
        have x2 := ((hX2).get 2 _ rfl).1
        have x3 := ((hX2).get 3 _ rfl).1
        have x4 := ((hX2).get 4 _ rfl).1
        have x5 := ((hX2).get 5 _ rfl).1
        have x6 := ((hX2).get 6 _ rfl).1
        have x7 := ((hX2).get 7 _ rfl).1
        have x8 := ((hX2).get 8 _ rfl).1
        have x9 := ((hX2).get 9 _ rfl).1
        have x10 := ((hX2).get 10 _ rfl).1
        have x11 := ((hX2).get 11 _ rfl).1
        have hxl := (hX2).lt
        have HE := hidq (And.intro HE0.out hbw2)
        clear HSTOP HRES hX2 hB2 hbw2 hb2
        go_wp2_with fail
        go_ret
        exact ⟨by rw [HE.out.1]; rfl, by first | exact HE.out.2 | (have h := HE.out.2; rw [HH.out.2.2] at h; exact h)⟩
      have dC : decide (c.fin < c.beg) = false := decide_eq_false hC
      have HC := hidq (show ¬ (0 ≤ c.fin ∧ c.fin < c.beg) from fun e => hC e.2)
      clear hC
      go_wp2_with fail
      refine (hDn.out _).mono ?_
      rintro e w2 ⟨rfl, hb2⟩
      have hW2 := hidq hb2
      obtain ⟨hX2, hB2, _⟩ := HW.out _ hb2
      have x0 := ((hX2).get 0 _ rfl).1
      have x1 := ((hX2).get 1 _ rfl).1
      have x2 := ((hX2).get 2 _ rfl).1
      have x3 := ((hX2).get 3 _ rfl).1
      have x4 := ((hX2).get 4 _ rfl).1
      have x5 := ((hX2).get 5 _ rfl).1
      have x6 := ((hX2).get 6 _ rfl).1
      have x7 := ((hX2).get 7 _ rfl).1
      have x8 := ((hX2).get 8 _ rfl).1
      have x9 := ((hX2).get 9 _ rfl).1
      have x10 := ((hX2).get 10 _ rfl).1
      have x11 := ((hX2).get 11 _ rfl).1
      have hxl := (hX2).lt
      obtain ⟨l0, _⟩ := hB2.get 0 _ rfl
      obtain ⟨l1, _⟩ := hB2.get 1 _ rfl
      obtain ⟨l2, _⟩ := hB2.get 2 _ rfl
      obtain ⟨l3, _⟩ := hB2.get 3 _ rfl
      obtain ⟨l4, _⟩ := hB2.get 4 _ rfl
      obtain ⟨l5, _⟩ := hB2.get 5 _ rfl
      have hll := hB2.lt
      clear hX2 hB2 hb2
      obtain ⟨q, hq⟩ : ∃ q, fol c D = q := ⟨_, rfl⟩
      rw [hq] at hFol
      have HQ := hidq hq
      clear hq
      go_wp2_with fail
      refine (hFol.out _ (HW.out _ hW2.out).2.2).mono ?_
      rintro e w3 ⟨rfl, hb3⟩
      have hW3 := hidq (hW2.out.trans (hb3.mono hW2.out.size))
      clear hb3
      cases q with
      | false =>
        have HE := hidq (And.intro (HSTOP.out 14 (hstep14 HT.out (.inr (.inr (.inr HQ.out)))) (by decide)) (HW.out _ hW3.out).2.2)
        clear HSTOP HRES
        go_wp2_with fail
        go_ret
        exact ⟨by rw [HE.out.1]; rfl, by first | exact HE.out.2 | (have h := HE.out.2; rw [HH.out.2.2] at h; exact h)⟩
      | true =>
        have hs0 : hstep b D c = 0 := hstep0 HT.out (fun e => by
          rcases e with e | e | e | e
          · have h := HF.out.1; omega
          · have h := HF.out.2; omega
          · have h := HC.out; omega
          · rw [HQ.out] at e; cases e)
        have HNEXT := hidq (HRES.out.symm.trans (hchk_on hs0)).symm
        obtain ⟨hX3, hB3, hbw3⟩ := HW.out _ hW3.out
        have x0 := ((hX3).get 0 _ rfl).1
        have x6 := ((hX3).get 6 _ rfl).1
        have hxl := (hX3).lt
        obtain ⟨tn, htn⟩ : ∃ tn : Nat, c.thread = (tn : Int) := ⟨c.thread.toNat, by have := HT.out; omega⟩
        have htn6 : tn < 6 := by have := HT.out; omega
        obtain ⟨l0, y0⟩ := hB3.get tn _ (lastL_get P tn htn6)
        have hll := hB3.lt
        have HX3 := hidq (And.intro hB3 hbw3)
        have HTN := hidq htn
        rw [htn] at x0
        have htI : (tn : Int) < 6 := by omega
        clear hX3 hB3 hbw3 hs0 htn
        go_wp2_with fail
        go_region
        go_wp2_with fail
        obtain ⟨hB3, hbw3⟩ := HX3.out
        have htn := HTN.out
        refine ⟨⟨k + 1, c.beg, fun t => if t = tn then some ⟨g, k * 12, none⟩ else P t, dset D c, rfl, congrArg _ (by omega), by omega, ((hB3.set tn (.pointer (some ⟨g, k * 12, none⟩))).same (lastL_set P tn htn6 _)).drew, (hbw3.setCell (by show w.heap.size ≤ lb; have := HH.out.2.2; omega) _).drew, fun t ht => ?_, HNEXT.out⟩, by simp [intOf]; omega⟩
        by_cases et : t = tn
        · refine .inr ⟨g, k * 12, c, if_pos et, ?_, HROW.out.2, HROW.out.1⟩
          unfold dset; rw [if_pos (by omega)]
        · have h := HX1.out.2.2.2.2 t ht
          unfold dset
          dsimp only
          rw [if_neg et, if_neg (by omega)]
          exact h
end Go.Proofs.YtdghgmaoamjnlaaGreat

namespace Go.Proofs.YtdghgmaoamjnlaaGreat
open Go.RowKit Go.Sort

set_option maxHeartbeats 2000000 in
theorem tadd_read (sh : Int) (w : World) (b fb : Nat) (O P : Nat → Prop) (M : Mem) (F : Fr) (h : MemAt w b O M) (hf : FrAt w fb P F) (hd : ∀ k, O k → ¬ P k) (hs : 1 ≤ sh ∧ sh ≤ 16) (hp : F.pc = 0) :
    Calls Tryz.prog 229 #[.agg #[.int .i64 sh], .pointer (some ⟨b, 0, none⟩), .pointer (some ⟨fb, 0, none⟩)] w
      (StepEnd b fb O P (M, { F with c0 := M.look (into F.d0 sh), pc := 1 }, Ans.zero, false) w) := by
  obtain ⟨a0, k0, a1, k1, hB, hS0, hS1, hi0, hi1⟩ := hf.box
  have hfl := hB.lt
  have hsf := run_store_flt (P := Tryz.prog)
  obtain ⟨c3, _⟩ := hB.get 3 _ rfl
  obtain ⟨c5, z5⟩ := hB.get 5 _ rfl
  obtain ⟨c11, z11⟩ := hB.get 11 _ rfl
  obtain ⟨c12, z12⟩ := hB.get 12 _ rfl
  obtain ⟨c13, z13⟩ := hB.get 13 _ rfl
  rw [hp] at c5
  have hI := fun w => into_any F.d0 sh w (by omega)
  have hR := hidq (fun W (hW : Below w.heap.size w W) => read5_any b O M (into F.d0 sh) W (h.below hW))
  have hO : ¬ O fb := fun e => hd _ e hf.ob
  have HH := hidq (And.intro h (And.intro hf hd))
  have HB := hidq (And.intro hB (And.intro hS0 (And.intro hS1 (And.intro hi0 hi1))))
  clear h hf hd hB hS0 hS1 hi0 hi1 hp
  generalize into F.d0 sh = at_ at *
  go_enter Tryz.func229, Tryz.ntmps229
  go_wp2_with fail
  go_quiet ((go_at_call 82; exact Calls.quiet_of_same (hI _)))
  go_wp2_with fail
  obtain ⟨W1, hW1, hb0, hsz0, _, hA0⟩ := two_new w [.int .i64 sh] Ans.zero.l 217 66 nq
  rw [show (((w.alloc (.cells #[.int .i64 sh] 217)).alloc (.cells #[.bool false, .float .f64 0, .int .i64 0, .int .i64 0] 66)).drewN nq) = W1 from hW1]
  clear hW1
  refine (hR.out _ hb0).mono ?_
  rintro e w2 ⟨a2, k2, rfl, hS2, hn2, hb2⟩
  have hb02 := hb0.trans (hb2.mono hb0.size)
  have hA2 := hA0.below hb2
  have hsz := hb2.size
  rw [hsz0] at hn2 hsz
  obtain ⟨HM, HF, HD⟩ := HH.out
  obtain ⟨hB, hS0, hS1, hi0, hi1⟩ := HB.out
  have hB2 := hB.below hb02
  have FIN := hidq (stepEnd_of (F' := { F with c0 := M.look at_, pc := 1 }) (A := Ans.zero) (d := false) [(11, .int .u64 (M.look at_).ver), (12, .int .i64 (M.look at_).n), (13, .slice a2 (M.look at_).L.length k2), (5, .int .i64 1)]
    (HM.below hb02) (Grown.refl O w w2) (But.of_below hb02) HF.ob hB2 rfl hA2 (by omega) (fun e => by have := HM.lt _ e; omega) hO (by omega) hS2 (fun j hj => by have := hn2 j hj; exact ⟨by omega, by omega, fun e => by have := HM.lt _ e; omega, .inr (by omega)⟩)
    (hS1.below hb02) (fun j hj => by have := HF.lt _ (hi1 j hj).1; exact ⟨(hi1 j hj).2, by omega, fun e => HD _ e (hi1 j hj).1, .inl (hi1 j hj).1⟩))
  obtain ⟨d5, y5⟩ := hB2.get 5 _ rfl
  obtain ⟨d11, y11⟩ := hB2.get 11 _ rfl
  obtain ⟨d12, y12⟩ := hB2.get 12 _ rfl
  obtain ⟨d13, y13⟩ := hB2.get 13 _ rfl
  obtain ⟨g0, x0⟩ := hA2.get 0 _ rfl
  obtain ⟨g1, x1⟩ := hA2.get 1 _ rfl
  obtain ⟨g2, x2⟩ := hA2.get 2 _ rfl
  obtain ⟨g3, x3⟩ := hA2.get 3 _ rfl
  have hfa : ¬ fb = w.heap.size + 1 := by omega
  clear hb02 hA2 hB2 HM HF HD hB hS0 hS1 hi0 hi1 hb2 hS2 hn2 hA0 HH HB hR hb0 c5 c11 c12 c13 z5 z11 z12 z13 hI
  go_wp2
  exact ret_ans Tryz.results229 FIN.out.1 rfl rfl rfl FIN.out.2

set_option maxRecDepth 20000 in
set_option maxHeartbeats 2000000 in
theorem tadd_write (sh : Int) (w : World) (b fb : Nat) (O P : Nat → Prop) (M : Mem) (F : Fr) (h : MemAt w b O M) (hf : FrAt w fb P F) (hd : ∀ k, O k → ¬ P k) (hs : 1 ≤ sh ∧ sh ≤ 16) (hp : F.pc ≠ 0) (hck : M.clock < 4611686018427387904) :
    Calls Tryz.prog 229 #[.agg #[.int .i64 sh], .pointer (some ⟨b, 0, none⟩), .pointer (some ⟨fb, 0, none⟩)] w
      (StepEnd b fb O P (M.write (into F.d0 sh) F.c0.ver (wrap64 (F.c0.n + F.val)) [], { F with pc := 0 }, ⟨M.can (into F.d0 sh) F.c0.ver, 0, 0, 0⟩, M.can (into F.d0 sh) F.c0.ver) w) := by
  obtain ⟨a0, k0, a1, k1, hB, hS0, hS1, hi0, hi1⟩ := hf.box
  have hfl := hB.lt
  have hsf := run_store_flt (P := Tryz.prog)
  have c2 := (hB.get 2 _ rfl).1
  have c3 := (hB.get 3 _ rfl).1
  obtain ⟨c5, z5⟩ := hB.get 5 _ rfl
  have c11 := (hB.get 11 _ rfl).1
  have c12 := (hB.get 12 _ rfl).1
  have hp0 : (F.pc == 0) = false := by simpa using hp
  have hI := fun w => into_any F.d0 sh w (by omega)
  have hO : ¬ O fb := fun e => hd _ e hf.ob
  generalize hat : into F.d0 sh = at_ at *
  have HH := hidq (And.intro h (And.intro hf hd))
  have HB := hidq (And.intro hB (And.intro hS0 (And.intro hS1 (And.intro hi0 hi1))))
  clear h hf hd hB hS0 hS1 hi0 hi1 hp hat
  go_enter Tryz.func229, Tryz.ntmps229
  go_wp2_with fail
  go_quiet ((go_at_call 82; exact Calls.quiet_of_same (hI _)))
  go_wp2_with fail
  obtain ⟨W1, hW1, hb0, hsz0, _, hA0⟩ := two_new w [.int .i64 sh] Ans.zero.l 217 66 nq
  rw [show (((w.alloc (.cells #[.int .i64 sh] 217)).alloc (.cells #[.bool false, .float .f64 0, .int .i64 0, .int .i64 0] 66)).drewN nq) = W1 from hW1]
  clear hW1
  obtain ⟨HM, HF, HD⟩ := HH.out
  obtain ⟨hB, hS0, hS1, hi0, hi1⟩ := HB.out
  have hB2 := (hB.below hb0).set 5 (.int .i64 0)
  have hbw : But (fun j => j = fb) W1 (W1.setCell ⟨fb, 5, none⟩ (.int .i64 0)) := (But.refl (fun j => j = fb) W1).set1 fb 5 rfl _
  have hA2 := hA0.but hbw (by omega)
  have hM2 := (HM.below hb0).but hbw (fun k hk e => hO (e ▸ hk))
  have hS12 := (hS1.below hb0).but hbw (fun j hj => (hi1 j hj).2)
  have hS02 := (hS0.below hb0).but hbw (fun j hj => (hi0 j hj).2)
  have hz2 : (W1.setCell ⟨fb, 5, none⟩ (.int .i64 0)).heap.size = w.heap.size + 2 := by rw [World.size_setCell]; exact hsz0
  have hbut2 : But (fun k => O k ∨ P k) w (W1.setCell ⟨fb, 5, none⟩ (.int .i64 0)) := (But.of_below hb0).then hbw (fun j _ e => .inr (e ▸ HF.ob))
  clear hbw
  generalize W1.setCell ⟨fb, 5, none⟩ (.int .i64 0) = W2 at *
  have hWr := hidq (write_any b O M at_ F.c0.ver (wrap64 (F.c0.n + F.val)) none 0 [] W2.drew (hM2.but (S := fun _ => False) (But.refl _ _).drew (fun _ _ e => e)) (SlAt.nil _ _) (fun j hj => by obtain ⟨y, hy, _⟩ := hj; cases hy) (Nat.zero_le _) hck)
  have FIN := hidq (fun w3 (hM3 : MemAt w3 b (own' O (W2.drew) w3) (M.write at_ F.c0.ver (wrap64 (F.c0.n + F.val)) [])) (hb3 : But O (W2.drew) w3) => (by
    have hb3' : But O W2 w3 := ⟨hb3.os, hb3.tape, hb3.output, hb3.size, hb3.block⟩
    have hz3 := hb3'.size
    have hn : ∀ j, P j → ¬ own' O (W2.drew) w3 j := fun j hj e => by
      have := HF.lt _ hj
      rcases e with e | e
      · exact HD _ e hj
      · have h1 : W2.heap.size ≤ j := e.1; omega
    exact stepEnd_of (w := w) (P := P) (F' := { F with pc := 0 }) (A := ⟨M.can at_ F.c0.ver, 0, 0, 0⟩) (d := M.can at_ F.c0.ver) [] hM3 (fun k hk => by
        rcases hk with hk | hk
        · exact .inl hk
        · exact .inr ⟨by have h1 : W2.heap.size ≤ k := hk.1; omega, hk.2⟩) (hbut2.then hb3' (fun j _ e => .inl e)) HF.ob (hB2.but hb3' hO) rfl (hA2.but hb3' (fun e => by have := HM.lt _ e; omega)) (by omega)
        (fun e => by rcases e with e | e; have := HM.lt _ e; omega; have h1 : W2.heap.size ≤ w.heap.size + 1 := e.1; omega) (hn _ HF.ob) (by omega)
        (hS02.but hb3' (fun j hj e => HD _ e (hi0 j hj).1)) (fun j hj => by have := HF.lt _ (hi0 j hj).1; exact ⟨(hi0 j hj).2, by omega, hn _ (hi0 j hj).1, .inl (hi0 j hj).1⟩)
        (hS12.but hb3' (fun j hj e => HD _ e (hi1 j hj).1)) (fun j hj => by have := HF.lt _ (hi1 j hj).1; exact ⟨(hi1 j hj).2, by omega, hn _ (hi1 j hj).1, .inl (hi1 j hj).1⟩)))
  have GA := hidq (fun w3 (hb3 : But O (W2.drew) w3) => hA2.but (show But O W2 w3 from ⟨hb3.os, hb3.tape, hb3.output, hb3.size, hb3.block⟩) (fun e => by have := HM.lt _ e; omega))
  have d2 := (hB2.get 2 _ rfl).1
  have d11 := (hB2.get 11 _ rfl).1
  have d12 := (hB2.get 12 _ rfl).1
  clear hb0 hA0 hB2 hA2 hM2 hS12 hS02 hbut2 HM HF HD hB hS0 hS1 hi0 hi1 HH HB hI c2 c3 c5 z5 c11 c12
  go_still_tail 19, (by kernel_rfl)
  generalize hcan : M.can at_ F.c0.ver = can at *
  go_wp2_with fail
  refine hWr.out.mono ?_
  rintro e w3 ⟨rfl, hM3, hb3⟩
  obtain ⟨e1, e2⟩ := FIN.out w3 hM3 hb3
  have hA3 := GA.out w3 hb3
  obtain ⟨g0, x0⟩ := hA3.get 0 _ rfl
  obtain ⟨g1, x1⟩ := hA3.get 1 _ rfl
  obtain ⟨g2, x2⟩ := hA3.get 2 _ rfl
  obtain ⟨g3, x3⟩ := hA3.get 3 _ rfl
  have E1 := hidq e1
  have E2 := hidq e2
  clear e1 e2 hA3 hM3 hb3 hWr FIN GA

  go_wp2
  exact ret_ans Tryz.results229 E1.out rfl rfl rfl E2.out
end Go.Proofs.YtdghgmaoamjnlaaGreat

namespace Go.Proofs.YtdghgmaoamjnlaaGreat
open Go.RowKit Go.Sort

def sum7R (b fb : Nat) (M : Mem) (F : Fr) : List (Value → World → Prop) :=
  [fun v _ => v = .pointer (some ⟨fb, 0, none⟩),
   fun v _ => v = .pointer (some ⟨fb, 0, none⟩),
   fun v _ => v = .pointer (some ⟨fb, 9, none⟩),
   fun v _ => v = .int .i64 F.total,
   fun v _ => v = .pointer (some ⟨b, 0, none⟩),
   fun v _ => v = .pointer (some ⟨fb, 0, none⟩),
   fun v _ => v = .pointer (some ⟨fb, 0, none⟩),
   fun v _ => v = .pointer (some ⟨fb, 6, none⟩),
   fun v _ => v = .int .i64 F.at_,
   fun v _ => ∃ a c, v = .agg #[.int .u64 (M.look F.at_).ver, .int .i64 (M.look F.at_).n, .slice a (M.look F.at_).L.length c],
   fun v _ => ∃ a c, v = .agg #[.int .i64 (M.look F.at_).n, .slice a (M.look F.at_).L.length c],
   fun v _ => v = .int .i64 (M.look F.at_).n,
   fun v _ => v = .int .i64 (wrap64 (F.total + (M.look F.at_).n))]
theorem sum7R_kept (b fb : Nat) (M : Mem) (F : Fr) : Reg.AllKept Reg.Keeps (sum7R b fb M F) :=
  ⟨(fun _ _ _ _ h => h), (fun _ _ _ _ h => h), (fun _ _ _ _ h => h), (fun _ _ _ _ h => h), (fun _ _ _ _ h => h), (fun _ _ _ _ h => h), (fun _ _ _ _ h => h), (fun _ _ _ _ h => h), (fun _ _ _ _ h => h), (fun _ _ _ _ h => h), (fun _ _ _ _ h => h), (fun _ _ _ _ h => h), (fun _ _ _ _ h => h), trivial⟩

/-- What a step of Sum does. -/
def sumR (sh : Int) (M : Mem) (F : Fr) : Mem × Fr × Ans × Bool :=
  if F.at_ + 1 < sh then (M, { F with total := wrap64 (F.total + (M.look F.at_).n), at_ := F.at_ + 1 }, Ans.zero, false)
  else (M, { F with total := wrap64 (F.total + (M.look F.at_).n), at_ := F.at_ + 1 }, ⟨true, 0, 0, wrap64 (F.total + (M.look F.at_).n)⟩, true)
theorem sumR_lt {sh : Int} {M : Mem} {F : Fr} (h : F.at_ + 1 < sh) : sumR sh M F = (M, { F with total := wrap64 (F.total + (M.look F.at_).n), at_ := F.at_ + 1 }, Ans.zero, false) := if_pos h
theorem sumR_ge {sh : Int} {M : Mem} {F : Fr} (h : ¬ F.at_ + 1 < sh) : sumR sh M F = (M, { F with total := wrap64 (F.total + (M.look F.at_).n), at_ := F.at_ + 1 }, ⟨true, 0, 0, wrap64 (F.total + (M.look F.at_).n)⟩, true) := if_neg h
set_option maxRecDepth 20000 in
set_option maxHeartbeats 4000000 in
theorem tsum_any (sh : Int) (w : World) (b fb : Nat) (O P : Nat → Prop) (M : Mem) (F : Fr) (h : MemAt w b O M) (hf : FrAt w fb P F) (hd : ∀ k, O k → ¬ P k) (hs : 1 ≤ sh ∧ sh ≤ 16) (hat : 0 ≤ F.at_ ∧ F.at_ < sh) :
    Calls Tryz.prog 230 #[.agg #[.int .i64 sh], .pointer (some ⟨b, 0, none⟩), .pointer (some ⟨fb, 0, none⟩)] w
      (StepEnd b fb O P (sumR sh M F) w) := by
  obtain ⟨a0, k0, a1, k1, hB, hS0, hS1, hi0, hi1⟩ := hf.box
  have hfl := hB.lt
  have hsf := run_store_flt (P := Tryz.prog)
  have hf0 := fldC_1
  have hf1 := fldV_0
  obtain ⟨c6, _⟩ := hB.get 6 _ rfl
  obtain ⟨c9, _⟩ := hB.get 9 _ rfl
  have hO : ¬ O fb := fun e => hd _ e hf.ob
  have HH := hidq (And.intro h (And.intro hf hd))
  have HB := hidq (And.intro hB (And.intro hS0 (And.intro hS1 (And.intro hi0 hi1))))
  go_enter Tryz.func230, Tryz.ntmps230
  go_wp2_with fail
  obtain ⟨W1, hW1, hb0, hsz0, hR0, hA0⟩ := two_new w [.int .i64 sh] Ans.zero.l 217 66 0
  rw [show ((w.alloc (.cells #[.int .i64 sh] 217)).alloc (.cells #[.bool false, .float .f64 0, .int .i64 0, .int .i64 0] 66)) = W1 from hW1]
  clear hW1
  have hR := hidq (fun W (hW : Below W1.heap.size W1 W) => read5_any b O M F.at_ W (h.below (hb0.trans (hW.mono hb0.size))))
  have FC := hidq (fun W (hW : Below W1.heap.size W1 W) => And.intro (((hb0.trans (hW.mono hb0.size)).cell (p := ⟨fb, 9, none⟩) hfl).trans c9) (((hb0.trans (hW.mono hb0.size)).cell (p := ⟨fb, 6, none⟩) hfl).trans c6))
  clear h hf hd hB hS0 hS1 hi0 hi1
  have hrefl : ∀ w : World, Reg.Keeps w w := Reg.Keeps.refl
  refine Reg.wp_region_props_tail 13 (Reg.ofList (sum7R b fb M F)) Reg.Keeps (fun _ w => Reg.Keeps W1 w) (by kernel_rfl) (by kernel_rfl) (by kernel_rfl) (Reg.AllKept.at _ (sum7R_kept b fb M F)) hrefl (Reg.Keeps.drewN (Reg.Keeps.refl _) 1) ⟨?_, ?_, ?_, ?_, ?_, ?_, ?_, ?_, ?_, ?_, ?_, ?_, ?_, trivial⟩ ?_
  · refine Reg.StepAt.plain (i := 0) rfl ?_
    intro L ev w hI hk hp hA
    have e2 : ev (.tmp 2) = .pointer (some ⟨fb, 0, none⟩) := hA.oldNone 2 (by kernel_rfl)
    have hcc := hA.const
    clear hA hp
    refine Reg.out_value (v := .pointer (some ⟨fb, 0, none⟩)) ?_ ⟨rfl, hrefl _, hI⟩
    go_simp
  · refine Reg.StepAt.plain (i := 1) rfl ?_
    intro L ev w hI hk hp hA
    have e8 : ev (.tmp 8) = .pointer (some ⟨fb, 0, none⟩) := hA.val 0 _ 8 rfl (hp ⟨0, .data⟩ (by simp) rfl) rfl
    have hcc := hA.const
    clear hA hp
    refine Reg.out_value (v := .pointer (some ⟨fb, 0, none⟩)) ?_ ⟨rfl, hrefl _, hI⟩
    go_simp
  · refine Reg.StepAt.plain (i := 2) rfl ?_
    intro L ev w hI hk hp hA
    have e9 : ev (.tmp 9) = .pointer (some ⟨fb, 0, none⟩) := hA.val 1 _ 9 rfl (hp ⟨1, .data⟩ (by simp) rfl) rfl
    have hcc := hA.const
    clear hA hp
    refine Reg.out_value (v := .pointer (some ⟨fb, 9, none⟩)) ?_ ⟨rfl, hrefl _, hI⟩
    go_simp
  · refine Reg.StepAt.plain (i := 3) rfl ?_
    intro L ev w hI hk hp hA
    have e10 : ev (.tmp 10) = .pointer (some ⟨fb, 9, none⟩) := hA.val 2 _ 10 rfl (hp ⟨2, .data⟩ (by simp) rfl) rfl
    have hcc := hA.const
    clear hA hp
    obtain ⟨f9, f6⟩ := FC.out w hI
    refine Reg.out_value (v := .int .i64 F.total) ?_ ⟨rfl, hrefl _, hI⟩
    go_simp
  · refine Reg.StepAt.plain (i := 4) rfl ?_
    intro L ev w hI hk hp hA
    have e1 : ev (.tmp 1) = .pointer (some ⟨b, 0, none⟩) := hA.oldNone 1 (by kernel_rfl)
    have hcc := hA.const
    clear hA hp
    refine Reg.out_value (v := .pointer (some ⟨b, 0, none⟩)) ?_ ⟨rfl, hrefl _, hI⟩
    go_simp
  · refine Reg.StepAt.plain (i := 5) rfl ?_
    intro L ev w hI hk hp hA
    have e2 : ev (.tmp 2) = .pointer (some ⟨fb, 0, none⟩) := hA.oldNone 2 (by kernel_rfl)
    have hcc := hA.const
    clear hA hp
    refine Reg.out_value (v := .pointer (some ⟨fb, 0, none⟩)) ?_ ⟨rfl, hrefl _, hI⟩
    go_simp
  · refine Reg.StepAt.plain (i := 6) rfl ?_
    intro L ev w hI hk hp hA
    have e13 : ev (.tmp 13) = .pointer (some ⟨fb, 0, none⟩) := hA.val 5 _ 13 rfl (hp ⟨5, .data⟩ (by simp) rfl) rfl
    have hcc := hA.const
    clear hA hp
    refine Reg.out_value (v := .pointer (some ⟨fb, 0, none⟩)) ?_ ⟨rfl, hrefl _, hI⟩
    go_simp
  · refine Reg.StepAt.plain (i := 7) rfl ?_
    intro L ev w hI hk hp hA
    have e14 : ev (.tmp 14) = .pointer (some ⟨fb, 0, none⟩) := hA.val 6 _ 14 rfl (hp ⟨6, .data⟩ (by simp) rfl) rfl
    have hcc := hA.const
    clear hA hp
    refine Reg.out_value (v := .pointer (some ⟨fb, 6, none⟩)) ?_ ⟨rfl, hrefl _, hI⟩
    go_simp
  · refine Reg.StepAt.plain (i := 8) rfl ?_
    intro L ev w hI hk hp hA
    have e15 : ev (.tmp 15) = .pointer (some ⟨fb, 6, none⟩) := hA.val 7 _ 15 rfl (hp ⟨7, .data⟩ (by simp) rfl) rfl
    have hcc := hA.const
    clear hA hp
    obtain ⟨f9, f6⟩ := FC.out w hI
    refine Reg.out_value (v := .int .i64 F.at_) ?_ ⟨rfl, hrefl _, hI⟩
    go_simp
  · refine Reg.StepAt.plain (i := 9) rfl ?_
    intro L ev w hI hk hp hA
    have e12 : ev (.tmp 12) = .pointer (some ⟨b, 0, none⟩) := hA.val 4 _ 12 rfl (hp ⟨4, .data⟩ (by simp) rfl) rfl
    have e16 : ev (.tmp 16) = .int .i64 F.at_ := hA.val 8 _ 16 rfl (hp ⟨8, .data⟩ (by simp) rfl) rfl
    have hcc := hA.const
    have hcf := hA.func
    clear hA hp
    refine Reg.out_call (f := 38) (args := #[.pointer (some ⟨b, 0, none⟩), .int .i64 F.at_]) (w0 := w) ?_ ?_
    · go_simp
    refine (hR.out w hI).mono ?_
    rintro e w' ⟨a', c', rfl, _, _, hb'⟩
    exact ⟨_, rfl, ⟨a', c', rfl⟩, hb', Reg.Keeps.trans hI hb'⟩
  · refine Reg.StepAt.plain (i := 10) rfl ?_
    intro L ev w hI hk hp hA
    have e17 : (fun v _ => ∃ a c, v = .agg #[.int .u64 (M.look F.at_).ver, .int .i64 (M.look F.at_).n, .slice a (M.look F.at_).L.length c]) (ev (.tmp 17)) w := hA.val 9 _ 17 rfl (hp ⟨9, .data⟩ (by simp) rfl) rfl
    have hcc := hA.const
    clear hA hp
    obtain ⟨a, c, e17⟩ := e17
    refine Reg.out_value (v := .agg #[.int .i64 (M.look F.at_).n, .slice a (M.look F.at_).L.length c]) ?_ ⟨⟨a, c, rfl⟩, hrefl _, hI⟩
    go_simp
  · refine Reg.StepAt.plain (i := 11) rfl ?_
    intro L ev w hI hk hp hA
    have e18 : (fun v _ => ∃ a c, v = .agg #[.int .i64 (M.look F.at_).n, .slice a (M.look F.at_).L.length c]) (ev (.tmp 18)) w := hA.val 10 _ 18 rfl (hp ⟨10, .data⟩ (by simp) rfl) rfl
    have hcc := hA.const
    clear hA hp
    obtain ⟨a, c, e18⟩ := e18
    refine Reg.out_value (v := .int .i64 (M.look F.at_).n) ?_ ⟨rfl, hrefl _, hI⟩
    go_simp
  · refine Reg.StepAt.plain (i := 12) rfl ?_
    intro L ev w hI hk hp hA
    have e11 : ev (.tmp 11) = .int .i64 F.total := hA.val 3 _ 11 rfl (hp ⟨3, .data⟩ (by simp) rfl) rfl
    have e19 : ev (.tmp 19) = .int .i64 (M.look F.at_).n := hA.val 11 _ 19 rfl (hp ⟨11, .data⟩ (by simp) rfl) rfl
    have hcc := hA.const
    clear hA hp
    refine Reg.out_value (v := .int .i64 (wrap64 (F.total + (M.look F.at_).n))) ?_ ⟨rfl, hrefl _, hI⟩
    (go_simp; unfold wrap64; exact IntKind.wrap_i64 _)
  intro act wz hI hF
  have g8 : act.eval (.tmp 8) = .pointer (some ⟨fb, 0, none⟩) := hF.val 0 _ 8 rfl (by kernel_rfl) rfl
  have g9 : act.eval (.tmp 9) = .pointer (some ⟨fb, 0, none⟩) := hF.val 1 _ 9 rfl (by kernel_rfl) rfl
  have g10 : act.eval (.tmp 10) = .pointer (some ⟨fb, 9, none⟩) := hF.val 2 _ 10 rfl (by kernel_rfl) rfl
  have g11 : act.eval (.tmp 11) = .int .i64 F.total := hF.val 3 _ 11 rfl (by kernel_rfl) rfl
  have g12 : act.eval (.tmp 12) = .pointer (some ⟨b, 0, none⟩) := hF.val 4 _ 12 rfl (by kernel_rfl) rfl
  have g13 : act.eval (.tmp 13) = .pointer (some ⟨fb, 0, none⟩) := hF.val 5 _ 13 rfl (by kernel_rfl) rfl
  have g14 : act.eval (.tmp 14) = .pointer (some ⟨fb, 0, none⟩) := hF.val 6 _ 14 rfl (by kernel_rfl) rfl
  have g15 : act.eval (.tmp 15) = .pointer (some ⟨fb, 6, none⟩) := hF.val 7 _ 15 rfl (by kernel_rfl) rfl
  have g16 : act.eval (.tmp 16) = .int .i64 F.at_ := hF.val 8 _ 16 rfl (by kernel_rfl) rfl
  have g17 : (fun v _ => ∃ a c, v = .agg #[.int .u64 (M.look F.at_).ver, .int .i64 (M.look F.at_).n, .slice a (M.look F.at_).L.length c]) (act.eval (.tmp 17)) wz := hF.val 9 _ 17 rfl (by kernel_rfl) rfl
  have g18 : (fun v _ => ∃ a c, v = .agg #[.int .i64 (M.look F.at_).n, .slice a (M.look F.at_).L.length c]) (act.eval (.tmp 18)) wz := hF.val 10 _ 18 rfl (by kernel_rfl) rfl
  have g19 : act.eval (.tmp 19) = .int .i64 (M.look F.at_).n := hF.val 11 _ 19 rfl (by kernel_rfl) rfl
  have g20 : act.eval (.tmp 20) = .int .i64 (wrap64 (F.total + (M.look F.at_).n)) := hF.val 12 _ 20 rfl (by kernel_rfl) rfl
  have hact := hF.actHead [8, 9, 10, 11, 12, 13, 14, 15, 16, 17, 18, 19, 20] (by kernel_rfl)
  clear hF
  simp only [List.foldl_cons, List.foldl_nil] at hact
  rw [g8, g9, g10, g11, g12, g13, g14, g15, g16, g19, g20] at hact
  clear g8 g9 g10 g11 g12 g13 g14 g15 g16 g19 g20
  generalize act.eval (.tmp 17) = u17 at hact g17
  generalize act.eval (.tmp 18) = u18 at hact g18
  simp only [List.setIfInBounds_toArray, List.set_cons_succ, List.set_cons_zero] at hact
  subst hact
  simp only [List.drop_succ_cons, List.drop_zero]
  have hb2 : Below w.heap.size w wz := hb0.trans (Below.mono hI hb0.size)
  have hA2 := hA0.below (show Below W1.heap.size W1 wz from hI)
  have hR2 := hR0.below (show Below W1.heap.size W1 wz from hI)
  have hsz : w.heap.size + 2 ≤ wz.heap.size := by have : W1.heap.size ≤ wz.heap.size := hI.size; omega
  obtain ⟨HM, HF, HD⟩ := HH.out
  obtain ⟨hB, hS0, hS1, hi0, hi1⟩ := HB.out
  have hB2 := hB.below hb2
  have FIN := hidq (fun (n : Nat) (A : Ans) (dn : Bool) => stepEnd_ofN n (F' := { F with total := wrap64 (F.total + (M.look F.at_).n), at_ := F.at_ + 1 }) (A := A) (d := dn) [(9, .int .i64 (wrap64 (F.total + (M.look F.at_).n))), (6, .int .i64 (F.at_ + 1))]
    (HM.below hb2) (Grown.refl O w wz) (But.of_below hb2) HF.ob hB2 rfl hA2 (by omega) (fun e => by have := HM.lt _ e; omega) hO (by omega)
    (hS0.below hb2) (fun j hj => by have := HF.lt _ (hi0 j hj).1; exact ⟨(hi0 j hj).2, by omega, fun e => HD _ e (hi0 j hj).1, .inl (hi0 j hj).1⟩)
    (hS1.below hb2) (fun j hj => by have := HF.lt _ (hi1 j hj).1; exact ⟨(hi1 j hj).2, by omega, fun e => HD _ e (hi1 j hj).1, .inl (hi1 j hj).1⟩))
  obtain ⟨d6, y6⟩ := hB2.get 6 _ rfl
  obtain ⟨d9, y9⟩ := hB2.get 9 _ rfl
  obtain ⟨g0, x0⟩ := hA2.get 0 _ rfl
  obtain ⟨g1, x1⟩ := hA2.get 1 _ rfl
  obtain ⟨g2, x2⟩ := hA2.get 2 _ rfl
  obtain ⟨g3, x3⟩ := hA2.get 3 _ rfl
  have r0 := (hR2.get 0 _ rfl).1
  have hfa : ¬ fb = w.heap.size + 1 := by omega
  have hfb : ¬ fb = w.heap.size := by omega
  clear hb2 hA2 hR2 hB2 HM HF HD hB hS0 hS1 hi0 hi1 hb0 hA0 HH HB hR FC hI c6 c9
  have hat2 : F.at_ < 9223372036854775807 := by omega
  by_cases hlt : F.at_ + 1 < sh
  · have HS := hidq (sumR_lt (M := M) hlt)
    generalize wrap64 (F.total + (M.look F.at_).n) = tot at *
    go_wp2
    go_quiet (fail)
    go_wp2
    exact ret_ans Tryz.results230 (FIN.out nq Ans.zero false).1 rfl rfl rfl (by rw [HS.out]; exact (FIN.out nq Ans.zero false).2)
  · have HS := hidq (sumR_ge (M := M) hlt)
    generalize wrap64 (F.total + (M.look F.at_).n) = tot at *
    have hdl : decide (F.at_ + 1 < sh) = false := decide_eq_false hlt
    go_wp2
    go_quiet (fail)
    go_wp2
    exact ret_ans Tryz.results230 (FIN.out nq ⟨true, 0, 0, tot⟩ true).1 rfl rfl rfl (by rw [HS.out]; exact (FIN.out nq ⟨true, 0, 0, tot⟩ true).2)
end Go.Proofs.YtdghgmaoamjnlaaGreat

namespace Go.Proofs.YtdghgmaoamjnlaaGreat
open Go.RowKit Go.Sort

/-- A Tally's step. -/
def tStep (sh : Int) : StepFn := fun M F =>
  if F.kind = 5 then
    if F.pc = 0 then (M, { F with c0 := M.look (into F.d0 sh), pc := 1 }, Ans.zero, false)
    else (M.write (into F.d0 sh) F.c0.ver (wrap64 (F.c0.n + F.val)) [], { F with pc := 0 }, ⟨M.can (into F.d0 sh) F.c0.ver, 0, 0, 0⟩, M.can (into F.d0 sh) F.c0.ver)
  else sumR sh M F
/-- What is asked of a frame. -/
def tGood (sh : Int) (_ : Mem) (F : Fr) : Prop := F.kind = 5 ∨ (F.kind = 6 ∧ 0 ≤ F.at_ ∧ F.at_ < sh)

theorem tadd_any (sh : Int) (w : World) (b fb : Nat) (O P : Nat → Prop) (M : Mem) (F : Fr) (h : MemAt w b O M) (hf : FrAt w fb P F) (hd : ∀ k, O k → ¬ P k) (hs : 1 ≤ sh ∧ sh ≤ 16) (hk : F.kind = 5) (hck : M.clock < 4611686018427387904) :
    Calls Tryz.prog 229 #[.agg #[.int .i64 sh], .pointer (some ⟨b, 0, none⟩), .pointer (some ⟨fb, 0, none⟩)] w (StepEnd b fb O P (tStep sh M F) w) := by
  unfold tStep
  rw [if_pos hk]
  by_cases hp : F.pc = 0
  · rw [if_pos hp]; exact tadd_read sh w b fb O P M F h hf hd hs hp
  · rw [if_neg hp]; exact tadd_write sh w b fb O P M F h hf hd hs hp hck

set_option maxHeartbeats 2000000 in
theorem tstep_is (sh : Int) (hs : 1 ≤ sh ∧ sh ≤ 16) : IsStep 228 (.agg #[.int .i64 sh]) (tGood sh) (tStep sh) := by
  intro w b fb O P M F h hf hd hg hck
  obtain ⟨a0, k0, a1, k1, hB, _⟩ := hf.box
  have hfl := hB.lt
  have hsf := run_store_flt (P := Tryz.prog)
  have c0 := (hB.get 0 _ rfl).1
  obtain ⟨W1, hW1, hb0, hsz0, hR0, hA0⟩ := two_new w [.int .i64 sh] Ans.zero.l 217 66 0
  have hW2 : (w.alloc (.cells #[.int .i64 sh] 217)).alloc (.cells #[.bool false, .float .f64 0, .int .i64 0, .int .i64 0] 66) = W1 := hW1
  clear hW1
  have r0 := (hR0.get 0 _ rfl).1
  have c01 := (hb0.cell (p := ⟨fb, 0, none⟩) hfl).trans c0
  have hM1 := h.below hb0
  have hf1 := hf.below hb0
  have FIN := hidq (fun e w2 (hE : StepEnd b fb O P (tStep sh M F) W1 e w2) => stepEnd_on hb0 h.lt hf.lt hE hA0 (Nat.le_succ _))
  have GA := hidq (fun w2 (hb : But (fun k => O k ∨ P k) W1 w2) => hA0.but hb (fun e => by
    rcases e with e | e
    · have := h.lt _ e; omega
    · have := hf.lt _ e; omega))
  rcases hg with hk | ⟨hk, hat⟩
  · have hC := hidq (tadd_any sh W1 b fb O P M F hM1 hf1 hd hs hk hck)
    rw [hk] at c0 c01
    clear h hf hd hB hb0 hR0 hA0 hM1 hf1 hk
    generalize tStep sh M F = r at *
    obtain ⟨M', F', A, d⟩ := r
    obtain ⟨aok, api, av, an⟩ := A
    go_enter Tryz.func228, Tryz.ntmps228
    go_wp2_with fail
    refine hC.out.mono ?_
    intro e w2 hE
    obtain ⟨e1, e2⟩ := FIN.out _ _ hE
    obtain ⟨rfl, _, _, _, _, _, _, _, hb2⟩ := hE
    have hA2 := GA.out _ hb2
    obtain ⟨g0, x0⟩ := hA2.get 0 _ rfl
    obtain ⟨g1, x1⟩ := hA2.get 1 _ rfl
    obtain ⟨g2, x2⟩ := hA2.get 2 _ rfl
    obtain ⟨g3, x3⟩ := hA2.get 3 _ rfl
    have E1 := hidq e1
    have E2 := hidq e2
    clear e1 e2 hA2 hb2 hC FIN GA hW2
    go_wp2
    exact ret_ans Tryz.results228 E1.out rfl rfl rfl E2.out
  · have hC := hidq (tsum_any sh W1 b fb O P M F hM1 hf1 hd hs hat)
    have hT : sumR sh M F = tStep sh M F := by unfold tStep; rw [if_neg (by omega)]
    rw [hT] at hC
    rw [hk] at c0 c01
    clear h hf hd hB hb0 hR0 hA0 hM1 hf1 hk hat hT
    generalize tStep sh M F = r at *
    obtain ⟨M', F', A, d⟩ := r
    obtain ⟨aok, api, av, an⟩ := A
    go_enter Tryz.func228, Tryz.ntmps228
    go_wp2_with fail
    refine hC.out.mono ?_
    intro e w2 hE
    obtain ⟨e1, e2⟩ := FIN.out _ _ hE
    obtain ⟨rfl, _, _, _, _, _, _, _, hb2⟩ := hE
    have hA2 := GA.out _ hb2
    obtain ⟨g0, x0⟩ := hA2.get 0 _ rfl
    obtain ⟨g1, x1⟩ := hA2.get 1 _ rfl
    obtain ⟨g2, x2⟩ := hA2.get 2 _ rfl
    obtain ⟨g3, x3⟩ := hA2.get 3 _ rfl
    have E1 := hidq e1
    have E2 := hidq e2
    clear e1 e2 hA2 hb2 hC FIN GA hW2
    go_wp2
    exact ret_ans Tryz.results228 E1.out rfl rfl rfl E2.out
end Go.Proofs.YtdghgmaoamjnlaaGreat
