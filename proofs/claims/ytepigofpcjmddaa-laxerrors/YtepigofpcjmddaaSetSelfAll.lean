/-
  Layer 14: may calls have been written down: contract.
  A store of what the cell holds already.
-/
import Derived.Test.YtepigofpcjmddaaHi14g
import Derived.Test.YtepigofpcjmddaaFrame6All
namespace Go.Proofs.Ytepigofpcjmddaa
open Go.RowKit Go.Sort

/-- The last call of each thread, behind one more. -/
def dset (D : Nat → Option Cl) (c : Cl) : Nat → Option Cl := fun t => if (t : Int) = c.thread then some c else D t
/-- What a call is refused for. -/
def hstep (beg : Int) (D : Nat → Option Cl) (c : Cl) : Int :=
  if ¬ (0 ≤ c.thread ∧ c.thread < 6) then 4 else if c.beg < beg ∨ c.fin < -1 ∨ (0 ≤ c.fin ∧ c.fin < c.beg) ∨ fol c D = false then 14 else 0
def hchk : List Cl → Int → (Nat → Option Cl) → Int
  | [], _, _ => 0
  | c :: l, beg, D => if hstep beg D c = 0 then hchk l c.beg (dset D c) else hstep beg D c
theorem hstep4 {beg : Int} {D : Nat → Option Cl} {c : Cl} (h : ¬ (0 ≤ c.thread ∧ c.thread < 6)) : hstep beg D c = 4 := if_pos h
theorem hstep14 {beg : Int} {D : Nat → Option Cl} {c : Cl} (h : 0 ≤ c.thread ∧ c.thread < 6) (h2 : c.beg < beg ∨ c.fin < -1 ∨ (0 ≤ c.fin ∧ c.fin < c.beg) ∨ fol c D = false) : hstep beg D c = 14 := by unfold hstep; rw [if_neg (fun e => e h), if_pos h2]
theorem hstep0 {beg : Int} {D : Nat → Option Cl} {c : Cl} (h : 0 ≤ c.thread ∧ c.thread < 6) (h2 : ¬ (c.beg < beg ∨ c.fin < -1 ∨ (0 ≤ c.fin ∧ c.fin < c.beg) ∨ fol c D = false)) : hstep beg D c = 0 := by unfold hstep; rw [if_neg (fun e => e h), if_neg h2]
theorem hchk_stop {c : Cl} {l : List Cl} {beg : Int} {D : Nat → Option Cl} {e : Int} (h : hstep beg D c = e) (h0 : ¬ e = 0) : hchk (c :: l) beg D = e := by
  show (if hstep beg D c = 0 then _ else _) = _
  rw [h, if_neg h0]
theorem hchk_on {c : Cl} {l : List Cl} {beg : Int} {D : Nat → Option Cl} (h : hstep beg D c = 0) : hchk (c :: l) beg D = hchk l c.beg (dset D c) := by
  show (if hstep beg D c = 0 then _ else _) = _
  rw [h, if_pos rfl]
abbrev lastL (P : Nat → Option Addr) : List Value := [.pointer (P 0), .pointer (P 1), .pointer (P 2), .pointer (P 3), .pointer (P 4), .pointer (P 5)]
theorem lastL_get (P : Nat → Option Addr) (k : Nat) (hk : k < 6) : (lastL P)[k]? = some (.pointer (P k)) := by
  have : k = 0 ∨ k = 1 ∨ k = 2 ∨ k = 3 ∨ k = 4 ∨ k = 5 := by omega
  rcases this with rfl | rfl | rfl | rfl | rfl | rfl <;> rfl
theorem lastL_set (P : Nat → Option Addr) (k : Nat) (hk : k < 6) (x : Option Addr) : (lastL P).set k (.pointer x) = lastL (fun t => if t = k then x else P t) := by
  have : k = 0 ∨ k = 1 ∨ k = 2 ∨ k = 3 ∨ k = 4 ∨ k = 5 := by omega
  rcases this with rfl | rfl | rfl | rfl | rfl | rfl <;> rfl

set_option maxRecDepth 20000 in
set_option maxHeartbeats 8000000 in
theorem check14_any (L : List Cl) (a : Option Addr) (cap n : Nat) (w : World) (h : SlAt 12 w a cap n (flatCl L)) (hn : L.length = n) (hn1000 : n ≤ 1000) :
    Calls Try.prog 78 #[.slice a n cap] w fun e w' => e = .returned (.int .i64 (hchk L 0 (fun _ => none))) ∧ Below w.heap.size w w' := by
  have hsf := run_store_flt (P := Try.prog)
  obtain ⟨res, hres⟩ : ∃ res, hchk L 0 (fun _ => none) = res := ⟨_, rfl⟩
  rw [hres]
  obtain ⟨lb, hlb⟩ : ∃ lb, w.heap.size = lb := ⟨_, rfl⟩
  obtain ⟨W0, hW0⟩ : ∃ W0, w.alloc (.cells #[.pointer none, .pointer none, .pointer none, .pointer none, .pointer none, .pointer none] 190) = W0 := ⟨_, rfl⟩
  have hB0 := BoxAt.new w [.pointer none, .pointer none, .pointer none, .pointer none, .pointer none, .pointer none] 190
  rw [show w.alloc (.cells [.pointer none, .pointer none, .pointer none, .pointer none, .pointer none, .pointer none].toArray 190) = W0 from hW0, hlb] at hB0
  have hb0 : Below w.heap.size w W0 := by rw [← hW0]; exact (Below.refl _ _).alloc (Nat.le_refl _) _
  have hcap := h.le
  have HH := hidq (And.intro h (And.intro hn hlb))
  have HST := hidq (show BoxAt W0 lb (lastL (fun _ => none)) ∧ Below w.heap.size w W0 ∧ LastAt w (fun _ => none) (fun _ => none) ∧ hchk (L.drop 0) 0 (fun _ => none) = res from ⟨hB0, hb0, fun t ht => .inl ⟨rfl, rfl⟩, hres⟩)
  clear hB0 hb0 h hn hres
  go_enter Try.func78, Try.ntmps78
  go_wp2_with fail
  go_loopw [4, 9] (fun s4 s9 wr => ∃ (k : Nat) (b : Int) (P : Nat → Option Addr) (D : Nat → Option Cl), s4 = .int .i64 b ∧ s9 = .int .i64 (k : Int) ∧ k ≤ n ∧ Hid (BoxAt wr lb (lastL P) ∧ Below w.heap.size w wr ∧ LastAt w P D ∧ hchk (L.drop k) b D = res)) (fun _ s9 _ => n - (intOf s9).toNat)
  case atStart => exact ⟨0, 0, _, _, rfl, rfl, by omega, HST⟩
  case round =>
    obtain ⟨k, b, P, D, rfl, rfl, hk, hX⟩ := hrel
    clear HST
    by_cases hlt : k < n
    case neg =>
      have hkn : k = n := by omega
      have hd : decide ((k : Int) < (n : Int)) = false := decide_eq_false (by omega)
      have hd2 : decide (k < n) = false := decide_eq_false hlt
      have HE := hidq (show res = 0 ∧ Below w.heap.size w wr from by
        obtain ⟨h1, h2, h3, h4⟩ := hX.out
        rw [List.drop_of_length_le (by rw [HH.out.2.1]; omega)] at h4
        exact ⟨h4.symm, h2⟩)
      clear hX hkn
      go_wp2_with fail
      go_ret
      exact ⟨by rw [HE.out.1]; rfl, by first | exact HE.out.2 | (have h := HE.out.2; rw [HH.out.2.2] at h; exact h)⟩
    have hltI : (k : Int) < (n : Int) := by omega
    obtain ⟨h, hn, hlb⟩ := HH.out
    obtain ⟨hB, hbw, hLA, hres⟩ := hX.out
    obtain ⟨c, hc⟩ : ∃ c, L[k]? = some c := ⟨_, List.getElem?_eq_getElem (by omega)⟩
    have hdr : L.drop k = c :: L.drop (k + 1) := by
      obtain ⟨hl, he⟩ := List.getElem?_eq_some_iff.1 hc
      rw [List.drop_eq_getElem_cons hl, he]
    rw [hdr] at hres
    have hcell : ∀ j u, c.l[j]? = some u → ∃ g, a = some ⟨g, 0, none⟩ ∧ g < w.heap.size ∧ w.cell? ⟨g, k * 12 + j, none⟩ = some u := fun j u hu => by
      have hj : j < 12 := (List.getElem?_eq_some_iff.1 hu).1
      obtain ⟨g, h1, h2, h3⟩ := h.cell (t := k * 12 + j) (u := u) (by rw [flatCl_get L k j c hc hj]; exact hu)
      exact ⟨g, h1, h2, h3⟩
    obtain ⟨g, rfl, hgl, _⟩ := hcell 0 _ rfl
    have hrow : ∀ j u, c.l[j]? = some u → w.cell? ⟨g, k * 12 + j, none⟩ = some u := fun j u hu => by
      obtain ⟨g', h1, _, h3⟩ := hcell j u hu
      cases h1
      exact h3
    have hrr : ∀ j u, c.l[j]? = some u → wr.cell? ⟨g, k * 12 + j, none⟩ = some u := fun j u hu => by
      rw [hbw.cell (p := ⟨g, k * 12 + j, none⟩) hgl]; exact hrow j u hu
    have m0 : wr.cell? ⟨g, k * 12, none⟩ = some (.int .i64 c.thread) := hrr 0 _ rfl
    have m1 := hrr 1 _ rfl
    have m2 := hrr 2 _ rfl
    have m3 := hrr 3 _ rfl
    have m4 := hrr 4 _ rfl
    have m5 := hrr 5 _ rfl
    have m6 := hrr 6 _ rfl
    have m7 := hrr 7 _ rfl
    have m8 := hrr 8 _ rfl
    have m9 := hrr 9 _ rfl
    have m10 := hrr 10 _ rfl
    have m11 := hrr 11 _ rfl
    have hgr : g < wr.heap.size := Nat.lt_of_lt_of_le hgl hbw.size
    obtain ⟨xb, hxb⟩ : ∃ xb, wr.heap.size = xb := ⟨_, rfl⟩
    obtain ⟨W1, hW1⟩ : ∃ W1, wr.alloc (.cells #[.int .i64 c.thread, .int .i64 c.kind, .float .f64 c.pri, .int .i64 c.val, .int .i64 c.d0, .int .i64 c.d1, .int .i64 c.beg, .int .i64 c.fin, .bool c.ans.ok, .float .f64 c.ans.pri, .int .i64 c.ans.val, .int .i64 c.ans.n] 101) = W1 := ⟨_, rfl⟩
    have hX1 := BoxAt.new wr c.l 101
    rw [show wr.alloc (.cells c.l.toArray 101) = W1 from hW1, hxb] at hX1
    have hb1 : Below wr.heap.size wr W1 := by rw [← hW1]; exact (Below.refl _ _).alloc (Nat.le_refl _) _
    have hB1 := hB.below hb1
    have hbw1 := hbw.trans (hb1.mono hbw.size)
    have hlx : lb ≠ xb := by have := hB.lt; omega
    have hgx : g ≠ lb := by omega
    have HX1 := hidq (And.intro hX1 (And.intro hB1 (And.intro hbw1 (And.intro hlx hLA))))
    have HROW := hidq (And.intro hrow hgl)
    have HRES := hidq hres
    have hFol := hidq (fun W (hW : Below w.heap.size w W) => follows_any c P D W (hLA.below hW))
    have hDn := hidq (fun w => cdone_any c w)
    have x0 := (hX1.get 0 _ rfl).1
    have x6 := (hX1.get 6 _ rfl).1
    have x7 := (hX1.get 7 _ rfl).1
    have hxl := hX1.lt
    have HGX := hidq hgx
    clear h hn hB hbw hLA hres hc hdr hcell hrow hrr hb1 hB1 hbw1 hlx hX1 hgx hX
    have HSTOP := hidq (fun e (he : hstep b D c = e) (h0 : ¬ e = 0) => (show res = e from HRES.out.symm.trans (hchk_stop he h0)))
    by_cases ht0 : c.thread < 0
    · have HE := hidq (And.intro (HSTOP.out 4 (hstep4 (by omega)) (by decide)) HX1.out.2.2.1)
      clear HSTOP HRES
      go_wp2_with fail
      go_ret
      exact ⟨by rw [HE.out.1]; rfl, by first | exact HE.out.2 | (have h := HE.out.2; rw [HH.out.2.2] at h; exact h)⟩
    have d0 : decide (c.thread < 0) = false := decide_eq_false ht0
    by_cases ht6 : c.thread < 6
    case neg =>
      have d6 : decide (6 ≤ c.thread) = true := decide_eq_true (by omega)
      have HE := hidq (And.intro (HSTOP.out 4 (hstep4 (by omega)) (by decide)) HX1.out.2.2.1)
      clear HSTOP HRES
      go_wp2_with fail
      go_ret
      exact ⟨by rw [HE.out.1]; rfl, by first | exact HE.out.2 | (have h := HE.out.2; rw [HH.out.2.2] at h; exact h)⟩
    have d6 : decide (6 ≤ c.thread) = false := decide_eq_false (by omega)
    have HT := hidq (show 0 ≤ c.thread ∧ c.thread < 6 by omega)
    by_cases hA : c.beg < b
    · have HE := hidq (And.intro (HSTOP.out 14 (hstep14 HT.out (.inl hA)) (by decide)) HX1.out.2.2.1)
      clear HSTOP HRES
      go_wp2_with fail
      go_ret
      exact ⟨by rw [HE.out.1]; rfl, by first | exact HE.out.2 | (have h := HE.out.2; rw [HH.out.2.2] at h; exact h)⟩
    have dA : decide (c.beg < b) = false := decide_eq_false hA
    by_cases hB : c.fin < -1
    · have HE := hidq (And.intro (HSTOP.out 14 (hstep14 HT.out (.inr (.inl hB))) (by decide)) HX1.out.2.2.1)
      clear HSTOP HRES
      go_wp2_with fail
      go_ret
      exact ⟨by rw [HE.out.1]; rfl, by first | exact HE.out.2 | (have h := HE.out.2; rw [HH.out.2.2] at h; exact h)⟩
    have dB : decide (c.fin < -1) = false := decide_eq_false hB
    have hX1 := HX1.out.1
    have x0 := ((hX1).get 0 _ rfl).1
    have x1 := ((hX1).get 1 _ rfl).1
    have x2 := ((hX1).get 2 _ rfl).1
    have x3 := ((hX1).get 3 _ rfl).1
    have x4 := ((hX1).get 4 _ rfl).1
    have x5 := ((hX1).get 5 _ rfl).1
    have x6 := ((hX1).get 6 _ rfl).1
    have x7 := ((hX1).get 7 _ rfl).1
    have x8 := ((hX1).get 8 _ rfl).1
    have x9 := ((hX1).get 9 _ rfl).1
    have x10 := ((hX1).get 10 _ rfl).1
    have x11 := ((hX1).get 11 _ rfl).1
    have hxl := (hX1).lt
    have HF := hidq (And.intro hA hB)
    clear hX1 hA hB
    have HW := hidq (fun W (hW : Below W1.heap.size W1 W) => (show BoxAt W xb c.l ∧ BoxAt W lb (lastL P) ∧ Below w.heap.size w W from ⟨HX1.out.1.below hW, HX1.out.2.1.below hW, HX1.out.2.2.1.trans (hW.mono HX1.out.2.2.1.size)⟩))
    obtain ⟨dn, hdn⟩ : ∃ dn, c.done = dn := ⟨_, rfl⟩
    rw [hdn] at hDn
    have HDN := hidq hdn
    clear hdn
    cases dn with
    | false =>
      have HC := hidq (show ¬ (0 ≤ c.fin ∧ c.fin < c.beg) from fun e => by have := decide_eq_true e.1; rw [show decide (0 ≤ c.fin) = c.done from rfl, HDN.out] at this; cases this)
      go_wp2_with fail
      refine (hDn.out _).mono ?_
      rintro e w2 ⟨rfl, hb2⟩
      have hW2 := hidq hb2
      obtain ⟨hX2, hB2, _⟩ := HW.out _ hb2
      have x0 := ((hX2).get 0 _ rfl).1
      have x1 := ((hX2).get 1 _ rfl).1
      have x2 := ((hX2).get 2 _ rfl).1
      have x3 := ((hX2).get 3 _ rfl).1
      have x4 := ((hX2).get 4 _ rfl).1
      have x5 := ((hX2).get 5 _ rfl).1
      have x6 := ((hX2).get 6 _ rfl).1
      have x7 := ((hX2).get 7 _ rfl).1
      have x8 := ((hX2).get 8 _ rfl).1
      have x9 := ((hX2).get 9 _ rfl).1
      have x10 := ((hX2).get 10 _ rfl).1
      have x11 := ((hX2).get 11 _ rfl).1
      have hxl := (hX2).lt
      obtain ⟨l0, _⟩ := hB2.get 0 _ rfl
      obtain ⟨l1, _⟩ := hB2.get 1 _ rfl
      obtain ⟨l2, _⟩ := hB2.get 2 _ rfl
      obtain ⟨l3, _⟩ := hB2.get 3 _ rfl
      obtain ⟨l4, _⟩ := hB2.get 4 _ rfl
      obtain ⟨l5, _⟩ := hB2.get 5 _ rfl
      have hll := hB2.lt
      clear hX2 hB2 hb2
      obtain ⟨q, hq⟩ : ∃ q, fol c D = q := ⟨_, rfl⟩
      rw [hq] at hFol
      have HQ := hidq hq
      clear hq
      go_wp2_with fail
      refine (hFol.out _ (HW.out _ hW2.out).2.2).mono ?_
      rintro e w3 ⟨rfl, hb3⟩
      have hW3 := hidq (hW2.out.trans (hb3.mono hW2.out.size))
      clear hb3
      cases q with
      | false =>
        have HE := hidq (And.intro (HSTOP.out 14 (hstep14 HT.out (.inr (.inr (.inr HQ.out)))) (by decide)) (HW.out _ hW3.out).2.2)
        clear HSTOP HRES
        go_wp2_with fail
        go_ret
        exact ⟨by rw [HE.out.1]; rfl, by first | exact HE.out.2 | (have h := HE.out.2; rw [HH.out.2.2] at h; exact h)⟩
      | true =>
        have hs0 : hstep b D c = 0 := hstep0 HT.out (fun e => by
          rcases e with e | e | e | e
          · have h := HF.out.1; omega
          · have h := HF.out.2; omega
          · have h := HC.out; omega
          · rw [HQ.out] at e; cases e)
        have HNEXT := hidq (HRES.out.symm.trans (hchk_on hs0)).symm
        obtain ⟨hX3, hB3, hbw3⟩ := HW.out _ hW3.out
        have x0 := ((hX3).get 0 _ rfl).1
        have x6 := ((hX3).get 6 _ rfl).1
        have hxl := (hX3).lt
        obtain ⟨tn, htn⟩ : ∃ tn : Nat, c.thread = (tn : Int) := ⟨c.thread.toNat, by have := HT.out; omega⟩
        have htn6 : tn < 6 := by have := HT.out; omega
        obtain ⟨l0, y0⟩ := hB3.get tn _ (lastL_get P tn htn6)
        have hll := hB3.lt
        have HX3 := hidq (And.intro hB3 hbw3)
        have HTN := hidq htn
        rw [htn] at x0
        have htI : (tn : Int) < 6 := by omega
        clear hX3 hB3 hbw3 hs0 htn
        go_wp2_with fail
        go_region
        go_wp2_with fail
        obtain ⟨hB3, hbw3⟩ := HX3.out
        have htn := HTN.out
        refine ⟨⟨k + 1, c.beg, fun t => if t = tn then some ⟨g, k * 12, none⟩ else P t, dset D c, rfl, congrArg _ (by omega), by omega, ((hB3.set tn (.pointer (some ⟨g, k * 12, none⟩))).same (lastL_set P tn htn6 _)).drew, (hbw3.setCell (by show w.heap.size ≤ lb; have := HH.out.2.2; omega) _).drew, fun t ht => ?_, HNEXT.out⟩, by simp [intOf]; omega⟩
        by_cases et : t = tn
        · refine .inr ⟨g, k * 12, c, if_pos et, ?_, HROW.out.2, HROW.out.1⟩
          unfold dset; rw [if_pos (by omega)]
        · have h := HX1.out.2.2.2.2 t ht
          unfold dset
          dsimp only
          rw [if_neg et, if_neg (by omega)]
          exact h
    | true =>
      by_cases hC : c.fin < c.beg
      · have h0f : 0 ≤ c.fin := of_decide_eq_true (show decide (0 ≤ c.fin) = true from HDN.out)
        have HE0 := hidq (HSTOP.out 14 (hstep14 HT.out (.inr (.inr (.inl ⟨h0f, hC⟩)))) (by decide))
        go_wp2_with fail
        refine (hDn.out _).mono ?_
        rintro e w2 ⟨rfl, hb2⟩
        obtain ⟨hX2, hB2, hbw2⟩ := HW.out _ hb2
        have x0 := ((hX2).get 0 _ rfl).1
        have x1 := ((hX2).get 1 _ rfl).1
        have x2 := ((hX2).get 2 _ rfl).1
        have x3 := ((hX2).get 3 _ rfl).1
        have x4 := ((hX2).get 4 _ rfl).1
        have x5 := ((hX2).get 5 _ rfl).1
        have x6 := ((hX2).get 6 _ rfl).1
        have x7 := ((hX2).get 7 _ rfl).1
        have x8 := ((hX2).get 8 _ rfl).1
        have x9 := ((hX2).get 9 _ rfl).1
        have x10 := ((hX2).get 10 _ rfl).1
        have x11 := ((hX2).get 11 _ rfl).1
        have hxl := (hX2).lt
        have HE := hidq (And.intro HE0.out hbw2)
        clear HSTOP HRES hX2 hB2 hbw2 hb2
        go_wp2_with fail
        go_ret
        exact ⟨by rw [HE.out.1]; rfl, by first | exact HE.out.2 | (have h := HE.out.2; rw [HH.out.2.2] at h; exact h)⟩
      have dC : decide (c.fin < c.beg) = false := decide_eq_false hC
      have HC := hidq (show ¬ (0 ≤ c.fin ∧ c.fin < c.beg) from fun e => hC e.2)
      clear hC
      go_wp2_with fail
      refine (hDn.out _).mono ?_
      rintro e w2 ⟨rfl, hb2⟩
      have hW2 := hidq hb2
      obtain ⟨hX2, hB2, _⟩ := HW.out _ hb2
      have x0 := ((hX2).get 0 _ rfl).1
      have x1 := ((hX2).get 1 _ rfl).1
      have x2 := ((hX2).get 2 _ rfl).1
      have x3 := ((hX2).get 3 _ rfl).1
      have x4 := ((hX2).get 4 _ rfl).1
      have x5 := ((hX2).get 5 _ rfl).1
      have x6 := ((hX2).get 6 _ rfl).1
      have x7 := ((hX2).get 7 _ rfl).1
      have x8 := ((hX2).get 8 _ rfl).1
      have x9 := ((hX2).get 9 _ rfl).1
      have x10 := ((hX2).get 10 _ rfl).1
      have x11 := ((hX2).get 11 _ rfl).1
      have hxl := (hX2).lt
      obtain ⟨l0, _⟩ := hB2.get 0 _ rfl
      obtain ⟨l1, _⟩ := hB2.get 1 _ rfl
      obtain ⟨l2, _⟩ := hB2.get 2 _ rfl
      obtain ⟨l3, _⟩ := hB2.get 3 _ rfl
      obtain ⟨l4, _⟩ := hB2.get 4 _ rfl
      obtain ⟨l5, _⟩ := hB2.get 5 _ rfl
      have hll := hB2.lt
      clear hX2 hB2 hb2
      obtain ⟨q, hq⟩ : ∃ q, fol c D = q := ⟨_, rfl⟩
      rw [hq] at hFol
      have HQ := hidq hq
      clear hq
      go_wp2_with fail
      refine (hFol.out _ (HW.out _ hW2.out).2.2).mono ?_
      rintro e w3 ⟨rfl, hb3⟩
      have hW3 := hidq (hW2.out.trans (hb3.mono hW2.out.size))
      clear hb3
      cases q with
      | false =>
        have HE := hidq (And.intro (HSTOP.out 14 (hstep14 HT.out (.inr (.inr (.inr HQ.out)))) (by decide)) (HW.out _ hW3.out).2.2)
        clear HSTOP HRES
        go_wp2_with fail
        go_ret
        exact ⟨by rw [HE.out.1]; rfl, by first | exact HE.out.2 | (have h := HE.out.2; rw [HH.out.2.2] at h; exact h)⟩
      | true =>
        have hs0 : hstep b D c = 0 := hstep0 HT.out (fun e => by
          rcases e with e | e | e | e
          · have h := HF.out.1; omega
          · have h := HF.out.2; omega
          · have h := HC.out; omega
          · rw [HQ.out] at e; cases e)
        have HNEXT := hidq (HRES.out.symm.trans (hchk_on hs0)).symm
        obtain ⟨hX3, hB3, hbw3⟩ := HW.out _ hW3.out
        have x0 := ((hX3).get 0 _ rfl).1
        have x6 := ((hX3).get 6 _ rfl).1
        have hxl := (hX3).lt
        obtain ⟨tn, htn⟩ : ∃ tn : Nat, c.thread = (tn : Int) := ⟨c.thread.toNat, by have := HT.out; omega⟩
        have htn6 : tn < 6 := by have := HT.out; omega
        obtain ⟨l0, y0⟩ := hB3.get tn _ (lastL_get P tn htn6)
        have hll := hB3.lt
        have HX3 := hidq (And.intro hB3 hbw3)
        have HTN := hidq htn
        rw [htn] at x0
        have htI : (tn : Int) < 6 := by omega
        clear hX3 hB3 hbw3 hs0 htn
        go_wp2_with fail
        go_region
        go_wp2_with fail
        obtain ⟨hB3, hbw3⟩ := HX3.out
        have htn := HTN.out
        refine ⟨⟨k + 1, c.beg, fun t => if t = tn then some ⟨g, k * 12, none⟩ else P t, dset D c, rfl, congrArg _ (by omega), by omega, ((hB3.set tn (.pointer (some ⟨g, k * 12, none⟩))).same (lastL_set P tn htn6 _)).drew, (hbw3.setCell (by show w.heap.size ≤ lb; have := HH.out.2.2; omega) _).drew, fun t ht => ?_, HNEXT.out⟩, by simp [intOf]; omega⟩
        by_cases et : t = tn
        · refine .inr ⟨g, k * 12, c, if_pos et, ?_, HROW.out.2, HROW.out.1⟩
          unfold dset; rw [if_pos (by omega)]
        · have h := HX1.out.2.2.2.2 t ht
          unfold dset
          dsimp only
          rw [if_neg et, if_neg (by omega)]
          exact h
end Go.Proofs.Ytepigofpcjmddaa

namespace Go.Proofs.Ytepigofpcjmddaa
open Go.RowKit Go.Sort

theorem setCell_self (w : World) (a : Addr) (v : Value) (h : w.cell? a = some v) : w.setCell a v = w := by
  obtain ⟨b, off, spot⟩ := a
  have hh : w.heap.modify b (fun | .cells c elem frozen => .cells (if spot.isSome then c else c.setIfInBounds off v) elem frozen | o => o) = w.heap := by
    refine Array.ext (by simp) ?_
    intro i h1 h2
    rw [Array.getElem_modify]
    split
    · rename_i e
      subst e
      have hg : w.heap[b]? = some w.heap[b] := Array.getElem?_eq_getElem h2
      unfold World.cell? at h
      simp only [hg] at h
      generalize w.heap[b] = o at *
      cases o with
      | cells c e f =>
        simp only at h ⊢
        by_cases hs : spot.isSome = true
        · rw [if_pos hs]
        · rw [if_neg hs] at h ⊢
          congr 1
          refine Array.ext (by simp) ?_
          intro j q1 q2
          rw [Array.getElem_setIfInBounds (by simpa using q1)]
          split
          · rename_i ej
            subst ej
            rw [Array.getElem?_eq_getElem q2] at h
            injection h with h
            exact h.symm
          · rfl
      | _ => simp at h
    · rfl
  exact congrArg (fun h => ({ w with heap := h } : World)) hh
end Go.Proofs.Ytepigofpcjmddaa
