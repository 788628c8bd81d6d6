/-
  Layer 10, the document's answer: every second one of a list: contract.
  Appending onto a fresh slice something that is not empty; drawn regions in which a slice that the region makes is appended to (a chain): the rule's parts.
  Layer 10, the document's answer: two lists of one as one: contract.
  Layer 10, the document's answer: two lists as one: contract.
-/
import Derived.Test.YtgkcbihpojkfaaaFresh5All
namespace Go.Proofs.Ytgkcbihpojkfaaa
open Go.RowKit Go.Sort

theorem flat_empty (w : World) (t : TypeId) : Flat 1 (w.alloc (.cells #[] t)) w.heap.size 0 0 [] :=
  ⟨by simp, rfl, Nat.le_refl _, Nat.zero_le _, fun t u hu => by simp at hu, fun u hu => by simp at hu, fun j hj => absurd hj (by simp)⟩

set_option maxRecDepth 20000 in
set_option maxHeartbeats 4000000 in
theorem pick_any (w : World) (a : Option Addr) (c f n : Nat) (S : Nat → Prop) (l : List Nat) (hf : f ≤ 1) (hn : l.length = n) (h : NsAt w a S l) (hl : n ≤ 64) :
    Calls Try.prog 24 #[.slice a n c, .int .i64 (f : Int)] w fun e w' => ∃ oa oc m, e = .returned (.slice oa m oc) ∧ (Wr.ev (l.drop f)).length = m ∧ NsAt w' oa (fun j => j < w.heap.size) (Wr.ev (l.drop f)) ∧ Below w.heap.size w w' := by
  obtain ⟨L, hL⟩ : ∃ L, Wr.ev (l.drop f) = L := ⟨_, rfl⟩
  have hlen : L.length = (n - f + 1) / 2 := by rw [← hL, ev_len _ _ (Nat.le_refl _), List.length_drop, hn]
  have hget : ∀ k, f + 2 * k < n → ∃ v, L[k]? = some v ∧ l[f + 2 * k]? = some v := fun k hk => by
    have : l[f + 2 * k]? = some (l[f + 2 * k]'(by omega)) := List.getElem?_eq_getElem (by omega)
    refine ⟨_, ?_, this⟩
    rw [← hL, Wr.ev_get, List.getElem?_drop]
    exact this
  rw [hL]
  have H := hidq h
  have HG := hidq hget
  have HL := hidq hlen
  have H0 := hidq (show EvR w L (some ⟨w.heap.size, 0, none⟩) 0 0 (w.alloc (.cells #[] 3)) from
    ⟨.inr ⟨_, rfl, flat_empty w _⟩, (fun j e => by obtain ⟨x, hx, rfl⟩ := e; cases hx; exact Nat.le_refl _), (Below.refl _ _).alloc (Nat.le_refl _) _⟩)
  clear h hget hlen hL hn
  go_enter Try.func24, Try.ntmps24
  go_wp2_with fail
  go_loopw [5, 10] (fun s5 s10 wr => ∃ (i k : Nat) (oa : Option Addr) (oc : Nat), s10 = .int .i64 (i : Int) ∧ i ≤ n ∧ k = (i + 1 - f) / 2 ∧ s5 = .slice oa k oc ∧ Hid (EvR w L oa oc k wr)) (fun _ s10 _ => n - (intOf s10).toNat)
  case atStart => exact ⟨0, 0, _, 0, rfl, Nat.zero_le _, by omega, rfl, H0⟩
  case round =>
    obtain ⟨i, k, oa, oc, rfl, hi, hk, rfl, hR⟩ := hrel
    clear H0
    by_cases hlt : i < n
    · have hltI : (i : Int) < (n : Int) := by omega
      by_cases hp : i % 2 = f
      · have hpi : i = f + 2 * k := by omega
        obtain ⟨v, hv1, hv2⟩ := HG.out k (by omega)
        rw [← hpi] at hv2
        obtain ⟨b, off, ha, hbl, _, hc⟩ := (H.out.below (S := S) hR.out.2.2) _ _ hv2
        subst ha
        have HV := hidq hv1
        have hpI : (i : Int) % 2 = (f : Int) := by omega
        have hpN : i % 2 = f := hp
        have HK := hidq (And.intro hk hpi)
        have hkb : k ≤ 64 := by omega
        have hpb : (((i % 2 : Nat) : Int) == (f : Int)) = true := by simp; omega
        have hpb2 : ((i : Int) % 2 == (f : Int)) = true := by simp; omega
        have hpb3 : (i % 2 == f) = true := by simp; omega
        clear hv1 hv2 hk hpi hp
        go_wp2_with (at_builtin; refine wpList_sl plainN _ rfl (.tmp 17) (.tmp 22) rfl oa oc k _ rfl (hR.out.1.below ((Below.refl _ _).alloc (Nat.le_refl _) _)) _ rfl 1 [.int .i64 (v : Int)] (src_new 1 _ Try.underlying24 wr.heap.size [.int .i64 (v : Int)] rfl (fun j u hu => by rw [World.cell?_alloc_new]; simpa using hu) (by intro u hu; simp at hu; subst hu; rfl)) (by omega) (by omega) ?_; intro g2 c2 w2 hF2 hb2 hg2)
        go_roundw
        case rel => exact ⟨i + 1, k + 1, some ⟨g2, 0, none⟩, c2, by go_num, by omega, by have := HK.out; omega, rfl, hR.out.next HV.out ((Below.refl _ _).alloc (Nat.le_refl _) _) hF2 hb2 hg2⟩
        case measure => simp [intOf]; omega
      · have hpb : (((i % 2 : Nat) : Int) == (f : Int)) = false := by simp; omega
        have hpb2 : ((i : Int) % 2 == (f : Int)) = false := by simp; omega
        have hpb3 : (i % 2 == f) = false := by simp; omega
        have hk2 : k = (i + 1 + 1 - f) / 2 := by omega
        have HK := hidq hk2
        clear hk hk2 hp
        go_wp2_with fail
        go_roundw
        case rel => exact ⟨i + 1, k, oa, oc, by go_num, by omega, HK.out, rfl, hR⟩
        case measure => simp [intOf]; omega
    · have hd : decide ((i : Int) < (n : Int)) = false := decide_eq_false (by omega)
      have hd2 : decide (i < n) = false := decide_eq_false (by omega)
      have hkl : L.length = k := by have := HL.out; omega
      clear hk
      go_wp2_with fail
      go_ret
      obtain ⟨h01, h02, h03⟩ := hR.out
      rw [List.take_of_length_le (by omega)] at h01
      exact ⟨oa, oc, k, rfl, hkl, nsAt_of h01 (fun j hj e => by have := h02 j hj; omega), h03⟩
end Go.Proofs.Ytgkcbihpojkfaaa

namespace Go.Proofs.Ytgkcbihpojkfaaa
open Go.RowKit Go.Sort

theorem fresh_append1 {P : Program} {k : Nat} {T E : TypeId} (hp : PlainK P k T E) (ty : TypeId) (w : World) (g : Nat) (x : Value) (m : Nat) (ys : List Value) (hs : Src P k T x m ys w) (hb : m ≤ 1099511627776) (hm : m ≠ 0) :
    ∃ g' cap' w', (Builtin.append_ #[T, T] ty #[.slice (some ⟨g, 0, none⟩) 0 0, x]).run P w = .ok (.slice (some ⟨g', 0, none⟩) m cap') w' ∧ Flat k w' g' cap' m ys ∧ Below w.heap.size w w' ∧ w.heap.size ≤ g' := by
  obtain ⟨i, z, hT, hi, hz, hsz, hzc, hby⟩ := hp
  subst hsz
  have hyl := hs.newsLen
  have hold : (Builtin.firstCells i.size 0 (.slice (some ⟨g, 0, none⟩) 0 0)).run P w.drew = .ok ([] : List Value).toArray w.drew :=
    run_firstCells_some w.drew i.size 0 ⟨g, 0, none⟩ 0 0 [] (by simp) (fun j u hu => by simp at hu)
  have h63 : ((0 + m : Nat) : Int) ≤ 9223372036854775807 := by omega
  have hmx : m ≤ maxLen := by unfold maxLen; omega
  have hr := run_append_grow_src (P := P) w T T ty E i z hT hi hz (some ⟨g, 0, none⟩) 0 0 [] hold x m ys hs (by omega) h63 (growslice_fits (by omega) (by rw [Nat.zero_add]; exact Nat.le_trans (Nat.mul_le_mul hb hby) (by decide)))
  rw [Nat.zero_add] at hr
  have hge := grownCap_ge w m 0 E
  have hcm := grownCap_le_maxLen w m 0 E hmx
  generalize grownCap w m 0 E = C at hr hge hcm
  rw [List.nil_append] at hr
  have hc : ∀ j, (w.drew.alloc (.cells (ys.toArray ++ Builtin.zeroCells z.cells (C - m)) E)).cell? ⟨w.heap.size, j, none⟩ = (ys.toArray ++ Builtin.zeroCells z.cells (C - m))[j]? := fun j => World.cell?_alloc_new w.drew _ _ j
  refine ⟨w.heap.size, C, _, hr, ?_, ⟨rfl, rfl, rfl, by simp, fun j hj => Below.heap_alloc w.drew _ j hj⟩, Nat.le_refl _⟩
  refine ⟨by simp, hyl, hge, hcm, ?_, hs.one, ?_⟩
  · intro t u hu
    have ht : t < ys.length := (List.getElem?_eq_some_iff.1 hu).1
    rw [hc, Array.getElem?_append_left (by simpa using ht), List.getElem?_toArray]
    exact hu
  · intro j hj
    refine ⟨?_, World.frozen?_alloc_new w.drew _ _ _⟩
    rw [hc]
    have : j < (ys.toArray ++ Builtin.zeroCells z.cells (C - m)).size := by
      rw [Array.size_append, size_zeroCells, List.size_toArray, hyl]
      have e2 : m * i.size + (C - m) * i.size = C * i.size := by rw [← Nat.add_mul]; congr 1; omega
      rw [hzc]
      first | omega | (rw [Nat.mul_comm] at e2; omega)
    rw [Array.getElem?_eq_getElem this]; rfl
theorem flat_box {w : World} {g n : Nat} {l : List Nat} (h : BoxAt w g (vals l)) (hl : l.length = n) (hn : n ≤ 64) : Flat 1 w g n n (vals l) := by
  refine ⟨h.lt, by rw [vals_length, hl, Nat.mul_one], Nat.le_refl _, by unfold maxLen; omega, fun t u hu => h.cell t u hu, vals_one l, fun j hj => ?_⟩
  have hj2 : j < (vals l).length := by rw [vals_length]; omega
  exact ⟨by rw [h.cell j _ (List.getElem?_eq_getElem hj2)]; rfl, h.fz j hj2⟩
theorem flat_nil {w : World} {g : Nat} (h : g < w.heap.size) : Flat 1 w g 0 0 [] :=
  ⟨h, rfl, Nat.le_refl _, Nat.zero_le _, fun t u hu => by simp at hu, fun u hu => by simp at hu, fun j hj => absurd hj (by simp)⟩
/-- Pairs in a row. -/
def flatP (gs : List (Nat × Nat)) : List Nat := gs.flatMap (fun g => [g.1, g.2])
theorem flatP_append (a b : List (Nat × Nat)) : flatP (a ++ b) = flatP a ++ flatP b := by simp [flatP]
theorem flatP_length : ∀ gs : List (Nat × Nat), (flatP gs).length = 2 * gs.length
  | [] => rfl
  | g :: gs => by show (g.1 :: g.2 :: flatP gs).length = _; simp [flatP_length gs]; omega
theorem flatP_get : ∀ (gs : List (Nat × Nat)) (k : Nat) (g : Nat × Nat), gs[k]? = some g → (flatP gs)[2 * k]? = some g.1 ∧ (flatP gs)[2 * k + 1]? = some g.2
  | [], _, _, h => by simp at h
  | x :: gs, 0, g, h => by
    have e : x = g := by simpa using h
    subst e
    exact ⟨rfl, rfl⟩
  | x :: gs, k + 1, g, h => by
    have ih := flatP_get gs k g (by simpa using h)
    show (x.1 :: x.2 :: flatP gs)[2 * (k + 1)]? = _ ∧ (x.1 :: x.2 :: flatP gs)[2 * (k + 1) + 1]? = _
    rw [show 2 * (k + 1) = 2 * k + 1 + 1 by omega, show 2 * k + 1 + 1 + 1 = (2 * k + 1) + 1 + 1 by omega]
    simpa using ih
theorem vals_append (a b : List Nat) : vals (a ++ b) = vals a ++ vals b := by simp [vals]
namespace Reg
/-- What each step leaves, where a chain of appends goes on: how many of the heavy ones have come up, the block of the chain's slice, and a box that is made. -/
def CPres (x : Nat × Option Nat × Option Nat) (w : World) (x' : Nat × Option Nat × Option Nat) (w' : World) : Prop :=
  x.1 ≤ x'.1 ∧ w.heap.size ≤ w'.heap.size ∧ (x'.1 = x.1 → Below w.heap.size w w' ∧ ∀ k, x.2.1 = some k → x'.2.1 = some k) ∧ (∀ k, x'.2.1 = some k → x.2.1 = some k ∨ w.heap.size ≤ k) ∧ (x'.1 ≤ 1 → But (fun j => x.2.1 = some j) w w') ∧ (∀ k, x.2.2 = some k → x'.2.2 = some k)
theorem CPres.light {x : Nat × Option Nat × Option Nat} {w w' : World} (h : Below w.heap.size w w') : CPres x w x w' := ⟨Nat.le_refl _, h.size, fun _ => ⟨h, fun _ e => e⟩, fun _ e => .inl e, fun _ => But.of_below h, fun _ e => e⟩
theorem CPres.refl (x : Nat × Option Nat × Option Nat) (w : World) : CPres x w x w := CPres.light (Below.refl _ _)
def CInv (hs : List Nat) (c0 b0 : Nat) (W0 : World) (F : Nat × Option Nat × Option Nat → World → Prop) (x : Nat × Option Nat × Option Nat) (L : Array Bool) (w : World) : Prop :=
  x.1 = cnt hs L ∧ Below W0.heap.size W0 w ∧ (L.getD c0 false = false → x.2.1 = none) ∧ (L.getD b0 false = false → x.2.2 = none) ∧ F x w
theorem cnt_le1 {a b : Nat} {L : Array Bool} (h : L.getD b false = false) : cnt [a, b] L ≤ 1 := by
  simp only [cnt, List.countP_cons, List.countP_nil, h]
  cases L.getD a false <;> decide
theorem getD_setb {L : Array Bool} {i c0 : Nat} (hi : i ≠ c0) : (L.setIfInBounds i true).getD c0 false = L.getD c0 false := by
  rw [Array.getD_eq_getD_getElem?, Array.getD_eq_getD_getElem?, Array.getElem?_setIfInBounds_ne hi]
theorem getD_sets {L : Array Bool} {i : Nat} (h : L.getD i true = false) : (L.setIfInBounds i true).getD i false = true := by
  have hi : i < L.size := by
    rcases Nat.lt_or_ge i L.size with h' | h'
    · exact h'
    · rw [Array.getD_eq_getD_getElem?, Array.getElem?_eq_none h'] at h; cases h
  rw [Array.getD_eq_getD_getElem?, Array.getElem?_setIfInBounds_self_of_lt hi]; rfl
theorem CInv.light {hs : List Nat} {c0 b0 : Nat} {W0 : World} {F : Nat × Option Nat × Option Nat → World → Prop} (hF : ∀ x w w', Below w.heap.size w w' → F x w → F x w') {x : Nat × Option Nat × Option Nat} {L : Array Bool} {w w' : World} (h : CInv hs c0 b0 W0 F x L w) (i : Nat) (hi : (c0 :: b0 :: hs).contains i = false) (hb : Below w.heap.size w w') :
    CInv hs c0 b0 W0 F x (L.setIfInBounds i true) w' := by
  have hi2 := hi
  simp at hi2
  have h1 : hs.contains i = false := by simp; exact hi2.2.2
  exact ⟨by rw [cnt_light L i h1]; exact h.1, h.2.1.trans (hb.mono h.2.1.size), by rw [getD_setb hi2.1]; exact h.2.2.1, by rw [getD_setb hi2.2.1]; exact h.2.2.2.1, hF _ _ _ hb h.2.2.2.2⟩
theorem CInv.chain {hs : List Nat} {c0 b0 : Nat} {W0 : World} {F : Nat × Option Nat × Option Nat → World → Prop} {x : Nat × Option Nat × Option Nat} {L : Array Bool} {w w' : World} (h : CInv hs c0 b0 W0 F x L w) (hc : hs.contains c0 = false) (hcb : c0 ≠ b0) (hk : L.getD c0 true = false) (g : Nat) (hb : Below w.heap.size w w') (hf : F (x.1, some g, x.2.2) w') :
    CInv hs c0 b0 W0 F (x.1, some g, x.2.2) (L.setIfInBounds c0 true) w' :=
  ⟨by rw [cnt_light L c0 hc]; exact h.1, h.2.1.trans (hb.mono h.2.1.size), (fun e => by rw [getD_sets hk] at e; cases e), fun e => by rw [getD_setb hcb] at e; exact h.2.2.2.1 e, hf⟩
theorem CInv.box {hs : List Nat} {c0 b0 : Nat} {W0 : World} {F : Nat × Option Nat × Option Nat → World → Prop} {x : Nat × Option Nat × Option Nat} {L : Array Bool} {w w' : World} (h : CInv hs c0 b0 W0 F x L w) (hc : hs.contains b0 = false) (hcb : b0 ≠ c0) (hk : L.getD b0 true = false) (o : Nat) (hb : Below w.heap.size w w') (hf : F (x.1, x.2.1, some o) w') :
    CInv hs c0 b0 W0 F (x.1, x.2.1, some o) (L.setIfInBounds b0 true) w' :=
  ⟨by rw [cnt_light L b0 hc]; exact h.1, h.2.1.trans (hb.mono h.2.1.size), fun e => by rw [getD_setb hcb] at e; exact h.2.2.1 e, (fun e => by rw [getD_sets hk] at e; cases e), hf⟩
theorem CInv.heavy {hs : List Nat} {c0 b0 : Nat} {W0 : World} {F : Nat × Option Nat × Option Nat → World → Prop} {x : Nat × Option Nat × Option Nat} {L : Array Bool} {w w' : World} (h : CInv hs c0 b0 W0 F x L w) (i : Nat) (hn : hs.Nodup) (hi : i ∈ hs) (hb0 : i ≠ b0) (hc0 : i ≠ c0) (hk : L.getD i true = false) (hl : L.getD c0 false = true) (y : Option Nat) (hb : Below W0.heap.size W0 w') (hf : F (x.1 + 1, y, x.2.2) w') :
    CInv hs c0 b0 W0 F (x.1 + 1, y, x.2.2) (L.setIfInBounds i true) w' :=
  ⟨by rw [cnt_heavy hn hi hk, h.1], hb, (fun e => by rw [getD_setb hc0, hl] at e; cases e), fun e => by rw [getD_setb hb0] at e; exact h.2.2.2.1 e, hf⟩
theorem CInv.start {hs : List Nat} {c0 b0 : Nat} {w : World} {F : Nat × Option Nat × Option Nat → World → Prop} (n : Nat) (hf : F (0, none, none) w.drew) : CInv hs c0 b0 w F (0, none, none) (Array.replicate n false) w.drew :=
  ⟨(cnt_none hs n).symm, below_drewN (Below.refl _ _) 1, fun _ => rfl, fun _ => rfl, hf⟩
theorem CInv.done {hs : List Nat} {c0 b0 : Nat} {W0 : World} {F : Nat × Option Nat × Option Nat → World → Prop} {x : Nat × Option Nat × Option Nat} {L : Array Bool} {w : World} (h : CInv hs c0 b0 W0 F x L w) (hl : ∀ j ∈ hs, L.getD j false = true) : x.1 = hs.length ∧ Below W0.heap.size W0 w ∧ F x w :=
  ⟨h.1.trans (cnt_all hl), h.2.1, h.2.2.2.2⟩
end Reg
theorem mg_rng {d : Nat} (h : 2 ^ d ≤ 16) : 1 ≤ mg d ∧ mg d ≤ 200 := by
  have hd : d ≤ 4 := by
    rcases Nat.lt_or_ge 4 d with h' | h'
    · have := Nat.pow_le_pow_right (n := 2) (by decide) (show 5 ≤ d from h'); omega
    · exact h'
  have h5 : d = 0 ∨ d = 1 ∨ d = 2 ∨ d = 3 ∨ d = 4 := by omega
  rcases h5 with rfl | rfl | rfl | rfl | rfl <;> decide
/-- A net that a call gave. -/
def NetEnd (gs : List (Nat × Nat)) (ws : List Nat) (w : World) (e : Ending) (w' : World) : Prop :=
  ∃ pa pn pc wa wn wc, e = .returned (.agg #[.slice pa pn pc, .slice wa wn wc]) ∧ (flatP gs).length = pn ∧ ws.length = wn ∧ SlAt 1 w' pa pc pn (vals (flatP gs)) ∧ SlAt 1 w' wa wc wn (vals ws) ∧ (∀ j, inB pa j → w.heap.size ≤ j) ∧ (∀ j, inB wa j → w.heap.size ≤ j) ∧ Below w.heap.size w w'
theorem pick0_any (w : World) (a : Option Addr) (c n : Nat) (S : Nat → Prop) (l : List Nat) (hn : l.length = n) (h : NsAt w a S l) (hl : n ≤ 64) :
    Calls Try.prog 24 #[.slice a n c, .int .i64 0] w fun e w' => ∃ oa oc m, e = .returned (.slice oa m oc) ∧ (Wr.ev l).length = m ∧ NsAt w' oa (fun j => j < w.heap.size) (Wr.ev l) ∧ Below w.heap.size w w' :=
  pick_any w a c 0 n S l (by omega) hn h hl
theorem pick1_any (w : World) (a : Option Addr) (c n : Nat) (S : Nat → Prop) (l : List Nat) (hn : l.length = n) (h : NsAt w a S l) (hl : n ≤ 64) :
    Calls Try.prog 24 #[.slice a n c, .int .i64 1] w fun e w' => ∃ oa oc m, e = .returned (.slice oa m oc) ∧ (Wr.od l).length = m ∧ NsAt w' oa (fun j => j < w.heap.size) (Wr.od l) ∧ Below w.heap.size w w' := by
  have := pick_any w a c 1 n S l (by omega) hn h hl
  rw [List.drop_one] at this
  exact this
end Go.Proofs.Ytgkcbihpojkfaaa

namespace Go.Proofs.Ytgkcbihpojkfaaa
open Go.RowKit Go.Sort

def ZEnd (lo rb a b : Nat) (w : World) : Prop :=
  ∃ g h, BoxAt w rb [.slice (some ⟨g, 0, none⟩) 2 2, .slice (some ⟨h, 0, none⟩) 2 2] ∧ Flat 1 w g 2 2 (vals [a, b]) ∧ Flat 1 w h 2 2 (vals [a, b]) ∧ lo ≤ g ∧ lo ≤ h
def rmerge2R (xc yc xb xo yb yo lo rb a b : Nat) : List (Value → Nat → World → Prop) :=
  [fun v _ _ => v = .slice (some ⟨xb, xo, none⟩) 1 xc,
   fun v _ _ => v = .pointer (some ⟨xb, xo, none⟩),
   fun v _ _ => v = .int .i64 (a : Int),
   fun v _ _ => v = .slice (some ⟨yb, yo, none⟩) 1 yc,
   fun v _ _ => v = .pointer (some ⟨yb, yo, none⟩),
   fun v _ _ => v = .int .i64 (b : Int),
   fun v _ w => ∃ g, v = .slice (some ⟨g, 0, none⟩) 2 2 ∧ BoxAt w g [.int .i64 (a : Int), .int .i64 (b : Int)] ∧ lo ≤ g ∧ g ≠ rb,
   fun v _ _ => v = .slice (some ⟨xb, xo, none⟩) 1 xc,
   fun v _ _ => v = .pointer (some ⟨xb, xo, none⟩),
   fun v _ _ => v = .int .i64 (a : Int),
   fun v _ _ => v = .slice (some ⟨yb, yo, none⟩) 1 yc,
   fun v _ _ => v = .pointer (some ⟨yb, yo, none⟩),
   fun v _ _ => v = .int .i64 (b : Int),
   fun v _ w => ∃ g, v = .slice (some ⟨g, 0, none⟩) 2 2 ∧ BoxAt w g [.int .i64 (a : Int), .int .i64 (b : Int)] ∧ lo ≤ g ∧ g ≠ rb,
   fun v _ w => ∃ g h, v = .agg #[.slice (some ⟨g, 0, none⟩) 2 2, .slice (some ⟨h, 0, none⟩) 2 2] ∧ BoxAt w g [.int .i64 (a : Int), .int .i64 (b : Int)] ∧ BoxAt w h [.int .i64 (a : Int), .int .i64 (b : Int)] ∧ lo ≤ g ∧ lo ≤ h ∧ g ≠ rb ∧ h ≠ rb,
   fun _ _ _ => True]
theorem rmerge2R_kept (xc yc xb xo yb yo lo rb a b : Nat) : Reg.GAllKept (Reg.PPres (fun j => j = rb)) (rmerge2R xc yc xb xo yb yo lo rb a b) :=
  ⟨(fun _ _ _ _ _ _ h => h), (fun _ _ _ _ _ _ h => h), (fun _ _ _ _ _ _ h => h), (fun _ _ _ _ _ _ h => h), (fun _ _ _ _ _ _ h => h), (fun _ _ _ _ _ _ h => h), (fun v x w x' w' hp h => by obtain ⟨g, h1, h2, h3, h4⟩ := h; exact ⟨g, h1, h2.but hp.2.2 h4, h3, h4⟩), (fun _ _ _ _ _ _ h => h), (fun _ _ _ _ _ _ h => h), (fun _ _ _ _ _ _ h => h), (fun _ _ _ _ _ _ h => h), (fun _ _ _ _ _ _ h => h), (fun _ _ _ _ _ _ h => h), (fun v x w x' w' hp h => by obtain ⟨g, h1, h2, h3, h4⟩ := h; exact ⟨g, h1, h2.but hp.2.2 h4, h3, h4⟩), (fun v x w x' w' hp h => by obtain ⟨g, h, h1, h2, h3, h4, h5, h6, h7⟩ := h; exact ⟨g, h, h1, h2.but hp.2.2 h6, h3.but hp.2.2 h7, h4, h5, h6, h7⟩), (fun _ _ _ _ _ _ _ => trivial), trivial⟩

set_option maxRecDepth 20000 in
set_option maxHeartbeats 8000000 in
theorem rmerge0_any (w : World) (xa ya : Option Addr) (xc yc : Nat) (Sx Sy : Nat → Prop) (x y : List Nat) (hx : NsAt w xa Sx x) (hy : NsAt w ya Sy y) (hlx : x.length = 1) (hly : y.length = 1) :
    Calls Try.prog 20 #[.slice xa 1 xc, .slice ya 1 yc] w (NetEnd (x.zip y) (Wr.inter x y) w) := by
  obtain ⟨a, rfl⟩ := List.length_eq_one_iff.1 hlx
  obtain ⟨b, rfl⟩ := List.length_eq_one_iff.1 hly
  obtain ⟨xb, xo, rfl, hxl, _, hxc⟩ := hx 0 a rfl
  obtain ⟨yb, yo, rfl, hyl, _, hyc⟩ := hy 0 b rfl
  rw [Nat.add_zero] at hxc hyc
  obtain ⟨rb, hrb⟩ : ∃ rb, w.heap.size = rb := ⟨_, rfl⟩
  obtain ⟨W0, hW0⟩ : ∃ W0, w.alloc (.cells #[.slice none 0 0, .slice none 0 0] 32) = W0 := ⟨_, rfl⟩
  have hB0 := BoxAt.new w [.slice none 0 0, .slice none 0 0] 32
  rw [show w.alloc (.cells [.slice none 0 0, .slice none 0 0].toArray 32) = W0 from hW0, hrb] at hB0
  have hb0 : Below w.heap.size w W0 := by rw [← hW0]; exact (Below.refl _ _).alloc (Nat.le_refl _) _
  obtain ⟨lo, hlo⟩ : ∃ lo, W0.heap.size = lo := ⟨_, rfl⟩
  have hrl : rb < lo := by have := hB0.lt; omega
  have FX := hidq (fun W (hW : But (fun j => j = rb) W0 W) => (show W.cell? ⟨xb, xo, none⟩ = some (.int .i64 (a : Int)) ∧ W.cell? ⟨yb, yo, none⟩ = some (.int .i64 (b : Int)) from
    ⟨by rw [hW.cell (p := ⟨xb, xo, none⟩) (Nat.lt_of_lt_of_le hxl hb0.size) (by show ¬ xb = rb; omega), hb0.cell (p := ⟨xb, xo, none⟩) hxl]; exact hxc, by rw [hW.cell (p := ⟨yb, yo, none⟩) (Nat.lt_of_lt_of_le hyl hb0.size) (by show ¬ yb = rb; omega), hb0.cell (p := ⟨yb, yo, none⟩) hyl]; exact hyc⟩))
  have HB0 := hidq hB0
  have HBL := hidq hb0
  have HW := hidq hW0
  have HF : ∀ (x : Nat) (w w' : World), Below w.heap.size w w' → ((x = 0 → BoxAt w rb [.slice none 0 0, .slice none 0 0]) ∧ (x = 1 → ZEnd lo rb a b w)) → ((x = 0 → BoxAt w' rb [.slice none 0 0, .slice none 0 0]) ∧ (x = 1 → ZEnd lo rb a b w')) :=
    fun _ _ _ hB h => ⟨fun e => (h.1 e).below hB, fun e => by obtain ⟨g, k, h1, h2, h3, h4⟩ := h.2 e; exact ⟨g, k, h1.below hB, h2.but (S := fun _ => False) (But.of_below hB) id, h3.but (S := fun _ => False) (But.of_below hB) id, h4⟩⟩
  clear hx hy hlx hly hxl hxc hyl hyc hB0 hb0 hW0
  go_enter Try.func20, Try.ntmps20
  go_wp2_with fail
  rw [HW.out]
  refine Reg.wp_region_ghost (Reg.gofList (rmerge2R xc yc xb xo yb yo lo rb a b)) (Reg.PPres (fun j => j = rb)) (Reg.PInv [15] (fun j => j = rb) W0 (fun x w => (x = 0 → BoxAt w rb [.slice none 0 0, .slice none 0 0]) ∧ (x = 1 → ZEnd lo rb a b w))) 0 (by kernel_rfl) (by kernel_rfl) (Reg.GAllKept.at _ (rmerge2R_kept xc yc xb xo yb yo lo rb a b)) (Reg.PInv.start 16 ⟨fun _ => HB0.out.drew, fun e => by cases e⟩) ⟨?_, ?_, ?_, ?_, ?_, ?_, ?_, ?_, ?_, ?_, ?_, ?_, ?_, ?_, ?_, ?_, trivial⟩ ?_
  · refine Reg.GStepAt.plain (i := 0) rfl ?_
    intro x L ev w hI hk hp hA
    have e0 : ev (.tmp 0) = .slice (some ⟨xb, xo, none⟩) 1 xc := hA.oldNone 0 (by kernel_rfl)
    have hcc := hA.const
    clear hA hp
    refine Reg.out_value (v := .slice (some ⟨xb, xo, none⟩) 1 xc) ?_ ⟨x, rfl, Reg.PPres.refl _ _ _, Reg.PInv.light HF hI 0 (by decide) (Below.refl _ _)⟩
    go_simp
  · refine Reg.GStepAt.plain (i := 1) rfl ?_
    intro x L ev w hI hk hp hA
    have e12 : ev (.tmp 12) = .slice (some ⟨xb, xo, none⟩) 1 xc := hA.val 0 _ 12 rfl (hp ⟨0, .data⟩ (by simp) rfl) rfl
    have hcc := hA.const
    clear hA hp
    refine Reg.out_value (v := .pointer (some ⟨xb, xo, none⟩)) ?_ ⟨x, rfl, Reg.PPres.refl _ _ _, Reg.PInv.light HF hI 1 (by decide) (Below.refl _ _)⟩
    go_simp
  · refine Reg.GStepAt.plain (i := 2) rfl ?_
    intro x L ev w hI hk hp hA
    have e13 : ev (.tmp 13) = .pointer (some ⟨xb, xo, none⟩) := hA.val 1 _ 13 rfl (hp ⟨1, .data⟩ (by simp) rfl) rfl
    have hcc := hA.const
    clear hA hp
    obtain ⟨f1, f2⟩ := FX.out w hI.2.1
    refine Reg.out_value (v := .int .i64 (a : Int)) ?_ ⟨x, rfl, Reg.PPres.refl _ _ _, Reg.PInv.light HF hI 2 (by decide) (Below.refl _ _)⟩
    go_simp
  · refine Reg.GStepAt.plain (i := 3) rfl ?_
    intro x L ev w hI hk hp hA
    have e1 : ev (.tmp 1) = .slice (some ⟨yb, yo, none⟩) 1 yc := hA.oldNone 1 (by kernel_rfl)
    have hcc := hA.const
    clear hA hp
    refine Reg.out_value (v := .slice (some ⟨yb, yo, none⟩) 1 yc) ?_ ⟨x, rfl, Reg.PPres.refl _ _ _, Reg.PInv.light HF hI 3 (by decide) (Below.refl _ _)⟩
    go_simp
  · refine Reg.GStepAt.plain (i := 4) rfl ?_
    intro x L ev w hI hk hp hA
    have e15 : ev (.tmp 15) = .slice (some ⟨yb, yo, none⟩) 1 yc := hA.val 3 _ 15 rfl (hp ⟨3, .data⟩ (by simp) rfl) rfl
    have hcc := hA.const
    clear hA hp
    refine Reg.out_value (v := .pointer (some ⟨yb, yo, none⟩)) ?_ ⟨x, rfl, Reg.PPres.refl _ _ _, Reg.PInv.light HF hI 4 (by decide) (Below.refl _ _)⟩
    go_simp
  · refine Reg.GStepAt.plain (i := 5) rfl ?_
    intro x L ev w hI hk hp hA
    have e16 : ev (.tmp 16) = .pointer (some ⟨yb, yo, none⟩) := hA.val 4 _ 16 rfl (hp ⟨4, .data⟩ (by simp) rfl) rfl
    have hcc := hA.const
    clear hA hp
    obtain ⟨f1, f2⟩ := FX.out w hI.2.1
    refine Reg.out_value (v := .int .i64 (b : Int)) ?_ ⟨x, rfl, Reg.PPres.refl _ _ _, Reg.PInv.light HF hI 5 (by decide) (Below.refl _ _)⟩
    go_simp
  · refine Reg.GStepAt.plain (i := 6) rfl ?_
    intro x L ev w hI hk hp hA
    have e14 : ev (.tmp 14) = .int .i64 (a : Int) := hA.val 2 _ 14 rfl (hp ⟨2, .data⟩ (by simp) rfl) rfl
    have e17 : ev (.tmp 17) = .int .i64 (b : Int) := hA.val 5 _ 17 rfl (hp ⟨5, .data⟩ (by simp) rfl) rfl
    have hcc := hA.const
    clear hA hp
    refine Reg.out_new (v := .slice (some ⟨w.heap.size, 0, none⟩) 2 2) (w' := w.alloc (.cells #[.int .i64 (a : Int), .int .i64 (b : Int)] 3)) ?_ ⟨x, ⟨w.heap.size, rfl, BoxAt.new w [.int .i64 (a : Int), .int .i64 (b : Int)] 3, by have h1 := hI.2.1.size; omega, by have h1 := hI.2.1.size; omega⟩, Reg.PPres.light ((Below.refl _ _).alloc (Nat.le_refl _) _), Reg.PInv.light HF hI 6 (by decide) ((Below.refl _ _).alloc (Nat.le_refl _) _)⟩
    clear hI hk
    go_simp
  · refine Reg.GStepAt.plain (i := 7) rfl ?_
    intro x L ev w hI hk hp hA
    have e0 : ev (.tmp 0) = .slice (some ⟨xb, xo, none⟩) 1 xc := hA.oldNone 0 (by kernel_rfl)
    have hcc := hA.const
    clear hA hp
    refine Reg.out_value (v := .slice (some ⟨xb, xo, none⟩) 1 xc) ?_ ⟨x, rfl, Reg.PPres.refl _ _ _, Reg.PInv.light HF hI 7 (by decide) (Below.refl _ _)⟩
    go_simp
  · refine Reg.GStepAt.plain (i := 8) rfl ?_
    intro x L ev w hI hk hp hA
    have e19 : ev (.tmp 19) = .slice (some ⟨xb, xo, none⟩) 1 xc := hA.val 7 _ 19 rfl (hp ⟨7, .data⟩ (by simp) rfl) rfl
    have hcc := hA.const
    clear hA hp
    refine Reg.out_value (v := .pointer (some ⟨xb, xo, none⟩)) ?_ ⟨x, rfl, Reg.PPres.refl _ _ _, Reg.PInv.light HF hI 8 (by decide) (Below.refl _ _)⟩
    go_simp
  · refine Reg.GStepAt.plain (i := 9) rfl ?_
    intro x L ev w hI hk hp hA
    have e20 : ev (.tmp 20) = .pointer (some ⟨xb, xo, none⟩) := hA.val 8 _ 20 rfl (hp ⟨8, .data⟩ (by simp) rfl) rfl
    have hcc := hA.const
    clear hA hp
    obtain ⟨f1, f2⟩ := FX.out w hI.2.1
    refine Reg.out_value (v := .int .i64 (a : Int)) ?_ ⟨x, rfl, Reg.PPres.refl _ _ _, Reg.PInv.light HF hI 9 (by decide) (Below.refl _ _)⟩
    go_simp
  · refine Reg.GStepAt.plain (i := 10) rfl ?_
    intro x L ev w hI hk hp hA
    have e1 : ev (.tmp 1) = .slice (some ⟨yb, yo, none⟩) 1 yc := hA.oldNone 1 (by kernel_rfl)
    have hcc := hA.const
    clear hA hp
    refine Reg.out_value (v := .slice (some ⟨yb, yo, none⟩) 1 yc) ?_ ⟨x, rfl, Reg.PPres.refl _ _ _, Reg.PInv.light HF hI 10 (by decide) (Below.refl _ _)⟩
    go_simp
  · refine Reg.GStepAt.plain (i := 11) rfl ?_
    intro x L ev w hI hk hp hA
    have e22 : ev (.tmp 22) = .slice (some ⟨yb, yo, none⟩) 1 yc := hA.val 10 _ 22 rfl (hp ⟨10, .data⟩ (by simp) rfl) rfl
    have hcc := hA.const
    clear hA hp
    refine Reg.out_value (v := .pointer (some ⟨yb, yo, none⟩)) ?_ ⟨x, rfl, Reg.PPres.refl _ _ _, Reg.PInv.light HF hI 11 (by decide) (Below.refl _ _)⟩
    go_simp
  · refine Reg.GStepAt.plain (i := 12) rfl ?_
    intro x L ev w hI hk hp hA
    have e23 : ev (.tmp 23) = .pointer (some ⟨yb, yo, none⟩) := hA.val 11 _ 23 rfl (hp ⟨11, .data⟩ (by simp) rfl) rfl
    have hcc := hA.const
    clear hA hp
    obtain ⟨f1, f2⟩ := FX.out w hI.2.1
    refine Reg.out_value (v := .int .i64 (b : Int)) ?_ ⟨x, rfl, Reg.PPres.refl _ _ _, Reg.PInv.light HF hI 12 (by decide) (Below.refl _ _)⟩
    go_simp
  · refine Reg.GStepAt.plain (i := 13) rfl ?_
    intro x L ev w hI hk hp hA
    have e21 : ev (.tmp 21) = .int .i64 (a : Int) := hA.val 9 _ 21 rfl (hp ⟨9, .data⟩ (by simp) rfl) rfl
    have e24 : ev (.tmp 24) = .int .i64 (b : Int) := hA.val 12 _ 24 rfl (hp ⟨12, .data⟩ (by simp) rfl) rfl
    have hcc := hA.const
    clear hA hp
    refine Reg.out_new (v := .slice (some ⟨w.heap.size, 0, none⟩) 2 2) (w' := w.alloc (.cells #[.int .i64 (a : Int), .int .i64 (b : Int)] 3)) ?_ ⟨x, ⟨w.heap.size, rfl, BoxAt.new w [.int .i64 (a : Int), .int .i64 (b : Int)] 3, by have h1 := hI.2.1.size; omega, by have h1 := hI.2.1.size; omega⟩, Reg.PPres.light ((Below.refl _ _).alloc (Nat.le_refl _) _), Reg.PInv.light HF hI 13 (by decide) ((Below.refl _ _).alloc (Nat.le_refl _) _)⟩
    clear hI hk
    go_simp
  · refine Reg.GStepAt.plain (i := 14) rfl ?_
    intro x L ev w hI hk hp hA
    have e18 : (fun v _ w => ∃ g, v = .slice (some ⟨g, 0, none⟩) 2 2 ∧ BoxAt w g [.int .i64 (a : Int), .int .i64 (b : Int)] ∧ lo ≤ g ∧ g ≠ rb) (ev (.tmp 18)) x w := hA.val 6 _ 18 rfl (hp ⟨6, .data⟩ (by simp) rfl) rfl
    have e25 : (fun v _ w => ∃ g, v = .slice (some ⟨g, 0, none⟩) 2 2 ∧ BoxAt w g [.int .i64 (a : Int), .int .i64 (b : Int)] ∧ lo ≤ g ∧ g ≠ rb) (ev (.tmp 25)) x w := hA.val 13 _ 25 rfl (hp ⟨13, .data⟩ (by simp) rfl) rfl
    have hcc := hA.const
    clear hA hp
    obtain ⟨g, e18, q1, q2, q3⟩ := e18
    obtain ⟨h, e25, r1, r2, r3⟩ := e25
    refine Reg.out_value (v := .agg #[.slice (some ⟨g, 0, none⟩) 2 2, .slice (some ⟨h, 0, none⟩) 2 2]) ?_ ⟨x, ⟨g, h, rfl, q1, r1, q2, r2, q3, r3⟩, Reg.PPres.refl _ _ _, Reg.PInv.light HF hI 14 (by decide) (Below.refl _ _)⟩
    clear hI hk q1 r1
    go_simp
  · refine Reg.GStepAt.plain (i := 15) rfl ?_
    intro x L ev w hI hk hp hA
    have e4 : ev (.tmp 4) = .pointer (some ⟨rb, 0, none⟩) := hA.oldNone 4 (by kernel_rfl)
    have e26 : (fun v _ w => ∃ g h, v = .agg #[.slice (some ⟨g, 0, none⟩) 2 2, .slice (some ⟨h, 0, none⟩) 2 2] ∧ BoxAt w g [.int .i64 (a : Int), .int .i64 (b : Int)] ∧ BoxAt w h [.int .i64 (a : Int), .int .i64 (b : Int)] ∧ lo ≤ g ∧ lo ≤ h ∧ g ≠ rb ∧ h ≠ rb) (ev (.tmp 26)) x w := hA.val 14 _ 26 rfl (hp ⟨14, .data⟩ (by simp) rfl) rfl
    have hcc := hA.const
    clear hA hp
    have hx0 : x = 0 := hI.1.trans (Reg.cnt_zero1 (Reg.getD_true hk))
    have hBx := hI.2.2.1 hx0
    obtain ⟨g, h, e26, q1, q2, q3, q4, q5, q6⟩ := e26
    obtain ⟨c0, y0⟩ := hBx.get 0 _ rfl
    obtain ⟨c1, y1⟩ := hBx.get 1 _ rfl
    have hbS : But (fun j => j = rb) w (w.setCells rb 0 [.slice (some ⟨g, 0, none⟩) 2 2, .slice (some ⟨h, 0, none⟩) 2 2]) := but_setCells _ _ _ _ _ (But.refl _ _)
    have hbx : BoxAt (w.setCells rb 0 [.slice (some ⟨g, 0, none⟩) 2 2, .slice (some ⟨h, 0, none⟩) 2 2]) rb [.slice (some ⟨g, 0, none⟩) 2 2, .slice (some ⟨h, 0, none⟩) 2 2] := box_cells hBx rfl
    refine Reg.out_skipP (w' := w.setCells rb 0 [.slice (some ⟨g, 0, none⟩) 2 2, .slice (some ⟨h, 0, none⟩) 2 2]) ?_ ⟨x + 1, trivial, Reg.PPres.heavy hbS, Reg.PInv.heavy hI 15 (by decide) (by simp) hk hbS ⟨fun e => by omega, fun _ => ⟨g, h, hbx, flat_box (l := [a, b]) (q1.but hbS q5) rfl (by decide), flat_box (l := [a, b]) (q2.but hbS q6) rfl (by decide), q3, q4⟩⟩⟩
    clear hI hbS hbx hBx q1 q2
    go_simp
    rfl
  intro gx L act wz hall hI hF
  have g12 : act.eval (.tmp 12) = .slice (some ⟨xb, xo, none⟩) 1 xc := hF.val 0 _ 12 rfl (hall 0 (by simp)) rfl
  have g13 : act.eval (.tmp 13) = .pointer (some ⟨xb, xo, none⟩) := hF.val 1 _ 13 rfl (hall 1 (by simp)) rfl
  have g14 : act.eval (.tmp 14) = .int .i64 (a : Int) := hF.val 2 _ 14 rfl (hall 2 (by simp)) rfl
  have g15 : act.eval (.tmp 15) = .slice (some ⟨yb, yo, none⟩) 1 yc := hF.val 3 _ 15 rfl (hall 3 (by simp)) rfl
  have g16 : act.eval (.tmp 16) = .pointer (some ⟨yb, yo, none⟩) := hF.val 4 _ 16 rfl (hall 4 (by simp)) rfl
  have g17 : act.eval (.tmp 17) = .int .i64 (b : Int) := hF.val 5 _ 17 rfl (hall 5 (by simp)) rfl
  have g18 : (fun v _ w => ∃ g, v = .slice (some ⟨g, 0, none⟩) 2 2 ∧ BoxAt w g [.int .i64 (a : Int), .int .i64 (b : Int)] ∧ lo ≤ g ∧ g ≠ rb) (act.eval (.tmp 18)) gx wz := hF.val 6 _ 18 rfl (hall 6 (by simp)) rfl
  have g19 : act.eval (.tmp 19) = .slice (some ⟨xb, xo, none⟩) 1 xc := hF.val 7 _ 19 rfl (hall 7 (by simp)) rfl
  have g20 : act.eval (.tmp 20) = .pointer (some ⟨xb, xo, none⟩) := hF.val 8 _ 20 rfl (hall 8 (by simp)) rfl
  have g21 : act.eval (.tmp 21) = .int .i64 (a : Int) := hF.val 9 _ 21 rfl (hall 9 (by simp)) rfl
  have g22 : act.eval (.tmp 22) = .slice (some ⟨yb, yo, none⟩) 1 yc := hF.val 10 _ 22 rfl (hall 10 (by simp)) rfl
  have g23 : act.eval (.tmp 23) = .pointer (some ⟨yb, yo, none⟩) := hF.val 11 _ 23 rfl (hall 11 (by simp)) rfl
  have g24 : act.eval (.tmp 24) = .int .i64 (b : Int) := hF.val 12 _ 24 rfl (hall 12 (by simp)) rfl
  have g25 : (fun v _ w => ∃ g, v = .slice (some ⟨g, 0, none⟩) 2 2 ∧ BoxAt w g [.int .i64 (a : Int), .int .i64 (b : Int)] ∧ lo ≤ g ∧ g ≠ rb) (act.eval (.tmp 25)) gx wz := hF.val 13 _ 25 rfl (hall 13 (by simp)) rfl
  have g26 : (fun v _ w => ∃ g h, v = .agg #[.slice (some ⟨g, 0, none⟩) 2 2, .slice (some ⟨h, 0, none⟩) 2 2] ∧ BoxAt w g [.int .i64 (a : Int), .int .i64 (b : Int)] ∧ BoxAt w h [.int .i64 (a : Int), .int .i64 (b : Int)] ∧ lo ≤ g ∧ lo ≤ h ∧ g ≠ rb ∧ h ≠ rb) (act.eval (.tmp 26)) gx wz := hF.val 14 _ 26 rfl (hall 14 (by simp)) rfl
  have hact := hF.act [12, 13, 14, 15, 16, 17, 18, 19, 20, 21, 22, 23, 24, 25, 26] (by kernel_rfl)
  obtain ⟨hxz, hBz, hFz⟩ := Reg.PInv.done hI (fun j hj => hall j (by simp at hj ⊢; omega))
  clear hF hall
  simp only [List.foldl_cons, List.foldl_nil] at hact
  rw [g12, g13, g14, g15, g16, g17, g19, g20, g21, g22, g23, g24] at hact
  clear g12 g13 g14 g15 g16 g17 g19 g20 g21 g22 g23 g24
  generalize act.eval (.tmp 18) = u18 at hact g18
  generalize act.eval (.tmp 25) = u25 at hact g25
  generalize act.eval (.tmp 26) = u26 at hact g26
  simp only [List.setIfInBounds_toArray, List.set_cons_succ, List.set_cons_zero] at hact
  subst hact
  obtain ⟨g, h, z1, z2, z3, z4, z5⟩ := hFz.2 rfl
  have r0 := (z1.get 0 _ rfl).1
  have r1 := (z1.get 1 _ rfl).1
  have HN := hidq (show NetEnd ([a].zip [b]) (Wr.inter [a] [b]) w (.returned (.agg #[.slice (some ⟨g, 0, none⟩) 2 2, .slice (some ⟨h, 0, none⟩) 2 2])) wz from
    ⟨some ⟨g, 0, none⟩, 2, 2, some ⟨h, 0, none⟩, 2, 2, rfl, rfl, rfl, .inr ⟨g, rfl, z2⟩, .inr ⟨h, rfl, z3⟩, (fun j e => by obtain ⟨q, hq, rfl⟩ := e; cases hq; show w.heap.size ≤ g; omega), (fun j e => by obtain ⟨q, hq, rfl⟩ := e; cases hq; show w.heap.size ≤ h; omega),
      HBL.out.trans (hBz.below HBL.out.size (fun j hj => by omega))⟩)
  clear hFz hBz hI g18 g25 g26 HF FX HB0 HBL HW z1 z2 z3 z4 z5 hxz
  go_wp2_with fail
  exact bodyPost_ret (v := .agg #[.slice (some ⟨g, 0, none⟩) 2 2, .slice (some ⟨h, 0, none⟩) 2 2]) (by simp [results, Try.results20, go_sem, r0, r1]) rfl HN.out
end Go.Proofs.Ytgkcbihpojkfaaa

namespace Go.Proofs.Ytgkcbihpojkfaaa
open Go.RowKit Go.Sort

def R5End (lo pn qn : Nat) (PA PB : List Nat) (o : Nat) (w : World) : Prop :=
  ∃ g c h, BoxAt w o [.slice (some ⟨g, 0, none⟩) (pn + qn) c, .slice (some ⟨h, 0, none⟩) 0 0] ∧ Flat 1 w g c (pn + qn) (vals (PA ++ PB)) ∧ h < w.heap.size ∧ lo ≤ g ∧ lo ≤ h ∧ lo ≤ o ∧ o ≠ g ∧ o ≠ h ∧ g ≠ h
theorem R5End.below {lo pn qn : Nat} {PA PB : List Nat} {o : Nat} {w w' : World} (hB : Below w.heap.size w w') (h : R5End lo pn qn PA PB o w) : R5End lo pn qn PA PB o w' := by
  obtain ⟨g, c, k, h1, h2, h3, h4⟩ := h
  exact ⟨g, c, k, h1.below hB, h2.but (S := fun _ => False) (But.of_below hB) id, Nat.lt_of_lt_of_le h3 hB.size, h4⟩
/-- One of a box's slices, with two more. -/
def KEnd (lo ob : Nat) (pa : Option Addr) (m fi : Nat) (cs RL : List Value) (w : World) : Prop :=
  ∃ g c, BoxAt w ob (cs.set fi (.slice (some ⟨g, 0, none⟩) (m + 2) c)) ∧ Flat 1 w g c (m + 2) RL ∧ g ≠ ob ∧ (inB pa g ∨ lo ≤ g)
theorem KEnd.below {lo ob : Nat} {pa : Option Addr} {m fi : Nat} {cs RL : List Value} {w w' : World} (hB : Below w.heap.size w w') (h : KEnd lo ob pa m fi cs RL w) : KEnd lo ob pa m fi cs RL w' := by
  obtain ⟨g, c, h1, h2, h3⟩ := h
  exact ⟨g, c, h1.below hB, h2.but (S := fun _ => False) (But.of_below hB) id, h3⟩
def rmerge5R (ab bb pn pc qn qc lo : Nat) (ap bp : Option Addr) (PA PB : List Nat) : List (Value → Nat × Option Nat × Option Nat → World → Prop) :=
  [fun v _ w => ∃ g, v = .slice (some ⟨g, 0, none⟩) 0 0 ∧ g < w.heap.size,
   fun v _ _ => v = .pointer (some ⟨ab, 0, none⟩),
   fun v _ _ => v = .slice ap pn pc,
   fun v x w => ∃ g c, v = .slice (some ⟨g, 0, none⟩) pn c ∧ lo ≤ g ∧ (x.1 = 0 → x.2.1 = some g ∧ Flat 1 w g c pn (vals PA)),
   fun v _ _ => v = .pointer (some ⟨bb, 0, none⟩),
   fun v _ _ => v = .slice bp qn qc,
   fun v x w => ∃ g c, v = .slice (some ⟨g, 0, none⟩) (pn + qn) c ∧ (lo ≤ g ∧ 1 ≤ x.1) ∧ (x.1 = 1 → x.2.1 = some g ∧ Flat 1 w g c (pn + qn) (vals (PA ++ PB))),
   fun v x w => ∃ g, v = .slice (some ⟨g, 0, none⟩) 0 0 ∧ lo ≤ g ∧ g < w.heap.size ∧ x.2.1 ≠ some g ∧ (x.1 ≤ 1 → w.cell? ⟨g, 0, none⟩ = none),
   fun v x w => ∃ g c h, v = .agg #[.slice (some ⟨g, 0, none⟩) (pn + qn) c, .slice (some ⟨h, 0, none⟩) 0 0] ∧ lo ≤ g ∧ lo ≤ h ∧ h < w.heap.size ∧ 1 ≤ x.1 ∧ (x.1 = 1 → x.2.1 = some g ∧ Flat 1 w g c (pn + qn) (vals (PA ++ PB)) ∧ h ≠ g ∧ w.cell? ⟨h, 0, none⟩ = none),
   fun v x w => ∃ o, v = .pointer (some ⟨o, 0, none⟩) ∧ lo ≤ o ∧ o < w.heap.size ∧ x.2.2 = some o ∧ (x.1 ≤ 1 → x.2.1 ≠ some o ∧ BoxAt w o [.slice none 0 0, .slice none 0 0]),
   fun _ _ _ => True]
theorem rmerge5R_kept (ab bb pn pc qn qc lo : Nat) (ap bp : Option Addr) (PA PB : List Nat) : Reg.GAllKept (Reg.CPres) (rmerge5R ab bb pn pc qn qc lo ap bp PA PB) :=
  ⟨(fun v x w x' w' hp h => by obtain ⟨g, h1, h2⟩ := h; exact ⟨g, h1, Nat.lt_of_lt_of_le h2 hp.2.1⟩), (fun _ _ _ _ _ _ h => h), (fun _ _ _ _ _ _ h => h), (fun v x w x' w' hp h => by obtain ⟨g, c, h1, h0, h2⟩ := h; refine ⟨g, c, h1, h0, fun e => ?_⟩; have hx := hp.1; have hxe : x'.1 = x.1 := (by omega); obtain ⟨q1, q2⟩ := h2 (by omega); exact ⟨(hp.2.2.1 hxe).2 _ q1, q2.but (S := fun _ => False) (But.of_below (hp.2.2.1 hxe).1) id⟩), (fun _ _ _ _ _ _ h => h), (fun _ _ _ _ _ _ h => h), (fun v x w x' w' hp h => by obtain ⟨g, c, h1, h0, h2⟩ := h; have hx := hp.1; refine ⟨g, c, h1, ⟨h0.1, by omega⟩, fun e => ?_⟩; have hxe : x'.1 = x.1 := (by omega); obtain ⟨q1, q2⟩ := h2 (by omega); exact ⟨(hp.2.2.1 hxe).2 _ q1, q2.but (S := fun _ => False) (But.of_below (hp.2.2.1 hxe).1) id⟩), (fun v x w x' w' hp h => by obtain ⟨g, h1, h2, h3, h4, h5⟩ := h; exact ⟨g, h1, h2, Nat.lt_of_lt_of_le h3 hp.2.1, fun e => (hp.2.2.2.1 _ e).elim h4 (fun h => by omega), fun e => by rw [(hp.2.2.2.2.1 e).cell (p := ⟨g, 0, none⟩) h3 h4]; exact h5 (by have := hp.1; omega)⟩), (fun v x w x' w' hp h => by obtain ⟨g, c, h, h1, h2, h3, h4, h5, h6⟩ := h; have hx := hp.1; refine ⟨g, c, h, h1, h2, h3, Nat.lt_of_lt_of_le h4 hp.2.1, by omega, fun e => ?_⟩; have hxe : x'.1 = x.1 := (by omega); obtain ⟨q1, q2, q3, q4⟩ := h6 (by omega); exact ⟨(hp.2.2.1 hxe).2 _ q1, q2.but (S := fun _ => False) (But.of_below (hp.2.2.1 hxe).1) id, q3, by rw [(hp.2.2.1 hxe).1.cell (p := ⟨h, 0, none⟩) h4]; exact q4⟩), (fun v x w x' w' hp h => by obtain ⟨o, h1, h2, h3, h4, h5⟩ := h; refine ⟨o, h1, h2, Nat.lt_of_lt_of_le h3 hp.2.1, hp.2.2.2.2.2 _ h4, fun e => ?_⟩; obtain ⟨q1, q2⟩ := h5 (by have := hp.1; omega); exact ⟨fun e2 => (hp.2.2.2.1 _ e2).elim q1 (fun h => by omega), q2.but (hp.2.2.2.2.1 e) q1⟩), (fun _ _ _ _ _ _ _ => trivial), trivial⟩
def rmerge9R (ob ab bb wn xc3 yc6 xb yb k l9 a b sm sc : Nat) (sa : Option Addr) (RL cs : List Value) : List (Value → Nat → World → Prop) :=
  [fun v _ _ => v = .pointer (some ⟨ob, 0, none⟩),
   fun v _ _ => v = .slice sa sm sc,
   fun v _ _ => v = .pointer (some ⟨ab, 1, none⟩),
   fun v _ _ => v = .slice (some ⟨xb, 0, none⟩) wn xc3,
   fun v _ _ => v = .int .i64 (k : Int),
   fun v _ _ => v = .pointer (some ⟨xb, k, none⟩),
   fun v _ _ => v = .int .i64 (a : Int),
   fun v _ _ => v = .pointer (some ⟨bb, 1, none⟩),
   fun v _ _ => v = .slice (some ⟨yb, 0, none⟩) wn yc6,
   fun v _ _ => v = .int .i64 (k : Int),
   fun v _ _ => v = .pointer (some ⟨yb, k, none⟩),
   fun v _ _ => v = .int .i64 (b : Int),
   fun v _ w => ∃ g, v = .slice (some ⟨g, 0, none⟩) 2 2 ∧ BoxAt w g [.int .i64 (a : Int), .int .i64 (b : Int)] ∧ l9 ≤ g ∧ ¬ pset ob sa g,
   fun v x w => 1 ≤ x ∧ ∃ g c, v = .slice (some ⟨g, 0, none⟩) (sm + 2) c ∧ (x = 1 → Flat 1 w g c (sm + 2) (RL ++ [.int .i64 (a : Int), .int .i64 (b : Int)]) ∧ BoxAt w ob cs ∧ g ≠ ob ∧ (inB sa g ∨ l9 ≤ g)),
   fun v _ _ => v = .pointer (some ⟨ob, 0, none⟩),
   fun _ _ _ => True]
theorem rmerge9R_kept (ob ab bb wn xc3 yc6 xb yb k l9 a b sm sc : Nat) (sa : Option Addr) (RL cs : List Value) : Reg.GAllKept (Reg.PPres (pset ob sa)) (rmerge9R ob ab bb wn xc3 yc6 xb yb k l9 a b sm sc sa RL cs) :=
  ⟨(fun _ _ _ _ _ _ h => h), (fun _ _ _ _ _ _ h => h), (fun _ _ _ _ _ _ h => h), (fun _ _ _ _ _ _ h => h), (fun _ _ _ _ _ _ h => h), (fun _ _ _ _ _ _ h => h), (fun _ _ _ _ _ _ h => h), (fun _ _ _ _ _ _ h => h), (fun _ _ _ _ _ _ h => h), (fun _ _ _ _ _ _ h => h), (fun _ _ _ _ _ _ h => h), (fun _ _ _ _ _ _ h => h), (fun v x w x' w' hp h => by obtain ⟨g, h1, h2, h3, h4⟩ := h; exact ⟨g, h1, h2.but hp.2.2 h4, h3, h4⟩), (fun v x w x' w' hp h => by obtain ⟨h0, g, c, h1, h2⟩ := h; refine ⟨Nat.le_trans h0 hp.1, g, c, h1, fun e => ?_⟩; have hx := hp.1; have hxe : x' = x := (by omega); have hB := hp.2.1 hxe; obtain ⟨q1, q2, q3, q4⟩ := h2 (by omega); exact ⟨q1.but (S := fun _ => False) (But.of_below hB) id, q2.below hB, q3, q4⟩), (fun _ _ _ _ _ _ h => h), (fun _ _ _ _ _ _ _ => trivial), trivial⟩
def rmerge10R (ob ab bb wn xc3 yc6 xb yb k l10 a b tm tc : Nat) (ta : Option Addr) (TL ct : List Value) : List (Value → Nat → World → Prop) :=
  [fun v _ _ => v = .pointer (some ⟨ob, 1, none⟩),
   fun v _ _ => v = .slice ta tm tc,
   fun v _ _ => v = .pointer (some ⟨ab, 1, none⟩),
   fun v _ _ => v = .slice (some ⟨xb, 0, none⟩) wn xc3,
   fun v _ _ => v = .int .i64 (k : Int),
   fun v _ _ => v = .pointer (some ⟨xb, k, none⟩),
   fun v _ _ => v = .int .i64 (a : Int),
   fun v _ _ => v = .pointer (some ⟨bb, 1, none⟩),
   fun v _ _ => v = .slice (some ⟨yb, 0, none⟩) wn yc6,
   fun v _ _ => v = .int .i64 (k : Int),
   fun v _ _ => v = .pointer (some ⟨yb, k, none⟩),
   fun v _ _ => v = .int .i64 (b : Int),
   fun v _ w => ∃ g, v = .slice (some ⟨g, 0, none⟩) 2 2 ∧ BoxAt w g [.int .i64 (a : Int), .int .i64 (b : Int)] ∧ l10 ≤ g ∧ ¬ pset ob ta g,
   fun v x w => 1 ≤ x ∧ ∃ g c, v = .slice (some ⟨g, 0, none⟩) (tm + 2) c ∧ (x = 1 → Flat 1 w g c (tm + 2) (TL ++ [.int .i64 (a : Int), .int .i64 (b : Int)]) ∧ BoxAt w ob ct ∧ g ≠ ob ∧ (inB ta g ∨ l10 ≤ g)),
   fun v _ _ => v = .pointer (some ⟨ob, 1, none⟩),
   fun _ _ _ => True]
theorem rmerge10R_kept (ob ab bb wn xc3 yc6 xb yb k l10 a b tm tc : Nat) (ta : Option Addr) (TL ct : List Value) : Reg.GAllKept (Reg.PPres (pset ob ta)) (rmerge10R ob ab bb wn xc3 yc6 xb yb k l10 a b tm tc ta TL ct) :=
  ⟨(fun _ _ _ _ _ _ h => h), (fun _ _ _ _ _ _ h => h), (fun _ _ _ _ _ _ h => h), (fun _ _ _ _ _ _ h => h), (fun _ _ _ _ _ _ h => h), (fun _ _ _ _ _ _ h => h), (fun _ _ _ _ _ _ h => h), (fun _ _ _ _ _ _ h => h), (fun _ _ _ _ _ _ h => h), (fun _ _ _ _ _ _ h => h), (fun _ _ _ _ _ _ h => h), (fun _ _ _ _ _ _ h => h), (fun v x w x' w' hp h => by obtain ⟨g, h1, h2, h3, h4⟩ := h; exact ⟨g, h1, h2.but hp.2.2 h4, h3, h4⟩), (fun v x w x' w' hp h => by obtain ⟨h0, g, c, h1, h2⟩ := h; refine ⟨Nat.le_trans h0 hp.1, g, c, h1, fun e => ?_⟩; have hx := hp.1; have hxe : x' = x := (by omega); have hB := hp.2.1 hxe; obtain ⟨q1, q2, q3, q4⟩ := h2 (by omega); exact ⟨q1.but (S := fun _ => False) (But.of_below hB) id, q2.below hB, q3, q4⟩), (fun _ _ _ _ _ _ h => h), (fun _ _ _ _ _ _ _ => trivial), trivial⟩

/-- What holds between two rounds. -/
def RR (W0 : World) (ob pn : Nat) (P0 x y : List Nat) (k : Nat) (wr : World) : Prop :=
  ∃ pa pc wa wc, BoxAt wr ob [.slice pa (pn + 2 * k) pc, .slice wa (2 * k) wc] ∧ SlAt 1 wr pa pc (pn + 2 * k) (vals (P0 ++ flatP ((x.take k).zip (y.take k)))) ∧ SlAt 1 wr wa wc (2 * k) (vals (Wr.inter (x.take k) (y.take k))) ∧
    (∀ j, inB pa j → W0.heap.size ≤ j ∧ j ≠ ob ∧ ¬ inB wa j) ∧ (∀ j, inB wa j → W0.heap.size ≤ j ∧ j ≠ ob) ∧ W0.heap.size ≤ ob ∧ Below W0.heap.size W0 wr

theorem flatP_snoc {x y : List Nat} {k a b : Nat} (hx : x[k]? = some a) (hy : y[k]? = some b) : flatP ((x.take (k + 1)).zip (y.take (k + 1))) = flatP ((x.take k).zip (y.take k)) ++ [a, b] := by
  rw [zip_snoc hx hy, flatP_append]; rfl
theorem RR.next {W0 wr V w2 : World} {ob pn : Nat} {P0 x y : List Nat} {k a b g c h c2 : Nat} {pa wa : Option Addr} {pc wc : Nat} (hxy : x.length = y.length)
    (_r2 : SlAt 1 wr pa pc (pn + 2 * k) (vals (P0 ++ flatP ((x.take k).zip (y.take k))))) (r3 : SlAt 1 wr wa wc (2 * k) (vals (Wr.inter (x.take k) (y.take k))))
    (r4 : ∀ j, inB pa j → W0.heap.size ≤ j ∧ j ≠ ob ∧ ¬ inB wa j) (r5 : ∀ j, inB wa j → W0.heap.size ≤ j ∧ j ≠ ob) (r6 : W0.heap.size ≤ ob) (r7 : Below W0.heap.size W0 wr) (hx : x[k]? = some a) (hy : y[k]? = some b)
    (hBV : But (pset ob pa) wr V) (f1 : Flat 1 V g c (pn + 2 * k + 2) (vals (P0 ++ flatP ((x.take k).zip (y.take k))) ++ [.int .i64 (a : Int), .int .i64 (b : Int)])) (g1 : g ≠ ob) (g2 : inB pa g ∨ wr.heap.size ≤ g)
    (hB2 : But (pset ob wa) V w2) (bx : BoxAt w2 ob [.slice (some ⟨g, 0, none⟩) (pn + 2 * k + 2) c, .slice (some ⟨h, 0, none⟩) (2 * k + 2) c2]) (f2 : Flat 1 w2 h c2 (2 * k + 2) (vals (Wr.inter (x.take k) (y.take k)) ++ [.int .i64 (a : Int), .int .i64 (b : Int)])) (h1 : h ≠ ob) (h2 : inB wa h ∨ V.heap.size ≤ h) :
    RR W0 ob pn P0 x y (k + 1) w2 := by
  have hkx := (List.getElem?_eq_some_iff.1 hx).1
  have hky := (List.getElem?_eq_some_iff.1 hy).1
  have s1 := r7.size
  have s2 := hBV.size
  have hgw : ¬ inB wa g := fun e => g2.elim (fun h => (r4 g h).2.2 e) (fun h => by have := r3.lt g e; omega)
  have hgl : W0.heap.size ≤ g := g2.elim (fun h => (r4 g h).1) (fun h => by omega)
  have hhl : W0.heap.size ≤ h := h2.elim (fun e => (r5 h e).1) (fun e => by omega)
  have hgh : g ≠ h := fun e => h2.elim (fun e2 => hgw (e ▸ e2)) (fun e2 => by have := f1.lt; omega)
  refine ⟨some ⟨g, 0, none⟩, c, some ⟨h, 0, none⟩, c2, ?_, .inr ⟨g, rfl, ?_⟩, .inr ⟨h, rfl, ?_⟩, ?_, ?_, r6, ?_⟩
  · rw [show pn + 2 * (k + 1) = pn + 2 * k + 2 by omega, show 2 * (k + 1) = 2 * k + 2 by omega]; exact bx
  · rw [show pn + 2 * (k + 1) = pn + 2 * k + 2 by omega, flatP_snoc hx hy, ← List.append_assoc, vals_append]
    exact f1.but hB2 (fun e => e.elim g1 hgw)
  · rw [show 2 * (k + 1) = 2 * k + 2 by omega, List.take_add_one, List.take_add_one, hx, hy]
    show Flat 1 w2 h c2 (2 * k + 2) (vals (Wr.inter (x.take k ++ [a]) (y.take k ++ [b])))
    rw [inter_snoc _ _ _ _ (by rw [List.length_take, List.length_take]; omega), vals_append]
    exact f2
  · intro j e
    obtain ⟨q, hq, rfl⟩ := e
    cases hq
    exact ⟨hgl, g1, fun e2 => by obtain ⟨q, hq, hq2⟩ := e2; cases hq; exact hgh hq2.symm⟩
  · intro j e
    obtain ⟨q, hq, rfl⟩ := e
    cases hq
    exact ⟨hhl, h1⟩
  · have b1 : Below W0.heap.size wr V := hBV.below s1 (fun j e => e.elim (fun e => by omega) (fun e => (r4 j e).1))
    have b2 : Below W0.heap.size V w2 := hB2.below (by omega) (fun j e => e.elim (fun e => by omega) (fun e => (r5 j e).1))
    exact (r7.trans b1).trans b2

set_option maxRecDepth 20000 in
set_option maxHeartbeats 16000000 in
theorem rmerge_any : ∀ (d : Nat) (w : World) (xa ya : Option Addr) (xc yc n : Nat) (Sx Sy : Nat → Prop) (x y : List Nat),
    NsAt w xa Sx x → NsAt w ya Sy y → x.length = n → y.length = n → n = 2 ^ d → n ≤ 32 →
    Calls Try.prog 20 #[.slice xa n xc, .slice ya n yc] w (NetEnd (Wr.merge d x y).1 (Wr.merge d x y).2 w) := by
  intro d
  induction d with
  | zero =>
    intro w xa ya xc yc n Sx Sy x y hx hy hlx hly hn _
    have hn1 : n = 1 := hn
    subst hn1
    exact rmerge0_any w xa ya xc yc Sx Sy x y hx hy hlx hly
  | succ d ih =>
    intro w xa ya xc yc n Sx Sy x y hx hy hlx hly hn hn32
    obtain ⟨h, hh⟩ : ∃ h, h = 2 ^ d := ⟨_, rfl⟩
    have hn2 : n = 2 * h := by rw [hn, Wr.pow_succ2, hh]
    have hpos : 1 ≤ h := by have := Nat.two_pow_pos d; omega
    have lx : x.length = 2 * h := by omega
    have ly : y.length = 2 * h := by omega
    have ex := Wr.ev_length _ _ lx
    have ox := Wr.od_length _ _ lx
    have ey := Wr.ev_length _ _ ly
    have oy := Wr.od_length _ _ ly
    have g1 := merge_gates d (Wr.ev x) (Wr.od y) (by omega) (by omega)
    have g2 := merge_gates d (Wr.od x) (Wr.ev y) (by omega) (by omega)
    have gpos : 1 ≤ mg d ∧ mg d ≤ 200 := mg_rng (by rw [← hh]; omega)
    have l1 := Wr.merge_length d (Wr.ev x) (Wr.od y) (by omega) (by omega)
    have l2 := Wr.merge_length d (Wr.od x) (Wr.ev y) (by omega) (by omega)
    have e1 : (Wr.merge (d + 1) x y).1 = (Wr.merge d (Wr.ev x) (Wr.od y)).1 ++ (Wr.merge d (Wr.od x) (Wr.ev y)).1 ++ (Wr.merge d (Wr.ev x) (Wr.od y)).2.zip (Wr.merge d (Wr.od x) (Wr.ev y)).2 := rfl
    have e2 : (Wr.merge (d + 1) x y).2 = Wr.inter (Wr.merge d (Wr.ev x) (Wr.od y)).2 (Wr.merge d (Wr.od x) (Wr.ev y)).2 := rfl
    rw [e1, e2]
    clear e1 e2
    have IHx := ih
    generalize hA : Wr.merge d (Wr.ev x) (Wr.od y) = A at g1 l1 ⊢
    generalize hB : Wr.merge d (Wr.od x) (Wr.ev y) = B at g2 l2 ⊢
    obtain ⟨pn0, hpn⟩ : ∃ pn0, (flatP A.1).length = pn0 := ⟨_, rfl⟩
    obtain ⟨m, hm⟩ : ∃ m, A.2.length = m := ⟨_, rfl⟩
    have hpn1 : 1 ≤ pn0 ∧ pn0 ≤ 400 := by rw [flatP_length] at hpn; omega
    have hpnB : (flatP B.1).length = pn0 := by rw [flatP_length] at hpn ⊢; omega
    have hmB : B.2.length = m := by omega
    have hm32 : 1 ≤ m ∧ m ≤ 32 := by omega
    have IH := hidq ih
    have HN := hidq (And.intro hn2 (And.intro hpos (And.intro hh hn32)))
    have HX := hidq (And.intro hx (And.intro hy (And.intro hlx hly)))
    have HE := hidq (And.intro ex (And.intro ox (And.intro ey oy)))
    have HAB := hidq (And.intro hA hB)
    have HL := hidq (And.intro hpn (And.intro hm (And.intro hpnB hmB)))
    obtain ⟨rb, hrb⟩ : ∃ rb, w.heap.size = rb := ⟨_, rfl⟩
    obtain ⟨W1, hW1⟩ : ∃ W1, w.alloc (.cells #[.slice none 0 0, .slice none 0 0] 32) = W1 := ⟨_, rfl⟩
    have hB1 := BoxAt.new w [.slice none 0 0, .slice none 0 0] 32
    rw [show w.alloc (.cells [.slice none 0 0, .slice none 0 0].toArray 32) = W1 from hW1, hrb] at hB1
    have hb1 : Below w.heap.size w W1 := by rw [← hW1]; exact (Below.refl _ _).alloc (Nat.le_refl _) _
    have H1 := hidq (And.intro hB1 hb1)
    have HW := hidq hW1
    have k1 := pick0_any W1 xa xc n _ x hlx (hx.below hb1) (by omega)
    have hnt : decide ((n : Int) < 2) = false := decide_eq_false (by omega)
    have hnt2 : decide (n < 2) = false := decide_eq_false (by omega)
    clear ih IHx hn2 hpos hh g1 g2 l1 l2 ex ox ey oy hx hy hlx hly hn32 hn lx ly hA hB hpn hm hpnB hmB gpos hB1 hb1 hW1
    go_enter Try.func20, Try.ntmps20
    go_wp2_with fail
    rw [HW.out]
    refine k1.mono ?_
    rintro e w1 ⟨a1, c1, m1, rfl, hm1, hN1, hb1⟩
    clear k1
    have hb01 := H1.out.2.trans (hb1.mono H1.out.2.size)
    have k2 := pick1_any w1 ya yc n _ y HX.out.2.2.2 (HX.out.2.1.below hb01) (by have := HN.out; omega)
    have H1b := hidq (And.intro hb1 hb01)
    clear hb1 hb01
    go_wp2_with fail
    refine k2.mono ?_
    rintro e w2 ⟨a2, c2, m2, rfl, hm2, hN2, hb2⟩
    clear k2
    obtain rfl : m1 = h := by rw [← hm1]; exact HE.out.1
    obtain rfl : m2 = m1 := by rw [← hm2]; exact HE.out.2.2.2
    have k3 := IH.out w2 a1 a2 c1 c2 m2 _ _ (Wr.ev x) (Wr.od y) (hN1.below hb2) hN2 hm1 hm2 HN.out.2.2.1 (by have := HN.out; omega)
    rw [HAB.out.1] at k3
    have hb02 := H1b.out.2.trans (hb2.mono H1b.out.2.size)
    have hbb2 := H1b.out.1.trans (hb2.mono H1b.out.1.size)
    have H2 := hidq (And.intro (H1.out.1.below hbb2) hb02)
    clear hN1 hN2 hm1 hm2 hb2 hb02 hbb2
    go_wp2_with fail
    refine k3.mono ?_
    rintro e w3 ⟨ap, pn, pc, aw, wn, xc3, rfl, hpn3, hm3, hS3, hT3, hi3, hj3, hb3⟩
    clear k3
    obtain rfl : pn = pn0 := by rw [← hpn3]; exact HL.out.1
    obtain rfl : wn = m := by rw [← hm3]; exact HL.out.2.1
    obtain ⟨ab, hab⟩ : ∃ ab, w3.heap.size = ab := ⟨_, rfl⟩
    obtain ⟨W3, hW3⟩ : ∃ W3, w3.alloc (.cells #[.slice ap pn pc, .slice aw wn xc3] 32) = W3 := ⟨_, rfl⟩
    have hB3 := BoxAt.new w3 [.slice ap pn pc, .slice aw wn xc3] 32
    rw [show w3.alloc (.cells [.slice ap pn pc, .slice aw wn xc3].toArray 32) = W3 from hW3, hab] at hB3
    have hbW3 : Below w3.heap.size w3 W3 := by rw [← hW3]; exact (Below.refl _ _).alloc (Nat.le_refl _) _
    have hb03 : Below w.heap.size w W3 := (H2.out.2.trans (hb3.mono H2.out.2.size)).trans (hbW3.mono (by have := H2.out.2.size; have := hb3.size; omega))
    have H3 := hidq (And.intro ((H2.out.1.below hb3).below hbW3) (And.intro hb03 (And.intro hB3 (And.intro (hS3.below hbW3) (hT3.below hbW3)))))
    have HW3 := hidq hW3
    have k4 := pick1_any W3 xa xc n _ x HX.out.2.2.1 (HX.out.1.below hb03) (by have := HN.out; omega)
    clear hB3 hbW3 hb03 hS3 hT3 hi3 hj3 hb3 hpn3 hm3 hW3 H1 H1b H2 HW
    go_wp2_with fail
    rw [HW3.out]
    refine k4.mono ?_
    rintro e w4 ⟨a4, c4, m4, rfl, hm4, hN4, hb4⟩
    clear k4
    have hb04 := H3.out.2.1.trans (hb4.mono H3.out.2.1.size)
    have k5 := pick0_any w4 ya yc n _ y HX.out.2.2.2 (HX.out.2.1.below hb04) (by have := HN.out; omega)
    have H4 := hidq hb4
    clear hb4 hb04
    go_wp2_with fail
    refine k5.mono ?_
    rintro e w5 ⟨a5, c5, m5, rfl, hm5, hN5, hb5⟩
    clear k5
    obtain rfl : m4 = m2 := by rw [← hm4]; exact HE.out.2.1
    obtain rfl : m5 = m4 := by rw [← hm5]; exact HE.out.2.2.1
    have k6 := IH.out w5 a4 a5 c4 c5 m5 _ _ (Wr.od x) (Wr.ev y) (hN4.below hb5) hN5 hm4 hm5 HN.out.2.2.1 (by have := HN.out; omega)
    rw [HAB.out.2] at k6
    have hb35 := H4.out.trans (hb5.mono H4.out.size)
    have H5 := hidq hb35
    clear hN4 hN5 hm4 hm5 hb5 hb35
    go_wp2_with fail
    refine k6.mono ?_
    rintro e w6 ⟨bp, qn, qc, bw, m6, yc6, rfl, hpn6, hm6, hS6, hT6, hi6, hj6, hb6⟩
    clear k6
    have hqn : qn = pn := by rw [← hpn6]; exact HL.out.2.2.1
    have hq1 : 1 ≤ qn ∧ qn ≤ 400 := by omega
    have HQ := hidq hqn
    clear hqn
    obtain rfl : wn = m6 := by rw [← hm6]; exact HL.out.2.2.2.symm
    obtain ⟨bb, hbb⟩ : ∃ bb, w6.heap.size = bb := ⟨_, rfl⟩
    obtain ⟨W0, hW0⟩ : ∃ W0, w6.alloc (.cells #[.slice bp qn qc, .slice bw wn yc6] 32) = W0 := ⟨_, rfl⟩
    have hB6 := BoxAt.new w6 [.slice bp qn qc, .slice bw wn yc6] 32
    rw [show w6.alloc (.cells [.slice bp qn qc, .slice bw wn yc6].toArray 32) = W0 from hW0, hbb] at hB6
    have hbW0 : Below w6.heap.size w6 W0 := by rw [← hW0]; exact (Below.refl _ _).alloc (Nat.le_refl _) _
    have hb36 := H5.out.trans (hb6.mono H5.out.size)
    have hb3W := hb36.trans (hbW0.mono hb36.size)
    obtain ⟨h31, h32, h33, h34, h35⟩ := H3.out
    have H6 := hidq (And.intro (h31.below hb3W) (And.intro (h32.trans (hb3W.mono h32.size)) (And.intro (h33.below hb3W) (And.intro (h34.below hb3W) (And.intro (h35.below hb3W) (And.intro hB6 (And.intro (hS6.below hbW0) (hT6.below hbW0))))))))
    have HW0 := hidq hW0
    clear hB6 hbW0 hb36 hb3W h31 h32 h33 h34 h35 hS6 hT6 hi6 hj6 hb6 hpn6 hm6 hW0 H3 H4 H5 HW3 IH HE
    go_wp2_with fail
    rw [HW0.out]
    clear HW0
    obtain ⟨PA, hPA⟩ : ∃ PA, flatP A.1 = PA := ⟨_, rfl⟩
    obtain ⟨PB, hPB⟩ : ∃ PB, flatP B.1 = PB := ⟨_, rfl⟩
    obtain ⟨u1, u2, u3, u4, u5, u6, u7, u8⟩ := H6.out
    rw [hPA] at u4
    rw [hPB] at u7
    obtain ⟨lo, hlo⟩ : ∃ lo, W0.heap.size = lo := ⟨_, rfl⟩
    have HS := hidq (fun W (hW : Below W0.heap.size W0 W) => (show SlAt 1 W ap pc pn (vals PA) ∧ SlAt 1 W bp qc qn (vals PB) from ⟨u4.below hW, u7.below hW⟩))
    have FX := hidq (fun W (hW : Below W0.heap.size W0 W) => (show W.cell? ⟨ab, 0, none⟩ = some (.slice ap pn pc) ∧ W.cell? ⟨bb, 0, none⟩ = some (.slice bp qn qc) from ⟨((u3.below hW).get 0 _ rfl).1, ((u6.below hW).get 0 _ rfl).1⟩))
    have HF : ∀ (x : Nat × Option Nat × Option Nat) (w w' : World), Below w.heap.size w w' → ((∀ k, x.2.1 = some k → k < w.heap.size) ∧ (x.1 = 2 → ∃ o, x.2.2 = some o ∧ R5End lo pn qn PA PB o w)) → ((∀ k, x.2.1 = some k → k < w'.heap.size) ∧ (x.1 = 2 → ∃ o, x.2.2 = some o ∧ R5End lo pn qn PA PB o w')) :=
      fun _ _ _ hB h => ⟨fun k e => Nat.lt_of_lt_of_le (h.1 k e) hB.size, fun e => by obtain ⟨o, h1, h2⟩ := h.2 e; exact ⟨o, h1, h2.below hB⟩⟩
    have HPP := hidq (And.intro hPA hPB)
    clear u1 u2 u3 u4 u5 u6 u7 u8 hPA hPB
    refine Reg.wp_region_ghost (Reg.gofList (rmerge5R ab bb pn pc qn qc lo ap bp PA PB)) (Reg.CPres) (Reg.CInv [6, 10] 3 9 W0 (fun x w => (∀ k, x.2.1 = some k → k < w.heap.size) ∧ (x.1 = 2 → ∃ o, x.2.2 = some o ∧ R5End lo pn qn PA PB o w))) (0, none, none) (by kernel_rfl) (by kernel_rfl) (Reg.GAllKept.at _ (rmerge5R_kept ab bb pn pc qn qc lo ap bp PA PB)) (Reg.CInv.start 11 ⟨(fun k e => by cases e), (fun e => by cases e)⟩) ⟨?_, ?_, ?_, ?_, ?_, ?_, ?_, ?_, ?_, ?_, ?_, trivial⟩ ?_
    · refine Reg.GStepAt.plain (i := 0) rfl ?_
      intro x L ev w hI hk hp hA
      have hcc := hA.const
      clear hA hp
      refine Reg.out_new (v := .slice (some ⟨w.heap.size, 0, none⟩) 0 0) (w' := w.alloc (.cells #[] 3)) ?_ ⟨x, ⟨w.heap.size, rfl, by simp⟩, Reg.CPres.light ((Below.refl _ _).alloc (Nat.le_refl _) _), Reg.CInv.light HF hI 0 (by decide) ((Below.refl _ _).alloc (Nat.le_refl _) _)⟩
      clear hI hk
      go_simp
    · refine Reg.GStepAt.plain (i := 1) rfl ?_
      intro x L ev w hI hk hp hA
      have e5 : ev (.tmp 5) = .pointer (some ⟨ab, 0, none⟩) := hA.oldNone 5 (by kernel_rfl)
      have hcc := hA.const
      clear hA hp
      refine Reg.out_value (v := .pointer (some ⟨ab, 0, none⟩)) ?_ ⟨x, rfl, Reg.CPres.refl _ _, Reg.CInv.light HF hI 1 (by decide) (Below.refl _ _)⟩
      go_simp
    · refine Reg.GStepAt.plain (i := 2) rfl ?_
      intro x L ev w hI hk hp hA
      have e38 : ev (.tmp 38) = .pointer (some ⟨ab, 0, none⟩) := hA.val 1 _ 38 rfl (hp ⟨1, .data⟩ (by simp) rfl) rfl
      have hcc := hA.const
      clear hA hp
      obtain ⟨f1, f2⟩ := FX.out w hI.2.1
      refine Reg.out_value (v := .slice ap pn pc) ?_ ⟨x, rfl, Reg.CPres.refl _ _, Reg.CInv.light HF hI 2 (by decide) (Below.refl _ _)⟩
      go_simp
    · refine Reg.GStepAt.plain (i := 3) rfl ?_
      intro x L ev w hI hk hp hA
      have e37 : (fun v _ w => ∃ g, v = .slice (some ⟨g, 0, none⟩) 0 0 ∧ g < w.heap.size) (ev (.tmp 37)) x w := hA.val 0 _ 37 rfl (hp ⟨0, .data⟩ (by simp) rfl) rfl
      have e39 : ev (.tmp 39) = .slice ap pn pc := hA.val 2 _ 39 rfl (hp ⟨2, .data⟩ (by simp) rfl) rfl
      have hcc := hA.const
      clear hA hp
      obtain ⟨g0, e37, _⟩ := e37
      have hnone := hI.2.2.1 (Reg.getD_true hk)
      have hSz := hI.2.1.size
      obtain ⟨g', c', w', hrun, hF', hb', hg'⟩ := fresh_append1 plainN 24 w g0 (.slice ap pn pc) pn (vals PA) ((HS.out w hI.2.1).1.src Try.underlying24) (by omega) (by omega)
      refine Reg.out_new (v := .slice (some ⟨g', 0, none⟩) pn c') (w' := w') ?_ ⟨(x.1, some g', x.2.2), ⟨g', c', rfl, by omega, fun _ => ⟨rfl, hF'⟩⟩, ⟨Nat.le_refl _, hb'.size, fun _ => ⟨hb', (fun k e => by rw [hnone] at e; cases e)⟩, (fun k e => .inr (by cases e; exact hg')), fun _ => But.of_below hb', fun _ e => e⟩, Reg.CInv.chain hI (by decide) (by decide) hk g' hb' ⟨(fun k e => by cases e; exact hF'.lt), fun e => (HF x _ _ hb' hI.2.2.2.2).2 e⟩⟩
      simp [execOp, resolve, invoke, builtin, e37, e39, hrun, Result.andThen]
    · refine Reg.GStepAt.plain (i := 4) rfl ?_
      intro x L ev w hI hk hp hA
      have e6 : ev (.tmp 6) = .pointer (some ⟨bb, 0, none⟩) := hA.oldNone 6 (by kernel_rfl)
      have hcc := hA.const
      clear hA hp
      refine Reg.out_value (v := .pointer (some ⟨bb, 0, none⟩)) ?_ ⟨x, rfl, Reg.CPres.refl _ _, Reg.CInv.light HF hI 4 (by decide) (Below.refl _ _)⟩
      go_simp
    · refine Reg.GStepAt.plain (i := 5) rfl ?_
      intro x L ev w hI hk hp hA
      have e41 : ev (.tmp 41) = .pointer (some ⟨bb, 0, none⟩) := hA.val 4 _ 41 rfl (hp ⟨4, .data⟩ (by simp) rfl) rfl
      have hcc := hA.const
      clear hA hp
      obtain ⟨f1, f2⟩ := FX.out w hI.2.1
      refine Reg.out_value (v := .slice bp qn qc) ?_ ⟨x, rfl, Reg.CPres.refl _ _, Reg.CInv.light HF hI 5 (by decide) (Below.refl _ _)⟩
      go_simp
    · refine Reg.GStepAt.plain (i := 6) rfl ?_
      intro x L ev w hI hk hp hA
      have e40 : (fun v x w => ∃ g c, v = .slice (some ⟨g, 0, none⟩) pn c ∧ lo ≤ g ∧ (x.1 = 0 → x.2.1 = some g ∧ Flat 1 w g c pn (vals PA))) (ev (.tmp 40)) x w := hA.val 3 _ 40 rfl (hp ⟨3, .data⟩ (by simp) rfl) rfl
      have e42 : ev (.tmp 42) = .slice bp qn qc := hA.val 5 _ 42 rfl (hp ⟨5, .data⟩ (by simp) rfl) rfl
      have hcc := hA.const
      have NL := Reg.not_listed hA 6 10 _ rfl ⟨6, .chain⟩ (by simp) rfl hk
      have L3 : L.getD 3 false = true := hp ⟨3, .data⟩ (by simp) rfl
      clear hA hp
      have hx0 : x.1 = 0 := hI.1.trans (Reg.cnt_zero2 (Reg.getD_true hk) NL)
      obtain ⟨g0, c0, e40, h40, h41⟩ := e40
      obtain ⟨q1, q2⟩ := h41 hx0
      have hSz := hI.2.1.size
      obtain ⟨g', c', w', hrun, hF', hb', hg'⟩ := sl_append plainN 24 w (some ⟨g0, 0, none⟩) c0 pn (vals PA) (.inr ⟨g0, rfl, q2⟩) (.slice bp qn qc) qn (vals PB) ((HS.out w hI.2.1).2.src Try.underlying24) (by omega) (by omega)
      have hin : ∀ j, inB (some (⟨g0, 0, none⟩ : Addr)) j → j = g0 := fun j e => by obtain ⟨y, hy, rfl⟩ := e; cases hy; rfl
      have hbS : But (fun j => x.2.1 = some j) w w' := hb'.mono (fun j _ e => by rw [hin j e]; exact q1)
      have hgl : lo ≤ g' := hg'.elim (fun e => by rw [hin _ e]; exact h40) (fun h => by omega)
      refine Reg.out_new (v := (.slice (some ⟨g', 0, none⟩) (pn + qn) c')) (w' := w') ?_ ⟨(x.1 + 1, some g', x.2.2), ⟨g', c', rfl, ⟨hgl, Nat.le_add_left _ _⟩, fun _ => ⟨rfl, by rw [vals_append]; exact hF'⟩⟩, ⟨Nat.le_succ _, hb'.size, (fun e => absurd e (Nat.succ_ne_self _)), (fun k e => by cases e; exact hg'.imp (fun e => by rw [hin _ e]; exact q1) id), fun _ => hbS, fun _ e => e⟩, Reg.CInv.heavy hI 6 (by decide) (by simp) (by decide) (by decide) hk L3 (some g') (hI.2.1.trans (hb'.below hI.2.1.size (fun j hj => by rw [hin j hj]; omega))) ⟨(fun k e => by cases e; exact hF'.lt), (fun e => by dsimp only at e; omega)⟩⟩
      simp [execOp, resolve, invoke, builtin, e40, e42, hrun, Result.andThen]
    · refine Reg.GStepAt.plain (i := 7) rfl ?_
      intro x L ev w hI hk hp hA
      have hcc := hA.const
      clear hA hp
      have hSz := hI.2.1.size
      refine Reg.out_new (v := .slice (some ⟨w.heap.size, 0, none⟩) 0 0) (w' := w.alloc (.cells #[] 3)) ?_ ⟨x, ⟨w.heap.size, rfl, by omega, by simp, (fun e => by have := hI.2.2.2.2.1 _ e; omega), fun _ => by rw [World.cell?_alloc_new]; rfl⟩, Reg.CPres.light ((Below.refl _ _).alloc (Nat.le_refl _) _), Reg.CInv.light HF hI 7 (by decide) ((Below.refl _ _).alloc (Nat.le_refl _) _)⟩
      clear hI hk
      go_simp
    · refine Reg.GStepAt.plain (i := 8) rfl ?_
      intro x L ev w hI hk hp hA
      have e43 : (fun v x w => ∃ g c, v = .slice (some ⟨g, 0, none⟩) (pn + qn) c ∧ (lo ≤ g ∧ 1 ≤ x.1) ∧ (x.1 = 1 → x.2.1 = some g ∧ Flat 1 w g c (pn + qn) (vals (PA ++ PB)))) (ev (.tmp 43)) x w := hA.val 6 _ 43 rfl (hp ⟨6, .data⟩ (by simp) rfl) rfl
      have e44 : (fun v x w => ∃ g, v = .slice (some ⟨g, 0, none⟩) 0 0 ∧ lo ≤ g ∧ g < w.heap.size ∧ x.2.1 ≠ some g ∧ (x.1 ≤ 1 → w.cell? ⟨g, 0, none⟩ = none)) (ev (.tmp 44)) x w := hA.val 7 _ 44 rfl (hp ⟨7, .data⟩ (by simp) rfl) rfl
      have hcc := hA.const
      clear hA hp
      obtain ⟨g, c, e43, h1, h2⟩ := e43
      obtain ⟨h, e44, q1, q2, q3, q4⟩ := e44
      refine Reg.out_value (v := .agg #[.slice (some ⟨g, 0, none⟩) (pn + qn) c, .slice (some ⟨h, 0, none⟩) 0 0]) ?_ ⟨x, ⟨g, c, h, rfl, h1.1, q1, q2, h1.2, fun e => ⟨(h2 e).1, (h2 e).2, (fun e2 => q3 (by rw [e2]; exact (h2 e).1)), q4 (by omega)⟩⟩, Reg.CPres.refl _ _, Reg.CInv.light HF hI 8 (by decide) (Below.refl _ _)⟩
      clear hI hk h2
      go_simp
    · refine Reg.GStepAt.plain (i := 9) rfl ?_
      intro x L ev w hI hk hp hA
      have hcc := hA.const
      have NL := Reg.not_listed hA 9 10 _ rfl ⟨9, .data⟩ (by simp) rfl hk
      have NX : ∀ (x : Nat × Option Nat × Option Nat) (w : World), x.1 = Reg.cnt [6, 10] L → L.getD 10 false = false → x.1 = 2 → False := fun x _ h1 h2 h3 => by have := Reg.cnt_le1 (a := 6) h2; omega
      clear hA hp
      have hSz := hI.2.1.size
      have hnone := hI.2.2.2.1 (Reg.getD_true hk)
      refine Reg.out_new (v := .pointer (some ⟨w.heap.size, 0, none⟩)) (w' := w.alloc (.cells #[.slice none 0 0, .slice none 0 0] 32)) ?_ ⟨(x.1, x.2.1, some w.heap.size), ⟨w.heap.size, rfl, by omega, by simp, rfl, fun _ => ⟨(fun e => by have := hI.2.2.2.2.1 _ e; omega), BoxAt.new w [.slice none 0 0, .slice none 0 0] 32⟩⟩, ⟨Nat.le_refl _, by simp, fun _ => ⟨((Below.refl _ _).alloc (Nat.le_refl _) _), fun _ e => e⟩, (fun _ e => .inl e), fun _ => But.of_below ((Below.refl _ _).alloc (Nat.le_refl _) _), (fun k e => by rw [hnone] at e; cases e)⟩, Reg.CInv.box hI (by decide) (by decide) hk w.heap.size ((Below.refl _ _).alloc (Nat.le_refl _) _) ⟨(fun k e => by have := hI.2.2.2.2.1 k e; simp; omega), fun e => (NX x w hI.1 NL e).elim⟩⟩
      clear hI hk
      go_simp
    · refine Reg.GStepAt.plain (i := 10) rfl ?_
      intro x L ev w hI hk hp hA
      have e7 : (fun v x w => ∃ o, v = .pointer (some ⟨o, 0, none⟩) ∧ lo ≤ o ∧ o < w.heap.size ∧ x.2.2 = some o ∧ (x.1 ≤ 1 → x.2.1 ≠ some o ∧ BoxAt w o [.slice none 0 0, .slice none 0 0])) (ev (.tmp 7)) x w := hA.val 9 _ 7 rfl (hp ⟨9, .data⟩ (by simp) rfl) rfl
      have e45 : (fun v x w => ∃ g c h, v = .agg #[.slice (some ⟨g, 0, none⟩) (pn + qn) c, .slice (some ⟨h, 0, none⟩) 0 0] ∧ lo ≤ g ∧ lo ≤ h ∧ h < w.heap.size ∧ 1 ≤ x.1 ∧ (x.1 = 1 → x.2.1 = some g ∧ Flat 1 w g c (pn + qn) (vals (PA ++ PB)) ∧ h ≠ g ∧ w.cell? ⟨h, 0, none⟩ = none)) (ev (.tmp 45)) x w := hA.val 8 _ 45 rfl (hp ⟨8, .data⟩ (by simp) rfl) rfl
      have hcc := hA.const
      have L6 : L.getD 6 false = true := hp ⟨6, .chain⟩ (by simp) rfl
      have L3 : L.getD 3 false = true := hp ⟨3, .phase⟩ (by simp) rfl
      clear hA hp
      have hx1 : x.1 = 1 := hI.1.trans (Reg.cnt_one2 L6 (Reg.getD_true hk))
      obtain ⟨o, e7, o1, o2, o3, o4⟩ := e7
      obtain ⟨o5, hBx⟩ := o4 (by omega)
      obtain ⟨g, c, h, e45, q1, q2, q3, q4, q5⟩ := e45
      obtain ⟨r1, r2, r3, r4⟩ := q5 hx1
      obtain ⟨c0, y0⟩ := hBx.get 0 _ rfl
      obtain ⟨c1, y1⟩ := hBx.get 1 _ rfl
      have hog : o ≠ g := fun e => o5 (by rw [e]; exact r1)
      have hoh : o ≠ h := fun e => by rw [e, r4] at c0; cases c0
      have hbS : But (fun j => j = o) w (w.setCells o 0 [.slice (some ⟨g, 0, none⟩) (pn + qn) c, .slice (some ⟨h, 0, none⟩) 0 0]) := but_setCells _ _ _ _ _ (But.refl _ _)
      have hbx : BoxAt (w.setCells o 0 [.slice (some ⟨g, 0, none⟩) (pn + qn) c, .slice (some ⟨h, 0, none⟩) 0 0]) o [.slice (some ⟨g, 0, none⟩) (pn + qn) c, .slice (some ⟨h, 0, none⟩) 0 0] := box_cells hBx rfl
      refine Reg.out_skipP (w' := w.setCells o 0 [.slice (some ⟨g, 0, none⟩) (pn + qn) c, .slice (some ⟨h, 0, none⟩) 0 0]) ?_ ⟨(x.1 + 1, x.2.1, x.2.2), trivial, ⟨Nat.le_succ _, hbS.size, (fun e => absurd e (Nat.succ_ne_self _)), (fun _ e => .inl e), (fun e => by dsimp only at e; omega), fun _ e => e⟩, Reg.CInv.heavy hI 10 (by decide) (by simp) (by decide) (by decide) hk L3 x.2.1 (hI.2.1.trans (hbS.below hI.2.1.size (fun j hj => by omega))) ⟨(fun k e => Nat.lt_of_lt_of_le (hI.2.2.2.2.1 k e) hbS.size), fun _ => ⟨o, o3, g, c, h, hbx, r2.but hbS (fun e => hog e.symm), Nat.lt_of_lt_of_le q3 hbS.size, q1, q2, o1, hog, hoh, fun e => r3 e.symm⟩⟩⟩
      clear hI hbS hbx hBx r2
      go_simp
      rfl
    intro gx L act wz hall hI hF
    have g37 : (fun v _ w => ∃ g, v = .slice (some ⟨g, 0, none⟩) 0 0 ∧ g < w.heap.size) (act.eval (.tmp 37)) gx wz := hF.val 0 _ 37 rfl (hall 0 (by simp)) rfl
    have g38 : act.eval (.tmp 38) = .pointer (some ⟨ab, 0, none⟩) := hF.val 1 _ 38 rfl (hall 1 (by simp)) rfl
    have g39 : act.eval (.tmp 39) = .slice ap pn pc := hF.val 2 _ 39 rfl (hall 2 (by simp)) rfl
    have g40 : (fun v x w => ∃ g c, v = .slice (some ⟨g, 0, none⟩) pn c ∧ lo ≤ g ∧ (x.1 = 0 → x.2.1 = some g ∧ Flat 1 w g c pn (vals PA))) (act.eval (.tmp 40)) gx wz := hF.val 3 _ 40 rfl (hall 3 (by simp)) rfl
    have g41 : act.eval (.tmp 41) = .pointer (some ⟨bb, 0, none⟩) := hF.val 4 _ 41 rfl (hall 4 (by simp)) rfl
    have g42 : act.eval (.tmp 42) = .slice bp qn qc := hF.val 5 _ 42 rfl (hall 5 (by simp)) rfl
    have g43 : (fun v x w => ∃ g c, v = .slice (some ⟨g, 0, none⟩) (pn + qn) c ∧ (lo ≤ g ∧ 1 ≤ x.1) ∧ (x.1 = 1 → x.2.1 = some g ∧ Flat 1 w g c (pn + qn) (vals (PA ++ PB)))) (act.eval (.tmp 43)) gx wz := hF.val 6 _ 43 rfl (hall 6 (by simp)) rfl
    have g44 : (fun v x w => ∃ g, v = .slice (some ⟨g, 0, none⟩) 0 0 ∧ lo ≤ g ∧ g < w.heap.size ∧ x.2.1 ≠ some g ∧ (x.1 ≤ 1 → w.cell? ⟨g, 0, none⟩ = none)) (act.eval (.tmp 44)) gx wz := hF.val 7 _ 44 rfl (hall 7 (by simp)) rfl
    have g45 : (fun v x w => ∃ g c h, v = .agg #[.slice (some ⟨g, 0, none⟩) (pn + qn) c, .slice (some ⟨h, 0, none⟩) 0 0] ∧ lo ≤ g ∧ lo ≤ h ∧ h < w.heap.size ∧ 1 ≤ x.1 ∧ (x.1 = 1 → x.2.1 = some g ∧ Flat 1 w g c (pn + qn) (vals (PA ++ PB)) ∧ h ≠ g ∧ w.cell? ⟨h, 0, none⟩ = none)) (act.eval (.tmp 45)) gx wz := hF.val 8 _ 45 rfl (hall 8 (by simp)) rfl
    have g7 : (fun v x w => ∃ o, v = .pointer (some ⟨o, 0, none⟩) ∧ lo ≤ o ∧ o < w.heap.size ∧ x.2.2 = some o ∧ (x.1 ≤ 1 → x.2.1 ≠ some o ∧ BoxAt w o [.slice none 0 0, .slice none 0 0])) (act.eval (.tmp 7)) gx wz := hF.val 9 _ 7 rfl (hall 9 (by simp)) rfl
    have hact := hF.act [37, 38, 39, 40, 41, 42, 43, 44, 45, 7] (by kernel_rfl)
    obtain ⟨hxz, hBz, hFz⟩ := Reg.CInv.done hI (fun j hj => hall j (by simp at hj ⊢; omega))
    clear hF hall
    simp only [List.foldl_cons, List.foldl_nil] at hact
    rw [g38, g39, g41, g42] at hact
    clear g38 g39 g41 g42
    generalize act.eval (.tmp 37) = u37 at hact g37
    generalize act.eval (.tmp 40) = u40 at hact g40
    generalize act.eval (.tmp 43) = u43 at hact g43
    generalize act.eval (.tmp 44) = u44 at hact g44
    generalize act.eval (.tmp 45) = u45 at hact g45
    generalize act.eval (.tmp 7) = u7 at hact g7
    simp only [List.setIfInBounds_toArray, List.set_cons_succ, List.set_cons_zero] at hact
    subst hact
    obtain ⟨ob, rfl, o1, o2, o3, _⟩ := g7
    obtain ⟨o', ho', hEnd⟩ := hFz.2 hxz
    obtain rfl : ob = o' := by rw [o3] at ho'; exact Option.some.inj ho'
    obtain ⟨g, c, h, z1, z2, z3, z4, z5, z6, z7, z8, z9⟩ := hEnd
    obtain ⟨hPA, hPB⟩ := HPP.out
    obtain ⟨t1, t2, t3, t4, t5, t6, t7, t8⟩ := H6.out
    obtain ⟨a0, ha0⟩ : ∃ a0, A.2[0]? = some a0 := ⟨_, List.getElem?_eq_getElem (by rw [HL.out.2.1]; omega)⟩
    obtain ⟨b0, hb0⟩ : ∃ b0, B.2[0]? = some b0 := ⟨_, List.getElem?_eq_getElem (by rw [HL.out.2.2.2]; omega)⟩
    obtain ⟨xb, rfl, hxb, _⟩ := t5.cell (t := 0) (u := .int .i64 (a0 : Int)) (by simp [vals, ha0])
    obtain ⟨yb, rfl, hyb, _⟩ := t8.cell (t := 0) (u := .int .i64 (b0 : Int)) (by simp [vals, hb0])
    have HR := hidq (show RR W0 ob (pn + qn) (PA ++ PB) A.2 B.2 0 wz from
      ⟨some ⟨g, 0, none⟩, c, some ⟨h, 0, none⟩, 0, z1, .inr ⟨g, rfl, by simpa [flatP] using z2⟩, .inr ⟨h, rfl, flat_nil z3⟩,
        (fun j e => by obtain ⟨q, hq, rfl⟩ := e; cases hq; exact ⟨by show W0.heap.size ≤ g; omega, fun e => z7 e.symm, fun e2 => by obtain ⟨q, hq, hq2⟩ := e2; cases hq; exact z9 hq2.symm⟩), (fun j e => by obtain ⟨q, hq, rfl⟩ := e; cases hq; exact ⟨by show W0.heap.size ≤ h; omega, fun e => z8 e.symm⟩), by omega, hBz⟩)
    have HT := hidq (And.intro hPA (And.intro hPB (And.intro t1 (And.intro t2 (And.intro t3 (And.intro t5 (And.intro t6 (And.intro t8 (And.intro hxb hyb)))))))))
    have p1 := ((t3.below hBz).get 1 _ rfl).1
    have hpl : ab < wz.heap.size := (t3.below hBz).lt
    clear hFz hxz hBz hI g37 g40 g43 g44 g45 HF HS FX z1 z2 z3 z4 z5 z6 z7 z8 z9 t1 t2 t3 t4 t5 t6 t7 t8 hPA hPB ha0 hb0 ho' o1 o2 o3 H6 HPP hxb hyb
    go_wp2_with fail
    clear p1 hpl
    go_loopw [49] (fun s49 wr => ∃ k : Nat, s49 = .int .i64 (k : Int) ∧ k ≤ wn ∧ Hid (RR W0 ob (pn + qn) (PA ++ PB) A.2 B.2 k wr)) (fun s49 _ => wn - (intOf s49).toNat)
    case atStart => exact ⟨0, rfl, Nat.zero_le _, HR⟩
    case round =>
      obtain ⟨k, rfl, hk, hR⟩ := hrel
      clear HR
      by_cases hlt : k < wn
      · have hltI : (k : Int) < (wn : Int) := by omega
        go_wp2_with fail
        obtain ⟨sa, sc, ta, tc, r1, r2, r3, r4, r5, r6, r7⟩ := hR.out
        obtain ⟨hPA, hPB, t1, t2, t3, t5, t6, t8, hxb, hyb⟩ := HT.out
        obtain ⟨a, ha⟩ : ∃ a, A.2[k]? = some a := ⟨_, List.getElem?_eq_getElem (by rw [HL.out.2.1]; exact hlt)⟩
        obtain ⟨b, hb⟩ : ∃ b, B.2[k]? = some b := ⟨_, List.getElem?_eq_getElem (by rw [HL.out.2.2.2]; exact hlt)⟩
        obtain ⟨l9, hl9⟩ : ∃ l9, wr.heap.size = l9 := ⟨_, rfl⟩
        obtain ⟨sm, hsm⟩ : ∃ sm, pn + qn + 2 * k = sm := ⟨_, rfl⟩
        obtain ⟨tm, htm⟩ : ∃ tm, 2 * k = tm := ⟨_, rfl⟩
        obtain ⟨RL, hRL⟩ : ∃ RL, vals (PA ++ PB ++ flatP ((A.2.take k).zip (B.2.take k))) = RL := ⟨_, rfl⟩
        obtain ⟨TL, hTL⟩ : ∃ TL, vals (Wr.inter (A.2.take k) (B.2.take k)) = TL := ⟨_, rfl⟩
        rw [hsm, htm] at r1
        rw [hsm, hRL] at r2
        rw [htm, hTL] at r3
        obtain ⟨cs, hcs⟩ : ∃ cs, [Value.slice sa sm sc, Value.slice ta tm tc] = cs := ⟨_, rfl⟩
        rw [hcs] at r1
        have hsb : sm ≤ 2000 := by omega
        have htb : tm ≤ 200 := by omega
        have hs0 := r7.size
        have hxp : ¬ pset ob sa xb := fun e => e.elim (fun e => by omega) (fun e => by have := (r4 _ e).1; omega)
        have hyp : ¬ pset ob sa yb := fun e => e.elim (fun e => by omega) (fun e => by have := (r4 _ e).1; omega)
        have hap : ¬ pset ob sa ab := fun e => e.elim (fun e => by have := t3.lt; omega) (fun e => by have := (r4 _ e).1; have := t3.lt; omega)
        have hbp : ¬ pset ob sa bb := fun e => e.elim (fun e => by have := t6.lt; omega) (fun e => by have := (r4 _ e).1; have := t6.lt; omega)
        have FW := hidq (show (wr.cell? ⟨ab, 1, none⟩ = some (.slice (some ⟨xb, 0, none⟩) wn xc3) ∧ wr.cell? ⟨bb, 1, none⟩ = some (.slice (some ⟨yb, 0, none⟩) wn yc6) ∧ wr.cell? ⟨xb, k, none⟩ = some (.int .i64 (a : Int)) ∧ wr.cell? ⟨yb, k, none⟩ = some (.int .i64 (b : Int))) from by
          obtain ⟨q1, hq1, _, h3⟩ := (t5.below r7).cell (t := k) (u := .int .i64 (a : Int)) (by simp [vals, ha])
          obtain ⟨q2, hq2, _, h4⟩ := (t8.below r7).cell (t := k) (u := .int .i64 (b : Int)) (by simp [vals, hb])
          cases hq1
          cases hq2
          exact ⟨((t3.below r7).get 1 _ rfl).1, ((t6.below r7).get 1 _ rfl).1, h3, h4⟩)
        have FX9 := hidq (fun W (hW : But (pset ob sa) wr W) => (show W.cell? ⟨ab, 1, none⟩ = some (.slice (some ⟨xb, 0, none⟩) wn xc3) ∧ W.cell? ⟨bb, 1, none⟩ = some (.slice (some ⟨yb, 0, none⟩) wn yc6) ∧ W.cell? ⟨xb, k, none⟩ = some (.int .i64 (a : Int)) ∧ W.cell? ⟨yb, k, none⟩ = some (.int .i64 (b : Int)) from by
          obtain ⟨h1, h2, h3, h4⟩ := FW.out
          have l3 := t3.lt
          have l6 := t6.lt
          exact ⟨by rw [hW.cell (p := ⟨ab, 1, none⟩) (by show ab < _; omega) hap]; exact h1, by rw [hW.cell (p := ⟨bb, 1, none⟩) (by show bb < _; omega) hbp]; exact h2, by rw [hW.cell (p := ⟨xb, k, none⟩) (by show xb < _; omega) hxp]; exact h3, by rw [hW.cell (p := ⟨yb, k, none⟩) (by show yb < _; omega) hyp]; exact h4⟩))
        have hobs : ¬ inB sa ob := fun e => (r4 _ e).2.1 rfl
        have HP9 := hidq (fun W (hW : Below wr.heap.size wr W) => (show BoxAt W ob cs ∧ SlAt 1 W sa sc sm RL ∧ ¬ inB sa ob from ⟨r1.below hW, r2.below hW, hobs⟩))
        have HLT9 := hidq (fun j (h : pset ob sa j) => (show j < l9 from by rcases h with h | h; (have := r1.lt; omega); (have := r2.lt _ h; omega)))
        have HCS9 := hidq (show cs[0]? = some (.slice sa sm sc) from by rw [← hcs]; rfl)
        have FC9 := hidq (fun W (hW : Below wr.heap.size wr W) => (show W.cell? ⟨ob, 0, none⟩ = some (.slice sa sm sc) from ((r1.below hW).get 0 _ HCS9.out).1))
        have HF9 : ∀ (x : Nat) (w w' : World), Below w.heap.size w w' → ((x = 0 → Below wr.heap.size wr w) ∧ (x = 2 → KEnd l9 ob sa sm 0 cs (RL ++ [.int .i64 (a : Int), .int .i64 (b : Int)]) w)) → ((x = 0 → Below wr.heap.size wr w') ∧ (x = 2 → KEnd l9 ob sa sm 0 cs (RL ++ [.int .i64 (a : Int), .int .i64 (b : Int)]) w')) :=
          fun _ _ _ hB h => ⟨fun e => (h.1 e).trans (hB.mono (h.1 e).size), fun e => (h.2 e).below hB⟩
        have HK := hidq (And.intro r2 (And.intro r3 (And.intro r4 (And.intro r5 (And.intro r6 (And.intro r7 (And.intro ha (And.intro hb (And.intro hcs (And.intro hRL (And.intro hTL (And.intro hsm htm))))))))))))
        have HC := hidq (And.intro hxb (And.intro hyb (And.intro t3.lt (And.intro t6.lt hs0))))
        clear r1 r2 r3 r4 r5 r6 r7 hPA hPB t1 t2 t3 t5 t6 t8 hxb hyb ha hb hcs hRL hTL hsm htm hs0 hxp hyp hap hbp hobs hR
        refine Reg.wp_region_ghost (Reg.gofList (rmerge9R ob ab bb wn xc3 yc6 xb yb k l9 a b sm sc sa RL cs)) (Reg.PPres (pset ob sa)) (Reg.PInv [13, 15] (pset ob sa) wr (fun x w => (x = 0 → Below wr.heap.size wr w) ∧ (x = 2 → KEnd l9 ob sa sm 0 cs (RL ++ [.int .i64 (a : Int), .int .i64 (b : Int)]) w))) 0 (by kernel_rfl) (by kernel_rfl) (Reg.GAllKept.at _ (rmerge9R_kept ob ab bb wn xc3 yc6 xb yb k l9 a b sm sc sa RL cs)) (Reg.PInv.start 16 ⟨fun _ => below_drewN (Below.refl _ _) 1, fun e => by cases e⟩) ⟨?_, ?_, ?_, ?_, ?_, ?_, ?_, ?_, ?_, ?_, ?_, ?_, ?_, ?_, ?_, ?_, trivial⟩ ?_
        · refine Reg.GStepAt.plain (i := 0) rfl ?_
          intro x L ev w hI hk hp hA
          have e7 : ev (.tmp 7) = .pointer (some ⟨ob, 0, none⟩) := hA.oldNone 7 (by kernel_rfl)
          have hcc := hA.const
          clear hA hp
          refine Reg.out_value (v := .pointer (some ⟨ob, 0, none⟩)) ?_ ⟨x, rfl, Reg.PPres.refl _ _ _, Reg.PInv.light HF9 hI 0 (by decide) (Below.refl _ _)⟩
          go_simp
        · refine Reg.GStepAt.plain (i := 1) rfl ?_
          intro x L ev w hI hk hp hA
          have e52 : ev (.tmp 52) = .pointer (some ⟨ob, 0, none⟩) := hA.val 0 _ 52 rfl (hp ⟨0, .data⟩ (by simp) rfl) rfl
          have hcc := hA.const
          have NL := Reg.not_listed hA 1 15 _ rfl ⟨1, .phase⟩ (by simp) rfl hk
          have NL2 := Reg.not_listed hA 1 13 _ rfl ⟨1, .data⟩ (by simp) rfl hk
          clear hA hp
          have hx0 : x = 0 := hI.1.trans (Reg.cnt_zero2 NL2 NL)
          have hBw := hI.2.2.1 hx0
          have f0 := FC9.out w hBw
          refine Reg.out_value (v := .slice sa sm sc) ?_ ⟨x, rfl, Reg.PPres.refl _ _ _, Reg.PInv.light HF9 hI 1 (by decide) (Below.refl _ _)⟩
          clear hI hBw hx0
          go_simp
        · refine Reg.GStepAt.plain (i := 2) rfl ?_
          intro x L ev w hI hk hp hA
          have e5 : ev (.tmp 5) = .pointer (some ⟨ab, 0, none⟩) := hA.oldNone 5 (by kernel_rfl)
          have hcc := hA.const
          clear hA hp
          refine Reg.out_value (v := .pointer (some ⟨ab, 1, none⟩)) ?_ ⟨x, rfl, Reg.PPres.refl _ _ _, Reg.PInv.light HF9 hI 2 (by decide) (Below.refl _ _)⟩
          go_simp
        · refine Reg.GStepAt.plain (i := 3) rfl ?_
          intro x L ev w hI hk hp hA
          have e54 : ev (.tmp 54) = .pointer (some ⟨ab, 1, none⟩) := hA.val 2 _ 54 rfl (hp ⟨2, .data⟩ (by simp) rfl) rfl
          have hcc := hA.const
          clear hA hp
          obtain ⟨f1, f2, f3, f4⟩ := FX9.out w hI.2.1
          refine Reg.out_value (v := .slice (some ⟨xb, 0, none⟩) wn xc3) ?_ ⟨x, rfl, Reg.PPres.refl _ _ _, Reg.PInv.light HF9 hI 3 (by decide) (Below.refl _ _)⟩
          go_simp
        · refine Reg.GStepAt.plain (i := 4) rfl ?_
          intro x L ev w hI hk hp hA
          have e8 : ev (.tmp 8) = .int .i64 (k : Int) := hA.oldNone 8 (by kernel_rfl)
          have hcc := hA.const
          clear hA hp
          refine Reg.out_value (v := .int .i64 (k : Int)) ?_ ⟨x, rfl, Reg.PPres.refl _ _ _, Reg.PInv.light HF9 hI 4 (by decide) (Below.refl _ _)⟩
          go_simp
        · refine Reg.GStepAt.plain (i := 5) rfl ?_
          intro x L ev w hI hk hp hA
          have e55 : ev (.tmp 55) = .slice (some ⟨xb, 0, none⟩) wn xc3 := hA.val 3 _ 55 rfl (hp ⟨3, .data⟩ (by simp) rfl) rfl
          have e56 : ev (.tmp 56) = .int .i64 (k : Int) := hA.val 4 _ 56 rfl (hp ⟨4, .data⟩ (by simp) rfl) rfl
          have hcc := hA.const
          clear hA hp
          refine Reg.out_value (v := .pointer (some ⟨xb, k, none⟩)) ?_ ⟨x, rfl, Reg.PPres.refl _ _ _, Reg.PInv.light HF9 hI 5 (by decide) (Below.refl _ _)⟩
          go_simp
        · refine Reg.GStepAt.plain (i := 6) rfl ?_
          intro x L ev w hI hk hp hA
          have e57 : ev (.tmp 57) = .pointer (some ⟨xb, k, none⟩) := hA.val 5 _ 57 rfl (hp ⟨5, .data⟩ (by simp) rfl) rfl
          have hcc := hA.const
          clear hA hp
          obtain ⟨f1, f2, f3, f4⟩ := FX9.out w hI.2.1
          refine Reg.out_value (v := .int .i64 (a : Int)) ?_ ⟨x, rfl, Reg.PPres.refl _ _ _, Reg.PInv.light HF9 hI 6 (by decide) (Below.refl _ _)⟩
          go_simp
        · refine Reg.GStepAt.plain (i := 7) rfl ?_
          intro x L ev w hI hk hp hA
          have e6 : ev (.tmp 6) = .pointer (some ⟨bb, 0, none⟩) := hA.oldNone 6 (by kernel_rfl)
          have hcc := hA.const
          clear hA hp
          refine Reg.out_value (v := .pointer (some ⟨bb, 1, none⟩)) ?_ ⟨x, rfl, Reg.PPres.refl _ _ _, Reg.PInv.light HF9 hI 7 (by decide) (Below.refl _ _)⟩
          go_simp
        · refine Reg.GStepAt.plain (i := 8) rfl ?_
          intro x L ev w hI hk hp hA
          have e59 : ev (.tmp 59) = .pointer (some ⟨bb, 1, none⟩) := hA.val 7 _ 59 rfl (hp ⟨7, .data⟩ (by simp) rfl) rfl
          have hcc := hA.const
          clear hA hp
          obtain ⟨f1, f2, f3, f4⟩ := FX9.out w hI.2.1
          refine Reg.out_value (v := .slice (some ⟨yb, 0, none⟩) wn yc6) ?_ ⟨x, rfl, Reg.PPres.refl _ _ _, Reg.PInv.light HF9 hI 8 (by decide) (Below.refl _ _)⟩
          go_simp
        · refine Reg.GStepAt.plain (i := 9) rfl ?_
          intro x L ev w hI hk hp hA
          have e8 : ev (.tmp 8) = .int .i64 (k : Int) := hA.oldNone 8 (by kernel_rfl)
          have hcc := hA.const
          clear hA hp
          refine Reg.out_value (v := .int .i64 (k : Int)) ?_ ⟨x, rfl, Reg.PPres.refl _ _ _, Reg.PInv.light HF9 hI 9 (by decide) (Below.refl _ _)⟩
          go_simp
        · refine Reg.GStepAt.plain (i := 10) rfl ?_
          intro x L ev w hI hk hp hA
          have e60 : ev (.tmp 60) = .slice (some ⟨yb, 0, none⟩) wn yc6 := hA.val 8 _ 60 rfl (hp ⟨8, .data⟩ (by simp) rfl) rfl
          have e61 : ev (.tmp 61) = .int .i64 (k : Int) := hA.val 9 _ 61 rfl (hp ⟨9, .data⟩ (by simp) rfl) rfl
          have hcc := hA.const
          clear hA hp
          refine Reg.out_value (v := .pointer (some ⟨yb, k, none⟩)) ?_ ⟨x, rfl, Reg.PPres.refl _ _ _, Reg.PInv.light HF9 hI 10 (by decide) (Below.refl _ _)⟩
          go_simp
        · refine Reg.GStepAt.plain (i := 11) rfl ?_
          intro x L ev w hI hk hp hA
          have e62 : ev (.tmp 62) = .pointer (some ⟨yb, k, none⟩) := hA.val 10 _ 62 rfl (hp ⟨10, .data⟩ (by simp) rfl) rfl
          have hcc := hA.const
          clear hA hp
          obtain ⟨f1, f2, f3, f4⟩ := FX9.out w hI.2.1
          refine Reg.out_value (v := .int .i64 (b : Int)) ?_ ⟨x, rfl, Reg.PPres.refl _ _ _, Reg.PInv.light HF9 hI 11 (by decide) (Below.refl _ _)⟩
          go_simp
        · refine Reg.GStepAt.plain (i := 12) rfl ?_
          intro x L ev w hI hk hp hA
          have e58 : ev (.tmp 58) = .int .i64 (a : Int) := hA.val 6 _ 58 rfl (hp ⟨6, .data⟩ (by simp) rfl) rfl
          have e63 : ev (.tmp 63) = .int .i64 (b : Int) := hA.val 11 _ 63 rfl (hp ⟨11, .data⟩ (by simp) rfl) rfl
          have hcc := hA.const
          clear hA hp
          refine Reg.out_new (v := .slice (some ⟨w.heap.size, 0, none⟩) 2 2) (w' := w.alloc (.cells #[.int .i64 (a : Int), .int .i64 (b : Int)] 3)) ?_ ⟨x, ⟨w.heap.size, rfl, BoxAt.new w [.int .i64 (a : Int), .int .i64 (b : Int)] 3, by have h1 := hI.2.1.size; omega, fun e => by have h1 := hI.2.1.size; have h2 := HLT9.out _ e; omega⟩, Reg.PPres.light ((Below.refl _ _).alloc (Nat.le_refl _) _), Reg.PInv.light HF9 hI 12 (by decide) ((Below.refl _ _).alloc (Nat.le_refl _) _)⟩
          clear hI hk
          go_simp
        · refine Reg.GStepAt.plain (i := 13) rfl ?_
          intro x L ev w hI hk hp hA
          have e53 : ev (.tmp 53) = .slice sa sm sc := hA.val 1 _ 53 rfl (hp ⟨1, .data⟩ (by simp) rfl) rfl
          have e64 : (fun v _ w => ∃ g, v = .slice (some ⟨g, 0, none⟩) 2 2 ∧ BoxAt w g [.int .i64 (a : Int), .int .i64 (b : Int)] ∧ l9 ≤ g ∧ ¬ pset ob sa g) (ev (.tmp 64)) x w := hA.val 12 _ 64 rfl (hp ⟨12, .data⟩ (by simp) rfl) rfl
          have hcc := hA.const
          have NL := Reg.not_listed hA 13 15 _ rfl ⟨13, .data⟩ (by simp) rfl hk
          clear hA hp
          have hx0 : x = 0 := hI.1.trans (Reg.cnt_zero2 (Reg.getD_true hk) NL)
          have hBw := hI.2.2.1 hx0
          obtain ⟨g, e64, hG, hlg, hSg⟩ := e64
          obtain ⟨pB, pS, pN⟩ := HP9.out w hBw
          obtain ⟨g', c', w', hrun, hF', hb', hg'⟩ := sl_append plainN 24 w sa sc sm _ pS _ 2 [.int .i64 (a : Int), .int .i64 (b : Int)] (Src.ofSlice w Try.underlying24 ⟨g, 0, none⟩ 2 2 [.int .i64 (a : Int), .int .i64 (b : Int)] rfl (fun j u hu => by rw [Addr.add_lit, Nat.zero_add]; exact hG.cell j u hu) (by intro u hu; simp at hu; rcases hu with rfl | rfl <;> rfl)) (by omega) (by omega)
          have hbS := hb'.mono (T := pset ob sa) (fun j _ e => .inr e)
          have hne : g' ≠ ob := hg'.elim (fun h e => pN (e ▸ h)) (fun h e => by have := pB.lt; omega)
          refine Reg.out_new (v := .slice (some ⟨g', 0, none⟩) (sm + 2) c') (w' := w') ?_ ⟨x + 1, ⟨by omega, g', c', rfl, fun _ => ⟨hF', pB.but hb' pN, hne, hg'.imp id (fun h => by have := hBw.size; omega)⟩⟩, Reg.PPres.heavy hbS, Reg.PInv.heavy hI 13 (by decide) (by simp) hk hbS ⟨fun e => by omega, fun e => by omega⟩⟩
          simp [execOp, resolve, invoke, builtin, e53, e64, hrun, Result.andThen]
        · refine Reg.GStepAt.plain (i := 14) rfl ?_
          intro x L ev w hI hk hp hA
          have e7 : ev (.tmp 7) = .pointer (some ⟨ob, 0, none⟩) := hA.oldNone 7 (by kernel_rfl)
          have hcc := hA.const
          clear hA hp
          refine Reg.out_value (v := .pointer (some ⟨ob, 0, none⟩)) ?_ ⟨x, rfl, Reg.PPres.refl _ _ _, Reg.PInv.light HF9 hI 14 (by decide) (Below.refl _ _)⟩
          go_simp
        · refine Reg.GStepAt.plain (i := 15) rfl ?_
          intro x L ev w hI hk hp hA
          have e66 : ev (.tmp 66) = .pointer (some ⟨ob, 0, none⟩) := hA.val 14 _ 66 rfl (hp ⟨14, .data⟩ (by simp) rfl) rfl
          have e65 : (fun v x w => 1 ≤ x ∧ ∃ g c, v = .slice (some ⟨g, 0, none⟩) (sm + 2) c ∧ (x = 1 → Flat 1 w g c (sm + 2) (RL ++ [.int .i64 (a : Int), .int .i64 (b : Int)]) ∧ BoxAt w ob cs ∧ g ≠ ob ∧ (inB sa g ∨ l9 ≤ g))) (ev (.tmp 65)) x w := hA.val 13 _ 65 rfl (hp ⟨13, .data⟩ (by simp) rfl) rfl
          have hcc := hA.const
          have L13 : L.getD 13 false = true := hp ⟨13, .data⟩ (by simp) rfl
          clear hA hp
          have hx1 : x = 1 := hI.1.trans (Reg.cnt_one2 L13 (Reg.getD_true hk))
          obtain ⟨_, g, c, e65, h29⟩ := e65
          obtain ⟨q1, q2, q3, q4⟩ := h29 hx1
          obtain ⟨c1, y1⟩ := q2.get 0 _ HCS9.out
          have hbS : But (pset ob sa) w (w.setCell ⟨ob, 0, none⟩ (.slice (some ⟨g, 0, none⟩) (sm + 2) c)) := (But.refl _ w).set1 ob 0 (.inl rfl) _
          have hb1 : But (fun j => j = ob) w (w.setCell ⟨ob, 0, none⟩ (.slice (some ⟨g, 0, none⟩) (sm + 2) c)) := (But.refl (fun j => j = ob) w).set1 ob 0 rfl _
          refine Reg.out_skipP (w' := (w.setCell ⟨ob, 0, none⟩ (.slice (some ⟨g, 0, none⟩) (sm + 2) c))) ?_ ⟨x + 1, trivial, Reg.PPres.heavy hbS, Reg.PInv.heavy hI 15 (by decide) (by simp) hk hbS ⟨fun e => by omega, fun _ => ⟨g, c, q2.set 0 _, q1.but hb1 q3, q3, q4⟩⟩⟩
          clear hI q1 q2 hbS hb1
          go_simp
        intro gx L act wz hall hI hF
        have g52 : act.eval (.tmp 52) = .pointer (some ⟨ob, 0, none⟩) := hF.val 0 _ 52 rfl (hall 0 (by simp)) rfl
        have g53 : act.eval (.tmp 53) = .slice sa sm sc := hF.val 1 _ 53 rfl (hall 1 (by simp)) rfl
        have g54 : act.eval (.tmp 54) = .pointer (some ⟨ab, 1, none⟩) := hF.val 2 _ 54 rfl (hall 2 (by simp)) rfl
        have g55 : act.eval (.tmp 55) = .slice (some ⟨xb, 0, none⟩) wn xc3 := hF.val 3 _ 55 rfl (hall 3 (by simp)) rfl
        have g56 : act.eval (.tmp 56) = .int .i64 (k : Int) := hF.val 4 _ 56 rfl (hall 4 (by simp)) rfl
        have g57 : act.eval (.tmp 57) = .pointer (some ⟨xb, k, none⟩) := hF.val 5 _ 57 rfl (hall 5 (by simp)) rfl
        have g58 : act.eval (.tmp 58) = .int .i64 (a : Int) := hF.val 6 _ 58 rfl (hall 6 (by simp)) rfl
        have g59 : act.eval (.tmp 59) = .pointer (some ⟨bb, 1, none⟩) := hF.val 7 _ 59 rfl (hall 7 (by simp)) rfl
        have g60 : act.eval (.tmp 60) = .slice (some ⟨yb, 0, none⟩) wn yc6 := hF.val 8 _ 60 rfl (hall 8 (by simp)) rfl
        have g61 : act.eval (.tmp 61) = .int .i64 (k : Int) := hF.val 9 _ 61 rfl (hall 9 (by simp)) rfl
        have g62 : act.eval (.tmp 62) = .pointer (some ⟨yb, k, none⟩) := hF.val 10 _ 62 rfl (hall 10 (by simp)) rfl
        have g63 : act.eval (.tmp 63) = .int .i64 (b : Int) := hF.val 11 _ 63 rfl (hall 11 (by simp)) rfl
        have g64 : (fun v _ w => ∃ g, v = .slice (some ⟨g, 0, none⟩) 2 2 ∧ BoxAt w g [.int .i64 (a : Int), .int .i64 (b : Int)] ∧ l9 ≤ g ∧ ¬ pset ob sa g) (act.eval (.tmp 64)) gx wz := hF.val 12 _ 64 rfl (hall 12 (by simp)) rfl
        have g65 : (fun v x w => 1 ≤ x ∧ ∃ g c, v = .slice (some ⟨g, 0, none⟩) (sm + 2) c ∧ (x = 1 → Flat 1 w g c (sm + 2) (RL ++ [.int .i64 (a : Int), .int .i64 (b : Int)]) ∧ BoxAt w ob cs ∧ g ≠ ob ∧ (inB sa g ∨ l9 ≤ g))) (act.eval (.tmp 65)) gx wz := hF.val 13 _ 65 rfl (hall 13 (by simp)) rfl
        have g66 : act.eval (.tmp 66) = .pointer (some ⟨ob, 0, none⟩) := hF.val 14 _ 66 rfl (hall 14 (by simp)) rfl
        have hact := hF.act [52, 53, 54, 55, 56, 57, 58, 59, 60, 61, 62, 63, 64, 65, 66] (by kernel_rfl)
        obtain ⟨hxz, hBz, hFz⟩ := Reg.PInv.done hI (fun j hj => hall j (by simp at hj ⊢; omega))
        clear hF hall
        simp only [List.foldl_cons, List.foldl_nil] at hact
        rw [g52, g53, g54, g55, g56, g57, g58, g59, g60, g61, g62, g63, g66] at hact
        clear g52 g53 g54 g55 g56 g57 g58 g59 g60 g61 g62 g63 g66
        generalize act.eval (.tmp 64) = u64 at hact g64
        generalize act.eval (.tmp 65) = u65 at hact g65
        simp only [List.setIfInBounds_toArray, List.set_cons_succ, List.set_cons_zero] at hact
        subst hact
        obtain ⟨g, c, y1, y2, y3, y4⟩ := hFz.2 rfl
        obtain ⟨r2, r3, r4, r5, r6, r7, ha, hb, hcs, hRL, hTL, hsm, htm⟩ := HK.out
        obtain ⟨V, hV⟩ : ∃ V, V = wz := ⟨_, rfl⟩
        subst hV
        have hc2 : cs.set 0 (.slice (some ⟨g, 0, none⟩) (sm + 2) c) = [.slice (some ⟨g, 0, none⟩) (sm + 2) c, .slice ta tm tc] := by rw [← hcs]; rfl
        rw [hc2] at y1
        obtain ⟨ct, hct⟩ : ∃ ct, [Value.slice (some ⟨g, 0, none⟩) (sm + 2) c, Value.slice ta tm tc] = ct := ⟨_, rfl⟩
        rw [hct] at y1
        have hTV : SlAt 1 V ta tc tm TL := r3.but hBz (fun j hj e => e.elim (fun e => (r5 j hj).2 e) (fun e => (r4 j e).2.2 hj))
        obtain ⟨l10, hl10⟩ : ∃ l10, V.heap.size = l10 := ⟨_, rfl⟩
        have hsV := hBz.size
        obtain ⟨hxb, hyb, hab3, hbb6, hs0⟩ := HC.out
        have hxq : ¬ pset ob ta xb := fun e => e.elim (fun e => by omega) (fun e => by have := (r5 _ e).1; omega)
        have hyq : ¬ pset ob ta yb := fun e => e.elim (fun e => by omega) (fun e => by have := (r5 _ e).1; omega)
        have haq : ¬ pset ob ta ab := fun e => e.elim (fun e => by omega) (fun e => by have := (r5 _ e).1; omega)
        have hbq : ¬ pset ob ta bb := fun e => e.elim (fun e => by omega) (fun e => by have := (r5 _ e).1; omega)
        have FV := hidq (FX9.out V hBz)
        have FX10 := hidq (fun W (hW : But (pset ob ta) V W) => (show W.cell? ⟨ab, 1, none⟩ = some (.slice (some ⟨xb, 0, none⟩) wn xc3) ∧ W.cell? ⟨bb, 1, none⟩ = some (.slice (some ⟨yb, 0, none⟩) wn yc6) ∧ W.cell? ⟨xb, k, none⟩ = some (.int .i64 (a : Int)) ∧ W.cell? ⟨yb, k, none⟩ = some (.int .i64 (b : Int)) from by
          obtain ⟨h1, h2, h3, h4⟩ := FV.out
          exact ⟨by rw [hW.cell (p := ⟨ab, 1, none⟩) (by show ab < _; omega) haq]; exact h1, by rw [hW.cell (p := ⟨bb, 1, none⟩) (by show bb < _; omega) hbq]; exact h2, by rw [hW.cell (p := ⟨xb, k, none⟩) (by show xb < _; omega) hxq]; exact h3, by rw [hW.cell (p := ⟨yb, k, none⟩) (by show yb < _; omega) hyq]; exact h4⟩))
        have hobt : ¬ inB ta ob := fun e => (r5 _ e).2 rfl
        have HP10 := hidq (fun W (hW : Below V.heap.size V W) => (show BoxAt W ob ct ∧ SlAt 1 W ta tc tm TL ∧ ¬ inB ta ob from ⟨y1.below hW, hTV.below hW, hobt⟩))
        have HLT10 := hidq (fun j (h : pset ob ta j) => (show j < l10 from by rcases h with h | h; (have := y1.lt; omega); (have := hTV.lt _ h; omega)))
        have HCS10 := hidq (show ct[1]? = some (.slice ta tm tc) from by rw [← hct]; rfl)
        have FC10 := hidq (fun W (hW : Below V.heap.size V W) => (show W.cell? ⟨ob, 1, none⟩ = some (.slice ta tm tc) from ((y1.below hW).get 1 _ HCS10.out).1))
        have HF10 : ∀ (x : Nat) (w w' : World), Below w.heap.size w w' → ((x = 0 → Below V.heap.size V w) ∧ (x = 2 → KEnd l10 ob ta tm 1 ct (TL ++ [.int .i64 (a : Int), .int .i64 (b : Int)]) w)) → ((x = 0 → Below V.heap.size V w') ∧ (x = 2 → KEnd l10 ob ta tm 1 ct (TL ++ [.int .i64 (a : Int), .int .i64 (b : Int)]) w')) :=
          fun _ _ _ hB h => ⟨fun e => (h.1 e).trans (hB.mono (h.1 e).size), fun e => (h.2 e).below hB⟩
        have HV := hidq (And.intro hBz (And.intro y2 (And.intro y3 (And.intro y4 hct))))
        clear hFz hBz hI hxz g64 g65 HF9 HP9 HLT9 HCS9 FC9 FX9 FW FV y1 y2 y3 y4 hct hc2 r2 r3 r4 r5 r6 r7 ha hb hcs hRL hTL hsm htm hTV hsV hxb hyb hab3 hbb6 hs0 hxq hyq haq hbq hobt
        go_wp2_with fail
        refine Reg.wp_region_ghost (Reg.gofList (rmerge10R ob ab bb wn xc3 yc6 xb yb k l10 a b tm tc ta TL ct)) (Reg.PPres (pset ob ta)) (Reg.PInv [13, 15] (pset ob ta) V (fun x w => (x = 0 → Below V.heap.size V w) ∧ (x = 2 → KEnd l10 ob ta tm 1 ct (TL ++ [.int .i64 (a : Int), .int .i64 (b : Int)]) w))) 0 (by kernel_rfl) (by kernel_rfl) (Reg.GAllKept.at _ (rmerge10R_kept ob ab bb wn xc3 yc6 xb yb k l10 a b tm tc ta TL ct)) (Reg.PInv.start 16 ⟨fun _ => below_drewN (Below.refl _ _) 1, fun e => by cases e⟩) ⟨?_, ?_, ?_, ?_, ?_, ?_, ?_, ?_, ?_, ?_, ?_, ?_, ?_, ?_, ?_, ?_, trivial⟩ ?_
        · refine Reg.GStepAt.plain (i := 0) rfl ?_
          intro x L ev w hI hk hp hA
          have e7 : ev (.tmp 7) = .pointer (some ⟨ob, 0, none⟩) := hA.oldNone 7 (by kernel_rfl)
          have hcc := hA.const
          clear hA hp
          refine Reg.out_value (v := .pointer (some ⟨ob, 1, none⟩)) ?_ ⟨x, rfl, Reg.PPres.refl _ _ _, Reg.PInv.light HF10 hI 0 (by decide) (Below.refl _ _)⟩
          go_simp
        · refine Reg.GStepAt.plain (i := 1) rfl ?_
          intro x L ev w hI hk hp hA
          have e67 : ev (.tmp 67) = .pointer (some ⟨ob, 1, none⟩) := hA.val 0 _ 67 rfl (hp ⟨0, .data⟩ (by simp) rfl) rfl
          have hcc := hA.const
          have NL := Reg.not_listed hA 1 15 _ rfl ⟨1, .phase⟩ (by simp) rfl hk
          have NL2 := Reg.not_listed hA 1 13 _ rfl ⟨1, .data⟩ (by simp) rfl hk
          clear hA hp
          have hx0 : x = 0 := hI.1.trans (Reg.cnt_zero2 NL2 NL)
          have hBw := hI.2.2.1 hx0
          have f0 := FC10.out w hBw
          refine Reg.out_value (v := .slice ta tm tc) ?_ ⟨x, rfl, Reg.PPres.refl _ _ _, Reg.PInv.light HF10 hI 1 (by decide) (Below.refl _ _)⟩
          clear hI hBw hx0
          go_simp
        · refine Reg.GStepAt.plain (i := 2) rfl ?_
          intro x L ev w hI hk hp hA
          have e5 : ev (.tmp 5) = .pointer (some ⟨ab, 0, none⟩) := hA.oldNone 5 (by kernel_rfl)
          have hcc := hA.const
          clear hA hp
          refine Reg.out_value (v := .pointer (some ⟨ab, 1, none⟩)) ?_ ⟨x, rfl, Reg.PPres.refl _ _ _, Reg.PInv.light HF10 hI 2 (by decide) (Below.refl _ _)⟩
          go_simp
        · refine Reg.GStepAt.plain (i := 3) rfl ?_
          intro x L ev w hI hk hp hA
          have e69 : ev (.tmp 69) = .pointer (some ⟨ab, 1, none⟩) := hA.val 2 _ 69 rfl (hp ⟨2, .data⟩ (by simp) rfl) rfl
          have hcc := hA.const
          clear hA hp
          obtain ⟨f1, f2, f3, f4⟩ := FX10.out w hI.2.1
          refine Reg.out_value (v := .slice (some ⟨xb, 0, none⟩) wn xc3) ?_ ⟨x, rfl, Reg.PPres.refl _ _ _, Reg.PInv.light HF10 hI 3 (by decide) (Below.refl _ _)⟩
          go_simp
        · refine Reg.GStepAt.plain (i := 4) rfl ?_
          intro x L ev w hI hk hp hA
          have e8 : ev (.tmp 8) = .int .i64 (k : Int) := hA.oldNone 8 (by kernel_rfl)
          have hcc := hA.const
          clear hA hp
          refine Reg.out_value (v := .int .i64 (k : Int)) ?_ ⟨x, rfl, Reg.PPres.refl _ _ _, Reg.PInv.light HF10 hI 4 (by decide) (Below.refl _ _)⟩
          go_simp
        · refine Reg.GStepAt.plain (i := 5) rfl ?_
          intro x L ev w hI hk hp hA
          have e70 : ev (.tmp 70) = .slice (some ⟨xb, 0, none⟩) wn xc3 := hA.val 3 _ 70 rfl (hp ⟨3, .data⟩ (by simp) rfl) rfl
          have e71 : ev (.tmp 71) = .int .i64 (k : Int) := hA.val 4 _ 71 rfl (hp ⟨4, .data⟩ (by simp) rfl) rfl
          have hcc := hA.const
          clear hA hp
          refine Reg.out_value (v := .pointer (some ⟨xb, k, none⟩)) ?_ ⟨x, rfl, Reg.PPres.refl _ _ _, Reg.PInv.light HF10 hI 5 (by decide) (Below.refl _ _)⟩
          go_simp
        · refine Reg.GStepAt.plain (i := 6) rfl ?_
          intro x L ev w hI hk hp hA
          have e72 : ev (.tmp 72) = .pointer (some ⟨xb, k, none⟩) := hA.val 5 _ 72 rfl (hp ⟨5, .data⟩ (by simp) rfl) rfl
          have hcc := hA.const
          clear hA hp
          obtain ⟨f1, f2, f3, f4⟩ := FX10.out w hI.2.1
          refine Reg.out_value (v := .int .i64 (a : Int)) ?_ ⟨x, rfl, Reg.PPres.refl _ _ _, Reg.PInv.light HF10 hI 6 (by decide) (Below.refl _ _)⟩
          go_simp
        · refine Reg.GStepAt.plain (i := 7) rfl ?_
          intro x L ev w hI hk hp hA
          have e6 : ev (.tmp 6) = .pointer (some ⟨bb, 0, none⟩) := hA.oldNone 6 (by kernel_rfl)
          have hcc := hA.const
          clear hA hp
          refine Reg.out_value (v := .pointer (some ⟨bb, 1, none⟩)) ?_ ⟨x, rfl, Reg.PPres.refl _ _ _, Reg.PInv.light HF10 hI 7 (by decide) (Below.refl _ _)⟩
          go_simp
        · refine Reg.GStepAt.plain (i := 8) rfl ?_
          intro x L ev w hI hk hp hA
          have e74 : ev (.tmp 74) = .pointer (some ⟨bb, 1, none⟩) := hA.val 7 _ 74 rfl (hp ⟨7, .data⟩ (by simp) rfl) rfl
          have hcc := hA.const
          clear hA hp
          obtain ⟨f1, f2, f3, f4⟩ := FX10.out w hI.2.1
          refine Reg.out_value (v := .slice (some ⟨yb, 0, none⟩) wn yc6) ?_ ⟨x, rfl, Reg.PPres.refl _ _ _, Reg.PInv.light HF10 hI 8 (by decide) (Below.refl _ _)⟩
          go_simp
        · refine Reg.GStepAt.plain (i := 9) rfl ?_
          intro x L ev w hI hk hp hA
          have e8 : ev (.tmp 8) = .int .i64 (k : Int) := hA.oldNone 8 (by kernel_rfl)
          have hcc := hA.const
          clear hA hp
          refine Reg.out_value (v := .int .i64 (k : Int)) ?_ ⟨x, rfl, Reg.PPres.refl _ _ _, Reg.PInv.light HF10 hI 9 (by decide) (Below.refl _ _)⟩
          go_simp
        · refine Reg.GStepAt.plain (i := 10) rfl ?_
          intro x L ev w hI hk hp hA
          have e75 : ev (.tmp 75) = .slice (some ⟨yb, 0, none⟩) wn yc6 := hA.val 8 _ 75 rfl (hp ⟨8, .data⟩ (by simp) rfl) rfl
          have e76 : ev (.tmp 76) = .int .i64 (k : Int) := hA.val 9 _ 76 rfl (hp ⟨9, .data⟩ (by simp) rfl) rfl
          have hcc := hA.const
          clear hA hp
          refine Reg.out_value (v := .pointer (some ⟨yb, k, none⟩)) ?_ ⟨x, rfl, Reg.PPres.refl _ _ _, Reg.PInv.light HF10 hI 10 (by decide) (Below.refl _ _)⟩
          go_simp
        · refine Reg.GStepAt.plain (i := 11) rfl ?_
          intro x L ev w hI hk hp hA
          have e77 : ev (.tmp 77) = .pointer (some ⟨yb, k, none⟩) := hA.val 10 _ 77 rfl (hp ⟨10, .data⟩ (by simp) rfl) rfl
          have hcc := hA.const
          clear hA hp
          obtain ⟨f1, f2, f3, f4⟩ := FX10.out w hI.2.1
          refine Reg.out_value (v := .int .i64 (b : Int)) ?_ ⟨x, rfl, Reg.PPres.refl _ _ _, Reg.PInv.light HF10 hI 11 (by decide) (Below.refl _ _)⟩
          go_simp
        · refine Reg.GStepAt.plain (i := 12) rfl ?_
          intro x L ev w hI hk hp hA
          have e73 : ev (.tmp 73) = .int .i64 (a : Int) := hA.val 6 _ 73 rfl (hp ⟨6, .data⟩ (by simp) rfl) rfl
          have e78 : ev (.tmp 78) = .int .i64 (b : Int) := hA.val 11 _ 78 rfl (hp ⟨11, .data⟩ (by simp) rfl) rfl
          have hcc := hA.const
          clear hA hp
          refine Reg.out_new (v := .slice (some ⟨w.heap.size, 0, none⟩) 2 2) (w' := w.alloc (.cells #[.int .i64 (a : Int), .int .i64 (b : Int)] 3)) ?_ ⟨x, ⟨w.heap.size, rfl, BoxAt.new w [.int .i64 (a : Int), .int .i64 (b : Int)] 3, by have h1 := hI.2.1.size; omega, fun e => by have h1 := hI.2.1.size; have h2 := HLT10.out _ e; omega⟩, Reg.PPres.light ((Below.refl _ _).alloc (Nat.le_refl _) _), Reg.PInv.light HF10 hI 12 (by decide) ((Below.refl _ _).alloc (Nat.le_refl _) _)⟩
          clear hI hk
          go_simp
        · refine Reg.GStepAt.plain (i := 13) rfl ?_
          intro x L ev w hI hk hp hA
          have e68 : ev (.tmp 68) = .slice ta tm tc := hA.val 1 _ 68 rfl (hp ⟨1, .data⟩ (by simp) rfl) rfl
          have e79 : (fun v _ w => ∃ g, v = .slice (some ⟨g, 0, none⟩) 2 2 ∧ BoxAt w g [.int .i64 (a : Int), .int .i64 (b : Int)] ∧ l10 ≤ g ∧ ¬ pset ob ta g) (ev (.tmp 79)) x w := hA.val 12 _ 79 rfl (hp ⟨12, .data⟩ (by simp) rfl) rfl
          have hcc := hA.const
          have NL := Reg.not_listed hA 13 15 _ rfl ⟨13, .data⟩ (by simp) rfl hk
          clear hA hp
          have hx0 : x = 0 := hI.1.trans (Reg.cnt_zero2 (Reg.getD_true hk) NL)
          have hBw := hI.2.2.1 hx0
          obtain ⟨g, e79, hG, hlg, hSg⟩ := e79
          obtain ⟨pB, pS, pN⟩ := HP10.out w hBw
          obtain ⟨g', c', w', hrun, hF', hb', hg'⟩ := sl_append plainN 24 w ta tc tm _ pS _ 2 [.int .i64 (a : Int), .int .i64 (b : Int)] (Src.ofSlice w Try.underlying24 ⟨g, 0, none⟩ 2 2 [.int .i64 (a : Int), .int .i64 (b : Int)] rfl (fun j u hu => by rw [Addr.add_lit, Nat.zero_add]; exact hG.cell j u hu) (by intro u hu; simp at hu; rcases hu with rfl | rfl <;> rfl)) (by omega) (by omega)
          have hbS := hb'.mono (T := pset ob ta) (fun j _ e => .inr e)
          have hne : g' ≠ ob := hg'.elim (fun h e => pN (e ▸ h)) (fun h e => by have := pB.lt; omega)
          refine Reg.out_new (v := .slice (some ⟨g', 0, none⟩) (tm + 2) c') (w' := w') ?_ ⟨x + 1, ⟨by omega, g', c', rfl, fun _ => ⟨hF', pB.but hb' pN, hne, hg'.imp id (fun h => by have := hBw.size; omega)⟩⟩, Reg.PPres.heavy hbS, Reg.PInv.heavy hI 13 (by decide) (by simp) hk hbS ⟨fun e => by omega, fun e => by omega⟩⟩
          simp [execOp, resolve, invoke, builtin, e68, e79, hrun, Result.andThen]
        · refine Reg.GStepAt.plain (i := 14) rfl ?_
          intro x L ev w hI hk hp hA
          have e7 : ev (.tmp 7) = .pointer (some ⟨ob, 0, none⟩) := hA.oldNone 7 (by kernel_rfl)
          have hcc := hA.const
          clear hA hp
          refine Reg.out_value (v := .pointer (some ⟨ob, 1, none⟩)) ?_ ⟨x, rfl, Reg.PPres.refl _ _ _, Reg.PInv.light HF10 hI 14 (by decide) (Below.refl _ _)⟩
          go_simp
        · refine Reg.GStepAt.plain (i := 15) rfl ?_
          intro x L ev w hI hk hp hA
          have e81 : ev (.tmp 81) = .pointer (some ⟨ob, 1, none⟩) := hA.val 14 _ 81 rfl (hp ⟨14, .data⟩ (by simp) rfl) rfl
          have e80 : (fun v x w => 1 ≤ x ∧ ∃ g c, v = .slice (some ⟨g, 0, none⟩) (tm + 2) c ∧ (x = 1 → Flat 1 w g c (tm + 2) (TL ++ [.int .i64 (a : Int), .int .i64 (b : Int)]) ∧ BoxAt w ob ct ∧ g ≠ ob ∧ (inB ta g ∨ l10 ≤ g))) (ev (.tmp 80)) x w := hA.val 13 _ 80 rfl (hp ⟨13, .data⟩ (by simp) rfl) rfl
          have hcc := hA.const
          have L13 : L.getD 13 false = true := hp ⟨13, .data⟩ (by simp) rfl
          clear hA hp
          have hx1 : x = 1 := hI.1.trans (Reg.cnt_one2 L13 (Reg.getD_true hk))
          obtain ⟨_, g, c, e80, h29⟩ := e80
          obtain ⟨q1, q2, q3, q4⟩ := h29 hx1
          obtain ⟨c1, y1⟩ := q2.get 1 _ HCS10.out
          have hbS : But (pset ob ta) w (w.setCell ⟨ob, 1, none⟩ (.slice (some ⟨g, 0, none⟩) (tm + 2) c)) := (But.refl _ w).set1 ob 1 (.inl rfl) _
          have hb1 : But (fun j => j = ob) w (w.setCell ⟨ob, 1, none⟩ (.slice (some ⟨g, 0, none⟩) (tm + 2) c)) := (But.refl (fun j => j = ob) w).set1 ob 1 rfl _
          refine Reg.out_skipP (w' := (w.setCell ⟨ob, 1, none⟩ (.slice (some ⟨g, 0, none⟩) (tm + 2) c))) ?_ ⟨x + 1, trivial, Reg.PPres.heavy hbS, Reg.PInv.heavy hI 15 (by decide) (by simp) hk hbS ⟨fun e => by omega, fun _ => ⟨g, c, q2.set 1 _, q1.but hb1 q3, q3, q4⟩⟩⟩
          clear hI q1 q2 hbS hb1
          go_simp
        intro gx L act wz hall hI hF
        have g67 : act.eval (.tmp 67) = .pointer (some ⟨ob, 1, none⟩) := hF.val 0 _ 67 rfl (hall 0 (by simp)) rfl
        have g68 : act.eval (.tmp 68) = .slice ta tm tc := hF.val 1 _ 68 rfl (hall 1 (by simp)) rfl
        have g69 : act.eval (.tmp 69) = .pointer (some ⟨ab, 1, none⟩) := hF.val 2 _ 69 rfl (hall 2 (by simp)) rfl
        have g70 : act.eval (.tmp 70) = .slice (some ⟨xb, 0, none⟩) wn xc3 := hF.val 3 _ 70 rfl (hall 3 (by simp)) rfl
        have g71 : act.eval (.tmp 71) = .int .i64 (k : Int) := hF.val 4 _ 71 rfl (hall 4 (by simp)) rfl
        have g72 : act.eval (.tmp 72) = .pointer (some ⟨xb, k, none⟩) := hF.val 5 _ 72 rfl (hall 5 (by simp)) rfl
        have g73 : act.eval (.tmp 73) = .int .i64 (a : Int) := hF.val 6 _ 73 rfl (hall 6 (by simp)) rfl
        have g74 : act.eval (.tmp 74) = .pointer (some ⟨bb, 1, none⟩) := hF.val 7 _ 74 rfl (hall 7 (by simp)) rfl
        have g75 : act.eval (.tmp 75) = .slice (some ⟨yb, 0, none⟩) wn yc6 := hF.val 8 _ 75 rfl (hall 8 (by simp)) rfl
        have g76 : act.eval (.tmp 76) = .int .i64 (k : Int) := hF.val 9 _ 76 rfl (hall 9 (by simp)) rfl
        have g77 : act.eval (.tmp 77) = .pointer (some ⟨yb, k, none⟩) := hF.val 10 _ 77 rfl (hall 10 (by simp)) rfl
        have g78 : act.eval (.tmp 78) = .int .i64 (b : Int) := hF.val 11 _ 78 rfl (hall 11 (by simp)) rfl
        have g79 : (fun v _ w => ∃ g, v = .slice (some ⟨g, 0, none⟩) 2 2 ∧ BoxAt w g [.int .i64 (a : Int), .int .i64 (b : Int)] ∧ l10 ≤ g ∧ ¬ pset ob ta g) (act.eval (.tmp 79)) gx wz := hF.val 12 _ 79 rfl (hall 12 (by simp)) rfl
        have g80 : (fun v x w => 1 ≤ x ∧ ∃ g c, v = .slice (some ⟨g, 0, none⟩) (tm + 2) c ∧ (x = 1 → Flat 1 w g c (tm + 2) (TL ++ [.int .i64 (a : Int), .int .i64 (b : Int)]) ∧ BoxAt w ob ct ∧ g ≠ ob ∧ (inB ta g ∨ l10 ≤ g))) (act.eval (.tmp 80)) gx wz := hF.val 13 _ 80 rfl (hall 13 (by simp)) rfl
        have g81 : act.eval (.tmp 81) = .pointer (some ⟨ob, 1, none⟩) := hF.val 14 _ 81 rfl (hall 14 (by simp)) rfl
        have hact := hF.act [67, 68, 69, 70, 71, 72, 73, 74, 75, 76, 77, 78, 79, 80, 81] (by kernel_rfl)
        obtain ⟨hxz, hBz, hFz⟩ := Reg.PInv.done hI (fun j hj => hall j (by simp at hj ⊢; omega))
        clear hF hall
        simp only [List.foldl_cons, List.foldl_nil] at hact
        rw [g67, g68, g69, g70, g71, g72, g73, g74, g75, g76, g77, g78, g81] at hact
        clear g67 g68 g69 g70 g71 g72 g73 g74 g75 g76 g77 g78 g81
        generalize act.eval (.tmp 79) = u79 at hact g79
        generalize act.eval (.tmp 80) = u80 at hact g80
        simp only [List.setIfInBounds_toArray, List.set_cons_succ, List.set_cons_zero] at hact
        subst hact
        have HN9 := hidq (show RR W0 ob (pn + qn) (PA ++ PB) A.2 B.2 (k + 1) wz from by
          obtain ⟨h, c2, v1, v2, v3, v4⟩ := hFz.2 rfl
          obtain ⟨r2, r3, r4, r5, r6, r7, ha, hb, hcs, hRL, hTL, hsm, htm⟩ := HK.out
          obtain ⟨hBV, y2, y3, y4, hct⟩ := HV.out
          have hc3 : ct.set 1 (.slice (some ⟨h, 0, none⟩) (tm + 2) c2) = [.slice (some ⟨g, 0, none⟩) (sm + 2) c, .slice (some ⟨h, 0, none⟩) (tm + 2) c2] := by rw [← hct]; rfl
          rw [hc3] at v1
          subst hsm htm hRL hTL
          exact RR.next (by rw [HL.out.2.1, HL.out.2.2.2]) r2 r3 r4 r5 r6 r7 ha hb hBV y2 y3 (y4.imp id (fun h => by omega)) hBz v1 v2 v3 (v4.imp id (fun h => by omega)))
        clear hFz hBz hI hxz g79 g80 HF10 HP10 HLT10 HCS10 FC10 FX10 HV HK HC
        go_wp2_with fail
        go_roundw
        case rel => exact ⟨k + 1, by go_num, by omega, HN9⟩
        case measure => simp [intOf]; omega
      · have hd3 : decide ((k : Int) < (wn : Int)) = false := decide_eq_false (by omega)
        have hd4 : decide (k < wn) = false := decide_eq_false (by omega)
        have hkn : k = wn := by omega
        obtain ⟨sa, sc, ta, tc, r1, r2, r3, r4, r5, r6, r7⟩ := hR.out
        obtain ⟨hPA, hPB, t1, t2, t3, t5, t6, t8, hxb, hyb⟩ := HT.out
        rw [List.take_of_length_le (by rw [HL.out.2.1]; omega), List.take_of_length_le (by rw [HL.out.2.2.2]; omega)] at r2 r3
        obtain ⟨sm, hsm⟩ : ∃ sm, pn + qn + 2 * k = sm := ⟨_, rfl⟩
        obtain ⟨tm, htm⟩ : ∃ tm, 2 * k = tm := ⟨_, rfl⟩
        rw [hsm, htm] at r1
        rw [hsm] at r2
        rw [htm] at r3
        have hR0 := t1.below r7
        have hrbl := t1.lt
        obtain ⟨d0, y0⟩ := hR0.get 0 _ rfl
        obtain ⟨d1, y1⟩ := hR0.get 1 _ rfl
        have p0 := (r1.get 0 _ rfl).1
        have p1 := (r1.get 1 _ rfl).1
        have hol := r1.lt
        have hrl : rb < wr.heap.size := hR0.lt
        obtain ⟨W9, hW9⟩ : ∃ W9, (wr.setCell ⟨rb, 0, none⟩ (.slice sa sm sc)).setCell ⟨rb, 1, none⟩ (.slice ta tm tc) = W9 := ⟨_, rfl⟩
        have hB9 : BoxAt W9 rb [.slice sa sm sc, .slice ta tm tc] := by rw [← hW9]; exact box_cells (cs := [.slice sa sm sc, .slice ta tm tc]) hR0 rfl
        have hb9 : But (fun j => j = rb) wr W9 := by rw [← hW9]; exact but_setCells rb [.slice sa sm sc, .slice ta tm tc] 0 wr wr (But.refl _ _)
        have q0 := (hB9.get 0 _ rfl).1
        have q1 := (hB9.get 1 _ rfl).1
        have hs2 := t2.size
        have HEnd := hidq (show NetEnd (A.1 ++ B.1 ++ A.2.zip B.2) (Wr.inter A.2 B.2) w (.returned (.agg #[.slice sa sm sc, .slice ta tm tc])) W9 from
          ⟨sa, sm, sc, ta, tm, tc, rfl, by rw [flatP_length, List.length_append, List.length_append, List.length_zip, HL.out.2.1, HL.out.2.2.2, Nat.min_self]; have e1 := HL.out.1; have e2 := HL.out.2.2.1; rw [flatP_length] at e1 e2; have := HQ.out; omega,
            by rw [Wr.inter_length wn _ _ HL.out.2.1 HL.out.2.2.2]; omega,
            by rw [flatP_append, flatP_append, hPA, hPB]; exact r2.but hb9 (fun j hj e => by have := (r4 j hj).1; omega), r3.but hb9 (fun j hj e => by have := (r5 j hj).1; omega),
            fun j hj => Nat.le_trans hs2 (r4 j hj).1, fun j hj => Nat.le_trans hs2 (r5 j hj).1,
            (t2.trans (r7.mono hs2)).trans (hb9.below (by have := r7.size; omega) (fun j hj => by omega))⟩)
        have HW9 := hidq hW9
        clear r1 r2 r3 r4 r5 r6 r7 hPA hPB t1 t2 t3 t5 t6 t8 hxb hyb hR0 hB9 hb9 hW9 hR hkn hsm htm hs2 hrbl
        go_wp2_with fail
        rw [HW9.out]
        exact bodyPost_ret (v := .agg #[.slice sa sm sc, .slice ta tm tc]) (by simp [results, Try.results20, go_sem, q0, q1]) rfl HEnd.out
end Go.Proofs.Ytgkcbihpojkfaaa
